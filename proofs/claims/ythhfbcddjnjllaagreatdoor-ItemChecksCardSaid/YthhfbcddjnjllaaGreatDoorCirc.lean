/- Contracts of Circles and hasCircle. -/
import Derived.Test.YthhfbcddjnjllaaGreatDoorRowZ
import Derived.Test.YthhfbcddjnjllaaGreatDoorPlant
import Derived.Test.YthhfbcddjnjllaaGreatDoorFC
namespace Go.Proofs.YthhfbcddjnjllaaGreatDoor
open Go.RowKit

def marksV (M : List Nat) : Array Value := (M.map fun (m : Nat) => Value.int .i64 m).toArray
def isZero (v : Value) : Bool := match v with | .int _ z => z == 0 | _ => false
def zerosOf (w : World) (b : Nat) : Nat := match w.heap[b]? with
  | some (.cells cs _ _) => (cs.toList.filter isZero).length
  | _ => 0
theorem zeros_marks {w : World} {b : Nat} {t : TypeId} {M : List Nat} (h : Blk w b t (marksV M)) : zerosOf w b = M.count 0 := by
  unfold zerosOf
  rw [show w.heap[b]? = _ from h]
  show ((marksV M).toList.filter isZero).length = _
  clear h
  unfold marksV
  induction M with
  | nil => rfl
  | cons m M ih =>
    simp only [List.map_cons, List.filter_cons, List.count_cons] at ih ⊢
    by_cases hm : m = 0
    · subst hm
      rw [if_pos (by rfl), List.length_cons, ih]; simp
    · have e : isZero (Value.int .i64 (m : Int)) = false := by unfold isZero; simp; omega
      rw [if_neg (by rw [e]; simp), ih]; simp [hm]
theorem marks_at {M : List Nat} {a m : Nat} (h : M[a]? = some m) : (marksV M)[a]? = some (.int .i64 m) := by
  unfold marksV; simp [h]
theorem marks_set (M : List Nat) (a m : Nat) : (marksV M).setIfInBounds a (.int .i64 m) = marksV (M.set a m) := by
  unfold marksV; simp [List.map_set]
theorem up_at {U : List (Option Nat)} {a : Nat} (h : a < U.length) : (upCells U)[a]? = some (.int .i64 (FM.oi (FM.nx U a))) := by
  unfold upCells FM.nx
  simp [List.getElem?_eq_getElem h]

structure CircRel (U : List (Option Nat)) (w : World) (l i : Value) (wr : World) : Prop where
  i_ : ∃ (k : Nat) (M : List Nat) (xs : List Int), i = .int .i64 k ∧ k ≤ U.length ∧ xs.length ≤ k ∧ FM.Out U M k xs.length ∧ Blk wr w.heap.size 3 (marksV M) ∧ OwnZ wr (w.heap.size + 1) l xs
  below : Below w.heap.size w wr
structure CircIn (U : List (Option Nat)) (k : Nat) (xs : List Int) (l : Value) (w : World) (at' : Value) (wr : World) : Prop where
  i_ : ∃ (M : List Nat) (o : Option Nat) (b : Nat), at' = .int .i64 (FM.oi o) ∧ FM.In U M k xs.length o b ∧ Blk wr w.heap.size 3 (marksV M)
  own : OwnZ wr (w.heap.size + 1) l xs
  below : Below w.heap.size w wr
/-- a slice that is empty if there is no circle -/
def SaysCyc (U : List (Option Nat)) (w : World) (e : Ending) (w' : World) : Prop := ∃ (A : Option Addr) (c cap : Nat), c ≤ 1000000 ∧ e = .returned (.slice A c cap) ∧ (0 < c ↔ FM.cyc U) ∧ (c = 0 → ∀ i, i < U.length → FM.ends U i) ∧ Below w.heap.size w w'

set_option maxRecDepth 100000 in
set_option maxHeartbeats 4000000 in
theorem circles_any (U : List (Option Nat)) (hU : FM.good U) (hn : U.length ≤ 1000000) (bu : Nat) (w : World) (hb : Blk w bu 3 (upCells U)) :
    Calls Tryz.prog 189 #[.slice (some ⟨bu, 0, none⟩) U.length U.length] w (SaysCyc U w) := by
  have HG := Lib.hid hU
  clear hU
  have hbl := hb.lt
  have hmk := fun W => run_make_row' (P := Tryz.prog) 22 3 (.int .i64 0) 8 Tryz.underlying22 (by kernel_rfl) rfl .i64 .i64 U.length (by omega) (by omega) W
  have HL := Lib.hid hn
  clear hn
  go_enter Tryz.func189, Tryz.ntmps189
  go_wp2_with fail
  clear hmk
  go_loopw [3, 12] (fun l i wr => CircRel U w l i wr) (fun _ i _ => U.length - (intOf i).toNat)
  case atStart =>
    refine ⟨⟨0, List.replicate U.length 0, [], rfl, by omega, by simp, FM.Out.start U, ?_, OwnZ.nil _ _⟩, (Below.refl _ _).alloc (Nat.le_refl _) _⟩
    have e : marksV (List.replicate U.length 0) = madeCells #[.int .i64 0] U.length := by rw [made_zero]; simp [marksV]
    rw [e]
    exact Blk.new _ _ _
  case round =>
    obtain ⟨⟨k, M, xs, rfl, hk, hxs, HO, hM, hl⟩, hbw⟩ := hrel
    by_cases hlt : k < U.length
    · have hkb : k < 1000000 := by have := HL.out; omega
      go_wp2_with fail
      go_loopw [6] (fun at' wr => CircIn U k xs u3 w at' wr) (fun _ wr => zerosOf wr w.heap.size)
      case atStart => exact ⟨⟨M, some k, 0, rfl, HO.enter, hM⟩, hl, hbw⟩
      case round =>
        clear hbw hM hl HO M
        obtain ⟨⟨M, o, b, hat, HI, hM⟩, hl, hbw⟩ := hrel
        have hMl : Hid (M.length = U.length) := HI.len
        have hu := hb.below hbw hbl
        cases o with
        | none =>
          obtain rfl : u6 = .int .i64 (-1) := hat
          go_wp2_with fail
          exact ⟨⟨⟨k + 1, M, xs, rfl, by omega, by omega, HI.leave_none hlt, hM, hl⟩, hbw⟩, by simp [intOf]; omega⟩
        | some a =>
          obtain rfl : u6 = .int .i64 (a : Int) := hat
          have ha : a < U.length := HI.at_lt HG.out hlt
          obtain ⟨m, hm⟩ : ∃ m, M[a]? = some m := ⟨_, List.getElem?_eq_getElem (by have := hMl.out; omega)⟩
          have hle := HI.less a m hm
          have HM := Lib.hid hm
          have q1 : ((a : Int) != -1) = true := bne_iff_ne.2 (by omega)
          have cm : wr.cell? ⟨w.heap.size, a, none⟩ = some (.int .i64 m) := (hM.cell a).trans (marks_at HM.out)
          have cf := hM.frozen a
          have cu : wr.cell? ⟨bu, a, none⟩ = some (.int .i64 (FM.oi (FM.nx U a))) := (hu.cell a).trans (up_at ha)
          clear hm
          by_cases h0 : m = 0
          · subst h0
            have hz := zeros_marks hM
            have hpos := HI.measure HM.out
            have HZ := Lib.hid hz
            clear hz
            have hne : ¬ (bu = w.heap.size) := by omega
            have q0 : (((0 : Nat) : Int) == 0) = true := rfl
            go_wp2_with fail
            have hM' := hM.set_ a (.int .i64 ((k + 1 : Nat) : Int))
            rw [marks_set] at hM'
            refine ⟨⟨⟨M.set a (k + 1), FM.nx U a, b + 1, rfl, HI.step HM.out, hM'⟩, hl.far (by omega) _, hbw.setCell (Nat.le_refl _) _⟩, ?_⟩
            show zerosOf _ _ < zerosOf _ _
            have hM2 : Blk (wr.setCell ⟨w.heap.size, a, none⟩ (.int .i64 ((k : Int) + 1))) w.heap.size 3 (marksV (M.set a (k + 1))) := hM'
            rw [HZ.out, zeros_marks hM2]
            have := FM.count_set M a (k + 1) HM.out (by omega)
            omega
          · have q0 : ((m : Int) == 0) = false := beq_eq_false_iff_ne.2 (by omega)
            by_cases h1 : m = k + 1
            · subst h1
              have q2 : (((k + 1 : Nat) : Int) == (k : Int) + 1) = true := beq_iff_eq.2 (by omega)
              have hsz := hbw.size
              have hws := hM.lt
              go_wp2_with (at_builtin; refine app_int _ rfl (.tmp 45) (.tmp 47) rfl (w.heap.size + 1) u3 xs rfl (hl.alloc _) _ 1 [(a : Int)] rfl ?_ rfl (litz_cells wr [(a : Int)] _) ?d1 ?d2; intro v2 w2 hown2 hg2)
              case d1 => omega
              case d2 => simp; omega
              refine ⟨⟨⟨k + 1, M, xs ++ [(a : Int)], rfl, by omega, by simp; omega, ?_, ?_, hown2⟩, ?_⟩, by simp [intOf]; omega⟩
              · rw [List.length_append]; exact HI.leave_mine HG.out hlt HM.out
              · refine (hM.alloc _).grown hg2 (fun e => ?_)
                have := hl.base_le _ e.symm
                omega
              · exact below_grown (hbw.alloc (by omega) _) hg2 (by simp; omega) (fun k hk => by have := hl.base_le k hk; omega)
            · have q2 : ((m : Int) == (k : Int) + 1) = false := beq_eq_false_iff_ne.2 (by omega)
              go_wp2_with fail
              exact ⟨⟨⟨k + 1, M, xs, rfl, by omega, by omega, HI.leave_old hlt HM.out h0 h1, hM, hl⟩, hbw⟩, by simp [intOf]; omega⟩
    · obtain rfl : k = U.length := by omega
      obtain ⟨A, cap, rfl, _⟩ := hl.form
      have HD := Lib.hid HO.done
      go_wp2_with fail
      go_ret
      exact ⟨A, xs.length, cap, by have := HL.out; omega, rfl, HD.out.1, HD.out.2, hbw⟩

def SaysCy (U : List (Option Nat)) (b : Bool) (w : World) (e : Ending) (w' : World) : Prop := e = .returned (.bool b) ∧ (b = false → ∀ i, i < U.length → FM.ends U i) ∧ Below w.heap.size w w'
set_option maxHeartbeats 1000000 in
theorem hasCircle_any (U : List (Option Nat)) (hU : FM.good U) (hn : U.length ≤ 1000000) (v : Value) (bu : Nat) (w : World) (hb : Blk w bu 3 (upCells U)) (b : Bool) (hcy : b = true ↔ FM.cyc U) :
    Calls Tryz.prog 143 #[.agg #[v, .slice (some ⟨bu, 0, none⟩) U.length U.length]] w (SaysCy U b w) := by
  have HC := Lib.hid hcy
  have HG := Lib.hid hU
  clear hcy hU
  go_enter Tryz.func143, Tryz.ntmps143
  go_wp2_with fail
  have hW : ∀ o, Below w.heap.size w (w.alloc o) := fun o => (Below.refl _ _).alloc (Nat.le_refl _) _
  refine (circles_any U HG.out hn bu _ (hb.alloc _)).mono ?_
  rintro e w1 ⟨A, c, cap, hcb, rfl, h1, h2, hw1⟩
  have H1 := Lib.hid (And.intro h1 h2)
  clear h1 h2
  by_cases h0 : 0 < c
  · obtain rfl : b = true := HC.out.2 (H1.out.1.1 h0)
    go_wp2_with fail
    go_ret
    exact ⟨rfl, fun h => by (cases h), (hW _).trans (hw1.mono (hW _).size)⟩
  · have hb0 : b = false := by
      cases b
      · rfl
      · exact absurd (H1.out.1.2 (HC.out.1 rfl)) h0
    subst hb0
    go_wp2_with fail
    go_ret
    exact ⟨rfl, fun _ => H1.out.2 (by omega), (hW _).trans (hw1.mono (hW _).size)⟩
end Go.Proofs.YthhfbcddjnjllaaGreatDoor
