/- Contracts of checkEach, grow and Check. -/
import Derived.Test.YthhfbcddjnjllaaGreatDoorDeep
import Derived.IntWalk
namespace Go.Proofs.YthhfbcddjnjllaaGreatDoor
open Go.RowKit

def IM.lastId (L : List It) (k : Nat) : List UInt8 := match k with | 0 => [] | j + 1 => match L[j]? with | some y => y.id.toList | none => []
def IM.checks (L : List It) : Int := if 2000 < L.length then 2 else IM.eachF [] L
theorem IM.eachF_drop {L : List It} {k : Nat} {x : It} (hx : L[k]? = some x) (last : List UInt8) : IM.eachF last (L.drop k) = if x.fault ≠ 0 then x.fault else if (Op.bytesLess x.id.toList last || x.id.toList == last) = true then 7 else IM.eachF x.id.toList (L.drop (k + 1)) := by
  have hk : k < L.length := (List.getElem?_eq_some_iff.1 hx).1
  rw [List.drop_eq_getElem_cons hk]
  have e : L[k] = x := by rw [List.getElem?_eq_getElem hk] at hx; injection hx
  rw [e]; rfl
theorem says_n {a n : Int} {w w' : World} (h : a = n) (hb : Below w.heap.size w w') : SaysI a w (.returned (.int .i64 n)) w' := ⟨by rw [h], hb⟩
theorem fault_id {x : It} (h : x.fault = 0) : x.id.toList.isEmpty = false := by
  cases hk : KM.key x.id.data.toList with
  | true => exact key_some hk
  | false => unfold It.fault at h; rw [hk] at h; simp at h
theorem first_not_leq {x : It} (h : x.fault = 0) : (Op.bytesLess x.id.toList [] || x.id.toList == []) = false := by
  have := fault_id h
  rw [LX.less_eq]
  cases hs : x.id.toList with
  | nil => rw [hs] at this; cases this
  | cons a l => simp
def IM.smalls (L : List It) : Prop := ∀ (i : Nat) (x : It), L[i]? = some x → x.small

structure EachRel (L : List It) (w : World) (i : Value) (wr : World) : Prop where
  i_ : ∃ k : Nat, i = .int .i64 k ∧ k ≤ L.length ∧ IM.eachF [] L = IM.eachF (IM.lastId L k) (L.drop k)
  below : Below w.heap.size w wr

set_option maxHeartbeats 4000000 in
theorem checkEach_any (L : List It) (A : Option Addr) (cap : Nat) (w : World) (hA : ItRow w A cap L) (hT : Tabs w) (hS : IM.smalls L) (hL : L.length ≤ 1000000) :
    Calls Tryz.prog 142 #[.slice A L.length cap] w (SaysI (IM.checks L) w) := by
  have hcap := hA.capLe
  have hmax := hA.capMax
  by_cases h2 : 2000 < L.length
  · have e : IM.checks L = 2 := by unfold IM.checks; rw [if_pos h2]
    rw [e]
    clear e
    go_enter Tryz.func142, Tryz.ntmps142
    go_wp2_with fail
    go_ret
    exact ⟨rfl, Below.refl _ _⟩
  have HE : Hid (IM.checks L = IM.eachF [] L) := by show _ = _; unfold IM.checks; rw [if_neg h2]
  go_enter Tryz.func142, Tryz.ntmps142
  go_wp2_with fail
  go_loopw [11] (fun i wr => EachRel L w i wr) (fun i _ => L.length - (intOf i).toNat)
  case atStart => exact ⟨⟨0, rfl, by omega, rfl⟩, Below.refl _ _⟩
  case round =>
    obtain ⟨⟨k, rfl, hk, he⟩, hb⟩ := hrel
    have HF := Lib.hid he
    clear he
    by_cases hlt : k < L.length
    · obtain ⟨x, hx⟩ : ∃ x, L[k]? = some x := ⟨_, List.getElem?_eq_getElem hlt⟩
      have HX := Lib.hid hx
      obtain ⟨b, off, rfl, hbl, hat⟩ := (hA.below hb).at_ k x hx
      clear hx
      obtain ⟨c0, c1, c2, c3, c4, c5, c6⟩ := hat
      go_upto_region 6 with (fail)
      clear c0 c1 c2 c3 c4 c5 c6
      have hI := InItem.start x wr 30 (hT.below hb)
      revert hI
      show (InItem x wr (wr.alloc (.cells #[.string x.id, .string x.cu, .int .i64 x.kind, .string x.name, .int .i64 x.at', .string x.parent, .string x.text] 30)) → _)
      generalize (wr.alloc (.cells #[.string x.id, .string x.cu, .int .i64 x.kind, .string x.name, .int .i64 x.at', .string x.parent, .string x.text] 30)) = w5
      intro hI
      obtain ⟨c0, c1, c2, c3, c4, c5, c6⟩ := id hI.box
      go_wp2_with fail
      refine (CheckItem_any x (hS k x HX.out) _ hI.tabs).mono ?_
      rintro e w6 ⟨rfl, hw6⟩
      replace hI := hI.step hw6
      clear hw6 c0 c1 c2 c3 c4 c5 c6
      have hbw := hb.trans (hI.below.mono hb.size)
      obtain ⟨f, hf⟩ : ∃ f, x.fault = f := ⟨_, rfl⟩
      rw [hf]
      have HFa := Lib.hid hf
      clear hf
      by_cases hf0 : f = 0
      · subst hf0
        cases k with
        | zero =>
          have q0 : decide (0 < (((0 : Nat) : Int))) = false := rfl
          go_wp2_with fail
          go_quiet (fail)
          go_wp2_with fail
          refine ⟨⟨⟨1, rfl, by omega, ?_⟩, below_drewN hbw _⟩, by simp [intOf]; omega⟩
          rw [HF.out, IM.eachF_drop HX.out, HFa.out, if_neg (by simp)]
          show (if (Op.bytesLess x.id.toList [] || x.id.toList == []) = true then _ else _) = _
          rw [first_not_leq HFa.out]
          simp only [IM.lastId, HX.out]
          rfl
        | succ j =>
          obtain ⟨y, hy⟩ : ∃ y, L[j]? = some y := ⟨_, List.getElem?_eq_getElem (by omega)⟩
          have HY := Lib.hid hy
          obtain ⟨b', off', hbo, hbl', hat'⟩ := (hA.below hbw).at_ j y hy
          obtain ⟨rfl, rfl⟩ : b = b' ∧ off = off' := by simpa using hbo
          clear hy hbo
          have d0 := hat'.c0
          clear hat'
          have c0 := hI.box.c0
          obtain ⟨q, hq⟩ : ∃ q, (Op.bytesLess x.id.toList y.id.toList || x.id.toList == y.id.toList) = q := ⟨_, rfl⟩
          have HQ := Lib.hid hq
          have q0 : decide (0 < (((j + 1 : Nat) : Int))) = true := decide_eq_true (by omega)
          have e1 : IntKind.i64.wrap (((j + 1 : Nat) : Int) - 1) = (j : Int) := by rw [IntKind.wrap_i64]; omega
          have e2 : ((j + 1 : Nat) : Int) - 1 = (j : Int) := by omega
          have e3 : (0 : Int) ≤ (j : Int) ∧ (j : Int) < (L.length : Int) := by omega
          cases q
          · go_wp2_with fail
            go_quiet (fail)
            clear e1 e2
            go_wp2_with fail
            refine ⟨⟨⟨j + 1 + 1, rfl, by omega, ?_⟩, below_drewN hbw _⟩, by simp [intOf]; omega⟩
            rw [HF.out, IM.eachF_drop HX.out, HFa.out, if_neg (by simp)]
            simp only [IM.lastId, HX.out, HY.out, HQ.out]
            rfl
          · go_wp2_with fail
            go_quiet (fail)
            clear e1 e2
            go_wp2_with fail
            go_ret
            refine says_n ?_ (below_drewN hbw _)
            rw [HE.out, HF.out, IM.eachF_drop HX.out, HFa.out, if_neg (by simp)]
            simp only [IM.lastId, HY.out, HQ.out]
            rfl
      · have qf : (f != 0) = true := bne_iff_ne.2 hf0
        go_wp2_with fail
        go_ret
        refine says_n ?_ hbw
        rw [HE.out, HF.out, IM.eachF_drop HX.out, HFa.out, if_pos hf0]
    · obtain rfl : k = L.length := by omega
      go_wp2_with fail
      go_ret
      refine says_n ?_ hb
      rw [HE.out, HF.out, List.drop_length]; rfl

theorem IM.lack_drop {L : List It} {k : Nat} {x : It} (hx : L[k]? = some x) : IM.lack L (L.drop k) = (IM.lackB L x || IM.lack L (L.drop (k + 1))) := by
  have hk : k < L.length := (List.getElem?_eq_some_iff.1 hx).1
  rw [List.drop_eq_getElem_cons hk]
  have e : L[k] = x := by rw [List.getElem?_eq_getElem hk] at hx; injection hx
  rw [e]; rfl
theorem IM.endF_range (L : List It) (k : Nat) (hk : k < L.length) : IM.endF L ((List.range L.length).drop k) = if IM.mispB L k = true then 16 else if 4 < IM.depth L k then 2 else IM.endF L ((List.range L.length).drop (k + 1)) := by
  rw [List.drop_eq_getElem_cons (by simpa using hk)]
  simp [IM.endF]
theorem IM.checks_zero {L : List It} (h : IM.checks L = 0) : L.length ≤ 2000 ∧ IM.eachF [] L = 0 := by
  unfold IM.checks at h
  split at h
  · cases h
  · exact ⟨by omega, h⟩
theorem IM.fault_checks {L : List It} (h : IM.checks L ≠ 0) : IM.fault L = IM.checks L := by
  unfold IM.checks at *
  unfold IM.fault
  split
  · rfl
  · rename_i h2
    rw [if_neg h2] at h
    rw [if_pos h]
theorem IM.fault_more {L : List It} (h : IM.checks L = 0) : IM.fault L = (open Classical in if IM.lack L L = true then 8 else if FM.cyc (IM.U L) then 14 else IM.endF L (List.range L.length)) := by
  obtain ⟨h1, h2⟩ := IM.checks_zero h
  unfold IM.fault
  rw [if_neg (by omega), if_neg (by rw [h2]; simp)]

/-- inside grow: the forest's box, the result's box -/
structure GrowIn (L : List It) (A : Option Addr) (cap bu bf : Nat) (w wr : World) : Prop where
  wood : Wood wr L A cap bu
  bf_ : Blk wr bf 111 #[.slice A L.length cap, .slice (some ⟨bu, 0, none⟩) L.length L.length]
  r0_ : Blk wr w.heap.size 111 #[.slice none 0 0, .slice none 0 0]
  below : Below w.heap.size w wr
  lt : w.heap.size < bu
theorem GrowIn.step {L : List It} {A : Option Addr} {cap bu bf : Nat} {w wr w' : World} (h : GrowIn L A cap bu bf w wr) (hb : Below wr.heap.size wr w') : GrowIn L A cap bu bf w w' :=
  ⟨h.wood.below hb, h.bf_.below hb h.bf_.lt, h.r0_.below hb h.r0_.lt, h.below.trans (hb.mono h.below.size), h.lt⟩
def LackRel (L : List It) (A : Option Addr) (cap bu bf : Nat) (w : World) (i : Value) (wr : World) : Prop := (∃ k : Nat, i = .int .i64 k ∧ k ≤ L.length ∧ IM.lack L L = IM.lack L (L.drop k)) ∧ GrowIn L A cap bu bf w wr
def EndRel (L : List It) (A : Option Addr) (cap bu bf : Nat) (w : World) (i : Value) (wr : World) : Prop := (∃ k : Nat, i = .int .i64 k ∧ k ≤ L.length ∧ IM.endF L (List.range L.length) = IM.endF L ((List.range L.length).drop k)) ∧ GrowIn L A cap bu bf w wr
/-- a forest and a fault -/
def SaysGrow (L : List It) (A : Option Addr) (cap : Nat) (w : World) (e : Ending) (w' : World) : Prop := Below w.heap.size w w' ∧
  ((IM.fault L ≠ 0 ∧ e = .returned (.tuple #[.agg #[.slice none 0 0, .slice none 0 0], .int .i64 (IM.fault L)])) ∨
   (IM.fault L = 0 ∧ IM.checks L = 0 ∧ (∀ i, i < L.length → FM.ends (IM.U L) i) ∧ ∃ bu, e = .returned (.tuple #[.agg #[.slice A L.length cap, .slice (some ⟨bu, 0, none⟩) L.length L.length], .int .i64 0]) ∧ w.heap.size ≤ bu ∧ Wood w' L A cap bu))

theorem grow_no {L : List It} {A : Option Addr} {cap : Nat} {w w' : World} {n : Int} (hb : Below w.heap.size w w') (hn : n ≠ 0) (h : IM.fault L = n) : SaysGrow L A cap w (.returned (.tuple #[.agg #[.slice none 0 0, .slice none 0 0], .int .i64 n])) w' :=
  ⟨hb, .inl ⟨by rw [h]; exact hn, by rw [h]⟩⟩
set_option maxRecDepth 100000 in
set_option maxHeartbeats 4000000 in
theorem grow_any (L : List It) (A : Option Addr) (cap : Nat) (w : World) (hA : ItRow w A cap L) (hT : Tabs w) (hS : IM.smalls L) (hL : L.length ≤ 1000000) :
    Calls Tryz.prog 84 #[.slice A L.length cap] w (SaysGrow L A cap w) := by
  have hcap := hA.capLe
  have hmax := hA.capMax
  go_enter Tryz.func84, Tryz.ntmps84
  go_upto_region 1 with (fail)
  have hW0 : Below w.heap.size w (w.alloc (.cells #[.slice none 0 0, .slice none 0 0] 111)) := (Below.refl _ _).alloc (Nat.le_refl _) _
  have hR0 := Blk.new w 111 #[.slice none 0 0, .slice none 0 0]
  revert hW0 hR0
  generalize (w.alloc (.cells #[.slice none 0 0, .slice none 0 0] 111)) = w1
  intro hW0 hR0
  go_wp2_with fail
  refine (checkEach_any L A cap _ (hA.below hW0) (hT.below hW0) hS hL).mono ?_
  rintro e w2 ⟨rfl, hw2⟩
  have hb2 := hW0.trans (hw2.mono hW0.size)
  have hR2 := hR0.below hw2 hR0.lt
  clear hw2 hR0 hW0
  by_cases hc : IM.checks L = 0
  · obtain ⟨h2000, hef⟩ := IM.checks_zero hc
    obtain ⟨hf0, hri⟩ := IM.eachF_zero L [] hef
    have HRI := Lib.hid hri
    have HM := Lib.hid (IM.fault_more hc)
    have HC := Lib.hid hc
    clear hf0 hri hef
    rw [hc]
    clear hc
    go_wp2_with fail
    refine (plant_any L A cap _ (hA.below hb2) hL HRI.out).mono ?_
    rintro e w3 ⟨bu, rfl, hbu, hup, hw3⟩
    go_upto_region 5 with (fail)
    have hI : GrowIn L A cap bu w3.heap.size w (w3.alloc (.cells #[.slice A L.length cap, .slice (some ⟨bu, 0, none⟩) L.length L.length] 111)) := by
      have hb3 := hb2.trans (hw3.mono hb2.size)
      have hba : Below w3.heap.size w3 (w3.alloc (.cells #[.slice A L.length cap, .slice (some ⟨bu, 0, none⟩) L.length L.length] 111)) := (Below.refl _ _).alloc (Nat.le_refl _) _
      have hb4 := hb3.trans (hba.mono hb3.size)
      exact ⟨⟨hA.below hb4, hup.alloc _⟩, Blk.new _ _ _, (hR2.below hw3 hR2.lt).alloc _, hb4, by have := hR2.lt; omega⟩
    revert hI
    generalize (w3.alloc (.cells #[.slice A L.length cap, .slice (some ⟨bu, 0, none⟩) L.length L.length] 111)) = w4
    generalize w3.heap.size = bf
    intro hI
    clear hup hw3 hb2 hR2
    go_wp2_with fail
    go_loopw [19] (fun i wr => LackRel L A cap bu bf w i wr) (fun i _ => L.length - (intOf i).toNat)
    case atStart => exact ⟨⟨0, rfl, by omega, rfl⟩, hI⟩
    case round =>
      clear hI
      obtain ⟨⟨k, rfl, hk, hlk⟩, hI⟩ := hrel
      have HLK := Lib.hid hlk
      clear hlk
      by_cases hlt : k < L.length
      · obtain ⟨x, hx⟩ : ∃ x, L[k]? = some x := ⟨_, List.getElem?_eq_getElem hlt⟩
        have HX := Lib.hid hx
        obtain ⟨b, off, rfl, hbl, hat⟩ := hI.wood.row.at_ k x hx
        obtain ⟨c0, c1, c2, c3, c4, c5, c6⟩ := hat
        go_upto_region 8 with (fail)
        clear c0 c1 c2 c3 c4 c5 c6
        have hW : Below wr.heap.size wr (wr.alloc (.cells x.cells 30)) := (Below.refl _ _).alloc (Nat.le_refl _) _
        have d5 : (wr.alloc (.cells x.cells 30)).cell? ⟨wr.heap.size, 5, none⟩ = some (.string x.parent) := World.cell?_alloc_at _ _ _ _ (by simp)
        revert hW d5
        show (Below wr.heap.size wr (wr.alloc (.cells #[.string x.id, .string x.cu, .int .i64 x.kind, .string x.name, .int .i64 x.at', .string x.parent, .string x.text] 30)) → (wr.alloc (.cells #[.string x.id, .string x.cu, .int .i64 x.kind, .string x.name, .int .i64 x.at', .string x.parent, .string x.text] 30)).cell? ⟨wr.heap.size, 5, none⟩ = some (.string x.parent) → _)
        generalize (wr.alloc (.cells #[.string x.id, .string x.cu, .int .i64 x.kind, .string x.name, .int .i64 x.at', .string x.parent, .string x.text] 30)) = w5
        intro hW d5
        replace hI := hI.step hW
        clear hW
        have hkU : k < (IM.U L).length := by rw [IM.U_len]; exact hlt
        have hnx : FM.nx (IM.U L) k = IM.par L x := by rw [IM.U_nx, hx]; rfl
        have cu : w5.cell? ⟨bu, k, none⟩ = some (.int .i64 (FM.oi (IM.par L x))) := by rw [← hnx]; exact (hI.wood.up.cell k).trans (up_at hkU)
        have f1 : w5.cell? ⟨bf, 1, none⟩ = some (.slice (some ⟨bu, 0, none⟩) L.length L.length) := hI.bf_.cell 1
        clear hx hnx hkU
        obtain ⟨p, hp⟩ : ∃ p, x.parent.toList.isEmpty = p := ⟨_, rfl⟩
        cases p
        · have hp2 : ¬ x.parent.toList = [] := by intro h; rw [h] at hp; cases hp
          have hpar : IM.par L x = IM.place L x.parent.toList := by unfold IM.par; rw [hp]; rfl
          rw [hpar] at cu
          cases hpl : IM.place L x.parent.toList with
          | none =>
            rw [hpl] at cu
            change w5.cell? ⟨bu, k, none⟩ = some (.int .i64 (-1)) at cu
            have HLB : Hid (IM.lackB L x = true) := by show _ = _; unfold IM.lackB; rw [hp, hpl]; rfl
            clear hpl hpar
            have r0 : w5.cell? ⟨w.heap.size, 0, none⟩ = some (.slice none 0 0) := hI.r0_.cell 0
            have r1 : w5.cell? ⟨w.heap.size, 1, none⟩ = some (.slice none 0 0) := hI.r0_.cell 1
            have rf0 := hI.r0_.frozen 0
            have rf1 := hI.r0_.frozen 1
            go_wp2_with fail
            refine bodyPost_ret (v := .tuple #[.agg #[.slice none 0 0, .slice none 0 0], .int .i64 8]) (by simp [results, Tryz.results84, go_sem, r0, r1]) rfl ?_
            exact grow_no (hI.below.setCell (Nat.le_refl _) _ |>.setCell (Nat.le_refl _) _) (by omega) (by rw [HM.out, if_pos (by rw [HLK.out, IM.lack_drop HX.out, HLB.out]; rfl)])
          | some q =>
            rw [hpl] at cu
            change w5.cell? ⟨bu, k, none⟩ = some (.int .i64 (q : Int)) at cu
            have HLB : Hid (IM.lackB L x = false) := by show _ = _; unfold IM.lackB; rw [hp, hpl]; rfl
            have q1 : ((q : Int) == -1) = false := beq_eq_false_iff_ne.2 (by omega)
            clear hpl hpar
            go_wp2_with fail
            exact ⟨⟨⟨k + 1, rfl, by omega, by rw [HLK.out, IM.lack_drop HX.out, HLB.out]; rfl⟩, hI⟩, by simp [intOf]; omega⟩
        · have hp2 : x.parent.toList = [] := by simpa using hp
          have HLB : Hid (IM.lackB L x = false) := by show _ = _; unfold IM.lackB; rw [hp]; rfl
          have HP2 := Lib.hid hp2
          clear hp2
          go_wp2_with fail
          exact ⟨⟨⟨k + 1, rfl, by omega, by rw [HLK.out, IM.lack_drop HX.out, HLB.out]; rfl⟩, hI⟩, by simp [intOf]; omega⟩
      · obtain rfl : k = L.length := by omega
        have HL0 : Hid (IM.lack L L = false) := by show _ = _; rw [HLK.out, List.drop_length]; rfl
        clear HLK
        have f0 : wr.cell? ⟨bf, 0, none⟩ = some (.slice A L.length cap) := hI.bf_.cell 0
        have f1 : wr.cell? ⟨bf, 1, none⟩ = some (.slice (some ⟨bu, 0, none⟩) L.length L.length) := hI.bf_.cell 1
        have HUL := Lib.hid (IM.U_len L)
        obtain ⟨cb, hcb⟩ : ∃ cb : Bool, cb = true ↔ FM.cyc (IM.U L) := ⟨(open Classical in decide (FM.cyc (IM.U L))), by simp⟩
        have HCB := Lib.hid hcb
        clear hcb
        have hCI := hasCircle_any (IM.U L) (IM.U_good L) (by rw [IM.U_len]; exact hL) (.slice A L.length cap) bu wr hI.wood.up cb HCB.out
        rw [IM.U_len] at hCI
        go_wp2_with fail
        refine hCI.mono ?_
        clear hCI
        rintro e w6 ⟨rfl, hen, hw6⟩
        have HEN := Lib.hid hen
        clear hen
        replace hI := hI.step hw6
        clear hw6 f0 f1
        cases cb
        · have HM2 : Hid (IM.fault L = IM.endF L (List.range L.length)) := by show _ = _; rw [HM.out, if_neg (by rw [HL0.out]; simp), if_neg (by rw [← HCB.out]; simp)]
          go_wp2_with fail
          go_loopw [42] (fun i wr => EndRel L A cap bu bf w i wr) (fun i _ => L.length - (intOf i).toNat)
          case atStart => exact ⟨⟨0, rfl, by omega, rfl⟩, hI⟩
          case round =>
            clear hI
            obtain ⟨⟨k, rfl, hk, hlk⟩, hI⟩ := hrel
            have HLK := Lib.hid hlk
            clear hlk
            have f0 : wr.cell? ⟨bf, 0, none⟩ = some (.slice A L.length cap) := hI.bf_.cell 0
            have f1 : wr.cell? ⟨bf, 1, none⟩ = some (.slice (some ⟨bu, 0, none⟩) L.length L.length) := hI.bf_.cell 1
            by_cases hlt : k < L.length
            · have HST := Lib.hid (IM.endF_range L k hlt)
              obtain ⟨m, hm⟩ : ∃ m, IM.mispB L k = m := ⟨_, rfl⟩
              go_wp2_with fail
              refine (misplaced_any L A cap bu k hlt _ hI.wood m hm).mono ?_
              rintro e w7 ⟨rfl, hw7⟩
              have HMI := Lib.hid hm
              replace hI := hI.step hw7
              clear hm hw7 f0 f1
              cases m
              · have f0 : w7.cell? ⟨bf, 0, none⟩ = some (.slice A L.length cap) := hI.bf_.cell 0
                have f1 : w7.cell? ⟨bf, 1, none⟩ = some (.slice (some ⟨bu, 0, none⟩) L.length L.length) := hI.bf_.cell 1
                obtain ⟨t, ht⟩ : ∃ t, decide (4 < IM.depth L k) = t := ⟨_, rfl⟩
                go_wp2_with fail
                refine (tooDeep_any L A cap bu k hlt hL _ hI.wood (HEN.out (by simp) k (by rw [IM.U_len]; exact hlt)) t ht).mono ?_
                rintro e w8 ⟨rfl, hw8⟩
                have HT := Lib.hid ht
                replace hI := hI.step hw8
                clear ht hw8 f0 f1
                cases t
                · go_wp2_with fail
                  refine ⟨⟨⟨k + 1, rfl, by omega, ?_⟩, hI⟩, by simp [intOf]; omega⟩
                  rw [HLK.out, HST.out, if_neg (by rw [HMI.out]; simp), if_neg (of_decide_eq_false HT.out)]
                · skip
                  have r0 : w8.cell? ⟨w.heap.size, 0, none⟩ = some (.slice none 0 0) := hI.r0_.cell 0
                  have r1 : w8.cell? ⟨w.heap.size, 1, none⟩ = some (.slice none 0 0) := hI.r0_.cell 1
                  have rf0 := hI.r0_.frozen 0
                  have rf1 := hI.r0_.frozen 1
                  go_wp2_with fail
                  refine bodyPost_ret (v := .tuple #[.agg #[.slice none 0 0, .slice none 0 0], .int .i64 2]) (by simp [results, Tryz.results84, go_sem, r0, r1]) rfl ?_
                  exact grow_no (hI.below.setCell (Nat.le_refl _) _ |>.setCell (Nat.le_refl _) _) (by omega) (by rw [HM2.out, HLK.out, HST.out, if_neg (by rw [HMI.out]; simp), if_pos (of_decide_eq_true HT.out)])
              · skip
                have r0 : w7.cell? ⟨w.heap.size, 0, none⟩ = some (.slice none 0 0) := hI.r0_.cell 0
                have r1 : w7.cell? ⟨w.heap.size, 1, none⟩ = some (.slice none 0 0) := hI.r0_.cell 1
                have rf0 := hI.r0_.frozen 0
                have rf1 := hI.r0_.frozen 1
                go_wp2_with fail
                refine bodyPost_ret (v := .tuple #[.agg #[.slice none 0 0, .slice none 0 0], .int .i64 16]) (by simp [results, Tryz.results84, go_sem, r0, r1]) rfl ?_
                exact grow_no (hI.below.setCell (Nat.le_refl _) _ |>.setCell (Nat.le_refl _) _) (by omega) (by rw [HM2.out, HLK.out, HST.out, if_pos HMI.out])
            · obtain rfl : k = L.length := by omega
              have HZ : Hid (IM.fault L = 0) := by show _ = _; rw [HM2.out, HLK.out, List.drop_of_length_le (by simp)]; rfl
              have r0 : wr.cell? ⟨w.heap.size, 0, none⟩ = some (.slice none 0 0) := hI.r0_.cell 0
              have r1 : wr.cell? ⟨w.heap.size, 1, none⟩ = some (.slice none 0 0) := hI.r0_.cell 1
              have rf0 := hI.r0_.frozen 0
              have rf1 := hI.r0_.frozen 1
              go_wp2_with fail
              refine bodyPost_ret (v := .tuple #[.agg #[.slice A L.length cap, .slice (some ⟨bu, 0, none⟩) L.length L.length], .int .i64 0]) (by simp [results, Tryz.results84, go_sem, r0, r1]) rfl ?_
              have hbf := (hI.below.setCell (p := ⟨w.heap.size, 0, none⟩) (Nat.le_refl _) (.slice A L.length cap)).setCell (p := ⟨w.heap.size, 1, none⟩) (Nat.le_refl _) (.slice (some ⟨bu, 0, none⟩) L.length L.length)
              have hne : bu ≠ w.heap.size := by have := hI.lt; omega
              exact ⟨hbf, .inr ⟨HZ.out, HC.out, fun i hi => HEN.out (by simp) i (by rw [IM.U_len]; exact hi), bu, rfl, Nat.le_of_lt hI.lt, hA.below hbf, (hI.wood.up.far hne _).far hne _⟩⟩
        · skip
          have r0 : w6.cell? ⟨w.heap.size, 0, none⟩ = some (.slice none 0 0) := hI.r0_.cell 0
          have r1 : w6.cell? ⟨w.heap.size, 1, none⟩ = some (.slice none 0 0) := hI.r0_.cell 1
          have rf0 := hI.r0_.frozen 0
          have rf1 := hI.r0_.frozen 1
          go_wp2_with fail
          refine bodyPost_ret (v := .tuple #[.agg #[.slice none 0 0, .slice none 0 0], .int .i64 14]) (by simp [results, Tryz.results84, go_sem, r0, r1]) rfl ?_
          exact grow_no (hI.below.setCell (Nat.le_refl _) _ |>.setCell (Nat.le_refl _) _) (by omega) (by rw [HM.out, if_neg (by rw [HL0.out]; simp), if_pos (HCB.out.1 (by simp))])
  · have q1 : (IM.checks L != 0) = true := bne_iff_ne.2 hc
    have HFc := Lib.hid (IM.fault_checks hc)
    have HC := Lib.hid hc
    clear hc
    have r0 : w2.cell? ⟨w.heap.size, 0, none⟩ = some (.slice none 0 0) := hR2.cell 0
    have r1 : w2.cell? ⟨w.heap.size, 1, none⟩ = some (.slice none 0 0) := hR2.cell 1
    have rf0 := hR2.frozen 0
    have rf1 := hR2.frozen 1
    go_wp2_with fail
    refine bodyPost_ret (v := .tuple #[.agg #[.slice none 0 0, .slice none 0 0], .int .i64 (IM.checks L)]) (by simp [results, Tryz.results84, go_sem, r0, r1]) rfl ?_
    refine ⟨(hb2.setCell (Nat.le_refl _) _).setCell (Nat.le_refl _) _, .inl ⟨by rw [HFc.out]; exact HC.out, by rw [HFc.out]⟩⟩

set_option maxHeartbeats 1000000 in
theorem Check_any (L : List It) (A : Option Addr) (cap : Nat) (w : World) (hA : ItRow w A cap L) (hT : Tabs w) (hS : IM.smalls L) (hL : L.length ≤ 1000000) :
    Calls Tryz.prog 19 #[.slice A L.length cap] w (SaysI (IM.fault L) w) := by
  go_enter Tryz.func19, Tryz.ntmps19
  go_wp2_with fail
  refine (grow_any L A cap _ hA hT hS hL).mono ?_
  rintro e w1 ⟨hb, ⟨h0, rfl⟩ | ⟨h0, _, _, bu, rfl, _, _⟩⟩
  · go_wp2_with fail
    go_ret
    exact ⟨rfl, hb.alloc hb.size _⟩
  · have H0 := Lib.hid h0
    clear h0
    go_wp2_with fail
    go_ret
    exact says_n H0.out (hb.alloc hb.size _)
end Go.Proofs.YthhfbcddjnjllaaGreatDoor
