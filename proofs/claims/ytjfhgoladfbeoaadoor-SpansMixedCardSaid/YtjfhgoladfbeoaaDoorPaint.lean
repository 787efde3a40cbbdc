/- Contracts of the reference's painted; of cmp.Or at two codes. -/
import Derived.Test.YtjfhgoladfbeoaaDoorBits
import Derived.Test.YtjfhgoladfbeoaaDoorSpFault
namespace Go.Proofs.YtjfhgoladfbeoaaDoor
open Go.RowKit

def PaSays (w : World) (L : List (Int × Int)) (n : Nat) (e : Ending) (w' : World) : Prop := e = .returned (.slice (some ⟨w.heap.size, 0, none⟩) n n) ∧ PaSt w w' n (WM.cov L)
def PaRel (w : World) (L : List (Int × Int)) (n : Nat) (i : Value) (wr : World) : Prop := ∃ k : Nat, i = .int .i64 k ∧ k ≤ L.length ∧ PaSt w wr n (WM.cov (L.take k))
def PaIn (w : World) (L : List (Int × Int)) (n k a b bx : Nat) (i : Value) (wr : World) : Prop := ∃ z : Nat, i = .int .i64 z ∧ a ≤ z ∧ (z ≤ b ∨ z = a) ∧ Hid (PaSt w wr n (fun j => WM.cov (L.take k) j ∨ (a ≤ j ∧ j < z))) ∧ Hid (Blk wr bx 37 #[.int .i64 a, .int .i64 b])
theorem pa_done {w wr : World} {L : List (Int × Int)} {n k a b z : Nat} (h : PaSt w wr n (fun j => WM.cov (L.take k) j ∨ (a ≤ j ∧ j < z))) (hx : L[k]? = some ((a : Int), (b : Int))) (hzb : z ≤ b ∨ z = a) (hb : ¬ z < b) : PaSt w wr n (WM.cov (L.take (k + 1))) := h.congr fun i => by
  rw [take_atI hx, WM.cov_append, WM.cov_one]
  constructor <;> rintro (h5 | h5)
  · exact .inl h5
  · exact .inr ⟨by dsimp only; omega, by dsimp only; omega⟩
  · exact .inl h5
  · dsimp only at h5; exact .inr ⟨by omega, by omega⟩
set_option maxHeartbeats 4000000 in
theorem painted_any {w : World} {b0 : Nat} {v : Value} {L : List (Int × Int)} (h : OwnI w b0 v L) (n : Nat) (hn : n ≤ 1000000) (hL : ∀ s, s ∈ L → 0 ≤ s.1 ∧ s.1 < s.2 ∧ s.2 ≤ n) :
    Calls Tryd.prog 23 #[v, .int .i64 n] w (PaSays w L n) := by
  have hmk := run_make_row' (P := Tryd.prog) 48 4 (.bool false) 1 Tryd.underlying48 info_bool rfl .i64 .i64 n (by omega) (by omega)
  obtain ⟨A, cap, rfl, hl, hf⟩ := h.form
  have HL := Lib.hid hL
  have HS : Hid (PaSt w (w.alloc (.cells (madeCells #[.bool false] n) 4)) n (WM.cov (L.take 0))) := Lib.hid ⟨(Below.refl _ _).alloc (Nat.le_refl _) _, by simp, fun _ => false, World.rowIs_made w _ n _, fun j hj => by simp [WM.cov_nil]⟩
  clear h hL
  go_enter Tryd.func23, Tryd.ntmps23
  go_wp2_with fail
  go_loopw [13] (fun i wr => PaRel w L n i wr) (fun i _ => L.length - (intOf i).toNat)
  case atStart => exact ⟨0, rfl, Nat.zero_le _, HS.out⟩
  case round =>
    obtain ⟨k, rfl, hk, hP⟩ := hrel
    clear HS
    have hbw := hP.1
    have hsz := hbw.size
    by_cases hlt : k < L.length
    · obtain ⟨g, rfl, hg1, hg2, hfz, hcs⟩ := hf (by omega)
      have hx := List.getElem?_eq_getElem hlt
      have hm := HL.out _ (List.getElem_mem hlt)
      generalize L[k] = x at hx hm
      obtain ⟨p, q⟩ := x
      obtain ⟨hm1, hm2, hm3⟩ := hm
      dsimp only at hm1 hm2 hm3
      obtain ⟨a, rfl⟩ := Int.eq_ofNat_of_zero_le hm1
      obtain ⟨b, rfl⟩ := Int.eq_ofNat_of_zero_le (show 0 ≤ q by omega)
      obtain ⟨hc1, hc2⟩ := hcs k _ hx
      have hd1 := (hbw.cell (p := ⟨g, k * 2, none⟩) hg2).trans hc1
      have hd2 := (hbw.cell (p := ⟨g, k * 2 + 1, none⟩) hg2).trans hc2
      simp only at hd1 hd2
      have HX := Lib.hid hx
      have HP := Lib.hid (hP.alloc (.cells #[.int .i64 a, .int .i64 b] 37))
      have HB := Lib.hid (Blk.new wr 37 #[.int .i64 a, .int .i64 b])
      have hab : a < b := by omega
      have hbn : b ≤ n := by omega
      have hgw : w.heap.size < wr.heap.size := hP.2.1
      clear hx hc1 hc2 hbw hcs hf hfz hP hm1 hm2 hm3
      go_wp2_with fail
      go_loopw [8] (fun i wr2 => PaIn w L n k a b wr.heap.size i wr2) (fun i _ => b - (intOf i).toNat)
      case atStart => exact ⟨a, rfl, Nat.le_refl _, .inr rfl, Lib.hid (HP.out.congr fun i => ⟨.inl, fun h => h.resolve_right (by omega)⟩), HB⟩
      case round =>
        obtain ⟨z, rfl, hz, hzb, HQ, HK⟩ := hrel
        have e1 := HK.out.cell 1
        simp at e1
        by_cases hzl : z < b
        · obtain ⟨⟨t, ht⟩, hft⟩ := HQ.out.at_ (show z < n by omega)
          have HQ2 := Lib.hid ((HQ.out.set z).congr (D := fun j => WM.cov (L.take k) j ∨ (a ≤ j ∧ j < (z + 1 : Nat))) fun i => by
            constructor
            · rintro ((h | h) | h)
              · exact .inl h
              · exact .inr ⟨h.1, by omega⟩
              · exact .inr ⟨by omega, by omega⟩
            · rintro (h | h)
              · exact .inl (.inl h)
              · by_cases e : i = z
                · exact .inr e
                · exact .inl (.inr ⟨h.1, by omega⟩))
          have HK2 := Lib.hid (HK.out.far (p := ⟨w.heap.size, z, none⟩) (by show _ ≠ w.heap.size; omega) (.bool true))
          go_wp2_with fail
          exact ⟨⟨z + 1, by simp, by omega, .inl (by omega), HQ2, HK2⟩, by simp [intOf]; omega⟩
        · have HD := Lib.hid (pa_done HQ.out HX.out hzb hzl)
          go_wp2_with fail
          exact ⟨⟨k + 1, by simp, by omega, HD.out⟩, by simp [intOf]; omega⟩
    · have HD := Lib.hid hP
      obtain rfl : k = L.length := by omega
      clear hP hbw
      go_wp2_with fail
      go_ret
      exact ⟨rfl, HD.out.congr fun i => by rw [List.take_length]⟩
def OrRel (a b : Int) (i : Value) : Prop := ∃ k : Nat, k ≤ 2 ∧ i = .int .i64 k ∧ (k = 1 → a = 0) ∧ (k = 2 → a = 0 ∧ b = 0)
/-- cmp.Or of two codes -/
theorem Or_any (a b : Int) (w : World) {g : Nat} (h0 : w.cell? ⟨g, 0, none⟩ = some (.int .i64 a)) (h1 : w.cell? ⟨g, 1, none⟩ = some (.int .i64 b)) : Calls Tryd.prog 22 #[.slice (some ⟨g, 0, none⟩) 2 2] w fun e w' => e = .returned (.int .i64 (WM.orC a b)) ∧ w = w' := by
  have HE0 : a ≠ 0 → Hid (a = WM.orC a b) := fun h => Lib.hid (by unfold WM.orC; rw [if_neg h])
  have HE1 : a = 0 → Hid (b = WM.orC a b) := fun h => Lib.hid (by unfold WM.orC; rw [if_pos h])
  go_enter Tryd.func22, Tryd.ntmps22
  go_wp2_with fail
  go_loop [8] (fun i => OrRel a b i) (fun i => 2 - (intOf i).toNat)
  case atStart => exact ⟨0, by omega, rfl, fun h => by omega, fun h => by omega⟩
  case round =>
    obtain ⟨k, hk, rfl, hk1, hk2⟩ := hrel
    rcases (show k = 0 ∨ k = 1 ∨ k = 2 by omega) with rfl | rfl | rfl
    · by_cases ha : a = 0
      · have e1 : (a != 0) = false := by rw [ha]; rfl
        have HA := Lib.hid ha
        clear ha hk1 hk2 HE0 HE1
        go_wp2_with fail
        exact ⟨⟨1, by omega, rfl, fun _ => HA.out, fun h => by omega⟩, by simp [intOf]⟩
      · have e1 : (a != 0) = true := bne_iff_ne.2 ha
        have HE := HE0 ha
        clear hk1 hk2 HE0 HE1
        go_wp2_with fail
        go_ret
        exact ⟨by rw [← HE.out]; rfl, rfl⟩
    · have ha := hk1 rfl
      by_cases hb : b = 0
      · have e1 : (b != 0) = false := by rw [hb]; rfl
        have HA := Lib.hid (And.intro ha hb)
        clear ha hb hk1 hk2 HE0 HE1
        go_wp2_with fail
        exact ⟨⟨2, by omega, rfl, fun h => by omega, fun _ => HA.out⟩, by simp [intOf]⟩
      · have e1 : (b != 0) = true := bne_iff_ne.2 hb
        have HE := HE1 ha
        clear ha hk1 hk2 HE0 HE1
        go_wp2_with fail
        go_ret
        exact ⟨by rw [← HE.out]; rfl, rfl⟩
    · have hab := hk2 rfl
      have HE := HE1 hab.1
      have HB := Lib.hid hab.2
      clear hab hk1 hk2 HE0 HE1
      go_wp2_with fail
      go_ret
      exact ⟨by rw [← HE.out, HB.out]; rfl, rfl⟩
end Go.Proofs.YtjfhgoladfbeoaaDoor
