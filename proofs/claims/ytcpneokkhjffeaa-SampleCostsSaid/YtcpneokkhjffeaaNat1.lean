/- Contracts of natural.Of, sample.small. -/
import Derived.Test.YtcpneokkhjffeaaNat0
namespace Go.Proofs.Ytcpneokkhjffeaa
open Go.RowKit

theorem Digs.ne {w : World} {g n b : Nat} {t : TypeId} {cs : Array Value} (h : Digs w g n) (hb : Blk w b t cs) (ht : t ≠ 62) : g ≠ b := by
  rintro rfl
  obtain ⟨f, c, he, _⟩ := h
  unfold Blk at hb
  rw [hb] at he
  injection he with he
  injection he with _ h2 _
  exact ht h2
theorem Num.form {w : World} {v : Value} {N : Nat} (h : Num w v N) : ∃ g n s, v = .slice (some ⟨g, 0, none⟩) n s := by obtain ⟨g, n, s, e, _⟩ := h; exact ⟨g, n, s, e⟩
theorem Num.set_ {w : World} {v : Value} {N b : Nat} {t : TypeId} {cs : Array Value} (h : Num w v N) (hb : Blk w b t cs) (ht : t ≠ 62) (i : Nat) (u : Value) : Num (w.setCell ⟨b, i, none⟩ u) v N := by
  obtain ⟨g, n, s, e, h1, h2, h3⟩ := h
  exact ⟨g, n, s, e, h1, h2, h3.setOther (h3.ne hb ht) _⟩
set_option maxHeartbeats 4000000 in
theorem Of_any (d : Int) (w : World) : Calls Try.prog 45 #[.int .u32 d] w (NumSays 1 w) := by
  have hD : Digs ((w.alloc (.cells #[.slice none 0 0] 67)).alloc (.cells #[.int .u32 d] 62)) (w.heap.size + 1) 1 := by
    refine ⟨fun _ => d, ?_⟩
    have := World.rowIs_alloc (w.alloc (.cells #[.slice none 0 0] 67)) #[.int .u32 d] 62 (fun _ => .int .u32 d) (by intro i hi; simp at hi; subst hi; rfl)
    rw [show (w.alloc (.cells #[.slice none 0 0] 67)).heap.size = w.heap.size + 1 by simp] at this
    exact this
  have hT := trimmed_any (n := 1) (N := 1) hD (by omega) (by omega) (by omega)
  have hW := Lib.hid (((Below.refl w.heap.size w).alloc (Nat.le_refl _) (.cells #[.slice none 0 0] 67)).alloc (by simp) (.cells #[.int .u32 d] 62))
  have HB := Lib.hid ((Blk.new w 67 #[.slice none 0 0]).alloc (.cells #[.int .u32 d] 62))
  clear hD
  go_enter Try.func45, Try.ntmps45
  go_wp2_with fail
  refine hT.mono ?_
  rintro e w1 ⟨v, rfl, hv, hb1⟩
  obtain ⟨g1, n1, s1, rfl⟩ := hv.form
  have hB := HB.out.below hb1 (by simp; omega)
  have f0 := hB.frozen 0
  have c0 : w1.cell? ⟨w.heap.size, 0, none⟩ = some (.slice none 0 0) := hB.cell 0
  have hB2 := hB.set_ 0 (.slice (some ⟨g1, 0, none⟩) n1 s1)
  have r0 : (w1.setCell ⟨w.heap.size, 0, none⟩ (.slice (some ⟨g1, 0, none⟩) n1 s1)).cell? ⟨w.heap.size, 0, none⟩ = some (.slice (some ⟨g1, 0, none⟩) n1 s1) := hB2.cell 0
  have hW2 : Below w.heap.size w w1 := hW.out.trans (hb1.mono (by simp; omega))
  have HE := Lib.hid (show Num (w1.setCell ⟨w.heap.size, 0, none⟩ (.slice (some ⟨g1, 0, none⟩) n1 s1)) (.slice (some ⟨g1, 0, none⟩) n1 s1) 1 ∧ Below w.heap.size w (w1.setCell ⟨w.heap.size, 0, none⟩ (.slice (some ⟨g1, 0, none⟩) n1 s1)) from
    ⟨hv.set_ hB (by decide) 0 (.slice (some ⟨g1, 0, none⟩) n1 s1), hW2.setCell (Nat.le_refl _) _⟩)
  clear hB hB2 hW2 hT hb1 hv
  go_wp2_with fail
  exact bodyPost_ret (v := .agg #[.slice (some ⟨g1, 0, none⟩) n1 s1]) (by simp [results, Try.results45, go_sem, r0]) rfl ⟨_, rfl, HE.out.1, HE.out.2⟩
set_option maxHeartbeats 4000000 in
theorem small_numb (n : Int) (w : World) : Calls Try.prog 35 #[.int .i64 n] w (NumSays 1 w) := by
  have hO := fun d W => Of_any d W
  have hW := Lib.hid ((Below.refl w.heap.size w).alloc (Nat.le_refl _) (.cells #[.slice none 0 0] 67))
  have HB := Lib.hid (Blk.new w 67 #[.slice none 0 0])
  go_enter Try.func35, Try.ntmps35
  go_wp2_with fail
  refine (hO _ _).mono ?_
  rintro e w1 ⟨v, rfl, hv, hb1⟩
  obtain ⟨g1, n1, s1, rfl⟩ := hv.form
  have hB := HB.out.below hb1 (by simp)
  have f0 := hB.frozen 0
  have c0 : w1.cell? ⟨w.heap.size, 0, none⟩ = some (.slice none 0 0) := hB.cell 0
  have hB2 := hB.set_ 0 (.slice (some ⟨g1, 0, none⟩) n1 s1)
  have r0 : (w1.setCell ⟨w.heap.size, 0, none⟩ (.slice (some ⟨g1, 0, none⟩) n1 s1)).cell? ⟨w.heap.size, 0, none⟩ = some (.slice (some ⟨g1, 0, none⟩) n1 s1) := hB2.cell 0
  have hW2 : Below w.heap.size w w1 := hW.out.trans (hb1.mono (by simp))
  have HE := Lib.hid (show Num (w1.setCell ⟨w.heap.size, 0, none⟩ (.slice (some ⟨g1, 0, none⟩) n1 s1)) (.slice (some ⟨g1, 0, none⟩) n1 s1) 1 ∧ Below w.heap.size w (w1.setCell ⟨w.heap.size, 0, none⟩ (.slice (some ⟨g1, 0, none⟩) n1 s1)) from
    ⟨hv.set_ hB (by decide) 0 (.slice (some ⟨g1, 0, none⟩) n1 s1), hW2.setCell (Nat.le_refl _) _⟩)
  clear hB hB2 hW2 hO hb1 hv
  go_wp2_with fail
  exact bodyPost_ret (v := .agg #[.slice (some ⟨g1, 0, none⟩) n1 s1]) (by simp [results, Try.results35, go_sem, r0]) rfl ⟨_, rfl, HE.out.1, HE.out.2⟩
end Go.Proofs.Ytcpneokkhjffeaa
