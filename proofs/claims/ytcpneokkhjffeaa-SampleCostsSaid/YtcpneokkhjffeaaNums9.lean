/- Rows of numbers of package natural that a call owns. -/
import Derived.Test.YtcpneokkhjffeaaNat1
import Derived.Lib.AppendStr
import Derived.OwnWalk
import Derived.Deep.OwnRows
namespace Go.Proofs.Ytcpneokkhjffeaa
open Go.RowKit

/-- v is a row of the numbers l in a block from base on -/
def OwnNm (w : World) (base : Nat) (v : Value) (l : List Value) : Prop := w.ownsRow base 67 1 v l.length l
theorem info_num : (Try.prog.info? 67).map (fun i => (i.zero, i.size, i.bytes)) = some (some (.agg #[.slice none 0 0]), 1, 24) := by kernel_rfl
theorem OwnNm.base_le {w : World} {base : Nat} {v : Value} {l : List Value} (h : OwnNm w base v l) : ∀ k, v.ownBlock = some k → base ≤ k := by
  intro k hk
  rcases h.2 with ⟨rfl, _⟩ | ⟨g, cap, cur, rfl, hg, _⟩
  · cases hk
  · simp [Value.ownBlock] at hk; omega
theorem OwnNm.lt {w : World} {base : Nat} {v : Value} {l : List Value} (h : OwnNm w base v l) : ∀ k, v.ownBlock = some k → k < w.heap.size := by
  intro k hk
  rcases h.2 with ⟨rfl, _⟩ | ⟨g, cap, cur, rfl, hg, hh, _⟩
  · cases hk
  · simp [Value.ownBlock] at hk
    subst hk
    rcases Nat.lt_or_ge g w.heap.size with hlt | hge
    · exact hlt
    · rw [Array.getElem?_eq_none hge] at hh; cases hh
theorem OwnNm.drew {w : World} {base : Nat} {v : Value} {l : List Value} (h : OwnNm w base v l) : OwnNm w.drew base v l := h
theorem OwnNm.drewN {w : World} {base : Nat} {v : Value} {l : List Value} (h : OwnNm w base v l) (n : Nat) : OwnNm (w.drewN n) base v l := h
theorem OwnNm.alloc {w : World} {base : Nat} {v : Value} {l : List Value} (h : OwnNm w base v l) (o : Obj) : OwnNm (w.alloc o) base v l := World.ownsRow.alloc h o
theorem OwnNm.nil (w : World) (base : Nat) : OwnNm w base (.slice none 0 0) [] := ⟨rfl, .inl ⟨rfl, rfl⟩⟩
theorem OwnNm.below {w w' : World} {base B : Nat} {v : Value} {l : List Value} (h : OwnNm w base v l) (hb : Below B w w') (hB : w.heap.size ≤ B) : OwnNm w' base v l := by
  refine ⟨h.1, ?_⟩
  rcases h.2 with h2 | ⟨g, cap, cur, rfl, hg, hh, r⟩
  · exact .inl h2
  · refine .inr ⟨g, cap, cur, rfl, hg, (hb.block g ?_).trans hh, r⟩
    have := h.lt g (by simp [Value.ownBlock])
    omega
theorem OwnNm.far {w : World} {base : Nat} {v : Value} {l : List Value} (h : OwnNm w base v l) {b i : Nat} (hb : b < base) (u : Value) : OwnNm (w.setCell ⟨b, i, none⟩ u) base v l := by
  refine ⟨h.1, ?_⟩
  rcases h.2 with h2 | ⟨g, cap, cur, rfl, hg, hh, r⟩
  · exact .inl h2
  · exact .inr ⟨g, cap, cur, rfl, hg, (Below.heap_setCell w ⟨b, i, none⟩ u g (by show g ≠ b; omega)).trans hh, r⟩
theorem below_grownN {B : Nat} {a w w' : World} {row : Option Nat} (h : Below B a w) (hg : w.grownBy w' row) (hB : B ≤ w.heap.size) (hr : ∀ k, row = some k → B ≤ k) : Below B a w' :=
  ⟨hg.os.trans h.os, hg.tape.trans h.tape, hg.output.trans h.output, Nat.le_trans h.size hg.size, fun i hi => (hg.block i (by omega) (fun e => by have := hr i e.symm; omega)).trans (h.block i hi)⟩
/-- a row of numbers as a slice value -/
theorem OwnNm.form {w : World} {base : Nat} {v : Value} {l : List Value} (h : OwnNm w base v l) : ∃ (A : Option Addr) (cap : Nat), v = .slice A l.length cap ∧ (0 < l.length → ∃ g, A = some ⟨g, 0, none⟩ ∧ base ≤ g ∧ ∀ j z, l[j]? = some z → w.cell? ⟨g, j, none⟩ = some z) := by
  rcases h.2 with ⟨rfl, h2⟩ | ⟨g, cap, cur, rfl, hg, hh, hn, hc, hsz, ht⟩
  · exact ⟨none, 0, by rw [h2], fun h0 => by omega⟩
  · refine ⟨_, cap, rfl, fun _ => ⟨g, rfl, hg, fun j z hz => ?_⟩⟩
    rw [cell_of_row w g j cur _ _ hh]
    have h3 : (cur.toList.take (l.length * 1))[j]? = l[j]? := by rw [ht]
    have hj : j < l.length := (List.getElem?_eq_some_iff.1 hz).1
    rw [List.getElem?_take, if_pos (by omega)] at h3
    rw [← Array.getElem?_toList, h3]
    simp [hz]
/-- append of a number, as a step of a region that draws; the old cells hold what they held -/
theorem step_app_num {ops : Array Oper} {o : Oper} {a : Act} {K : Act → World → Prop} {Q : Exit → Act → World → Prop} {E : Prop} {w : World} (hgd : o.guard = none) (sl x : Operand)
    (ho : o.op = .call { callee := .builtin .append, args := #[sl, x], argTypes := #[68, 68] }) (base g0 m0 cap : Nat) (L : List Value) (hs : a.eval sl = .slice (some ⟨g0, 0, none⟩) m0 cap) (hm0 : L.length = m0) (hown : OwnNm w base (.slice (some ⟨g0, 0, none⟩) m0 cap) L) (ad : Addr) (g n s : Nat) (hx : a.eval x = .slice (some ad) 1 1)
    (h : ∀ v' w', OwnNm w' base v' (L ++ [.slice (some ⟨g, 0, none⟩) n s]) → w.grownBy w' (some g0) → (∀ j z, L[j]? = some z → w'.cell? ⟨g0, j, none⟩ = some z) → K (a.put o.dst v') w')
    (hnews : ∀ j u, [Value.slice (some ⟨g, 0, none⟩) n s][j]? = some u → w.cell? (ad.add j) = some u) (hb : L.length ≤ 1000000) (hbase : base ≤ w.heap.size) :
    if Region.wanted o (yielded ops a.tmps) = true then Oper.wp Try.prog o a w K Q else E := by
  subst hm0
  have hw : Region.wanted o (yielded ops a.tmps) = true := by simp [Region.wanted, hgd]
  rw [if_pos hw]
  obtain ⟨i0, hi, hz0, hz1, hz2⟩ := info_parts info_num
  have hn1 : ∀ u ∈ [Value.slice (some ⟨g, 0, none⟩) n s], u.oneCell' = true := by
    intro u hu
    simp at hu
    subst hu
    rfl
  have hm : L.length + 1 ≤ maxLen := by unfold maxLen; omega
  obtain ⟨v', w', hr, h2, h3, -⟩ := run_append_own (P := Try.prog) w base 68 o.type 67 i0 _ 1 24 Try.underlying68 hi hz0 hz1 hz2 rfl (by omega) _ L.length L hown ad 1 1 [Value.slice (some ⟨g, 0, none⟩) n s] rfl hnews hn1 hm (by omega) hbase
  have h2' : OwnNm w' base v' (L ++ [.slice (some ⟨g, 0, none⟩) n s]) := by unfold OwnNm; rw [List.length_append]; exact h2
  have hpre : ∀ j z, L[j]? = some z → w'.cell? ⟨g0, j, none⟩ = some z := by
    intro j z hz
    have hj := (List.getElem?_eq_some_iff.1 hz).1
    obtain ⟨A, c2, he, hA⟩ := hown.form
    injection he with hA0 _ hc2
    subst hA0
    subst hc2
    obtain ⟨_, hgg, _, hcells⟩ := hA (by omega)
    injection hgg with hgg
    injection hgg with hgg _ _
    subst hgg
    have hglt := hown.lt g0 rfl
    by_cases hroom : L.length + 1 ≤ cap
    · rcases hown.2 with ⟨hh, _⟩ | ⟨g', cap', cur, hh, hbg, hg, hnc, hcm, hcs, htake⟩
      · cases hh
      · injection hh with hh1 _ hh2
        injection hh1 with hh1
        injection hh1 with hh1 _ _
        subst hh1
        subst hh2
        have hr2 := run_append_room (P := Try.prog) w 68 o.type 67 i0 Try.underlying68 hi g0 L.length cap cur hg ad 1 1 [Value.slice (some ⟨g, 0, none⟩) n s] (by rw [hz1]; rfl) hnews hn1 hroom (by rw [hz1, hcs]; simp; omega)
        rw [hr] at hr2
        injection hr2 with e1 e2
        subst e1
        obtain ⟨A3, c3, he3, hA3⟩ := h2'.form
        injection he3 with hB0 _ _
        subst hB0
        obtain ⟨g3, hg3, _, hc3⟩ := hA3 (by simp)
        injection hg3 with hg3
        injection hg3 with hg3 _ _
        subst hg3
        exact hc3 j z (by rw [List.getElem?_append_left hj]; exact hz)
    · have hr2 := run_append_grow (P := Try.prog) w 68 o.type 67 i0 _ Try.underlying68 hi hz0 ⟨g0, 0, none⟩ L.length cap L (by rw [hz1]; omega) (fun j z hz => by
          have e : (⟨g0, 0, none⟩ : Addr).add j = ⟨g0, j, none⟩ := by unfold Addr.add; split <;> simp_all
          rw [e]; exact hcells j z hz) ad 1 1 [Value.slice (some ⟨g, 0, none⟩) n s] (by rw [hz1]; rfl) hnews (by omega) (by omega) (growslice_fits (by omega) (by rw [hz2]; omega))
      rw [hr] at hr2
      injection hr2 with e1 e2
      subst e2
      exact (World.cell?_of_block (a := ⟨g0, j, none⟩) (Below.heap_alloc w.drew _ g0 hglt)).trans (hcells j z hz)
  unfold Oper.wp execOp
  simp only [ho, resolve, invoke, builtin, Sem.run_bind, Sem.run_pure, Result.andThen_ok, List.map_toArray, List.map_cons, List.map_nil, hs, hx, hr]
  exact h v' w' h2' h3 hpre
theorem lit_num (w : World) (u0 : Value) (t : TypeId) : ∀ j u, [u0][j]? = some u → (w.alloc (.cells #[u0] t)).cell? ((⟨w.heap.size, 0, none⟩ : Addr).add j) = some u := by
  intro j u h
  have e : (⟨w.heap.size, 0, none⟩ : Addr).add j = ⟨w.heap.size, j, none⟩ := by unfold Addr.add; split <;> simp_all
  rw [e, cell_of_row _ _ j _ _ _ (heap_alloc_new w _)]
  simpa using h
end Go.Proofs.Ytcpneokkhjffeaa
