/- Contracts of brackets, replace (with brackets), Marked. -/
import Derived.Test.YtniphfagpmgabaaDoorDiffer
import Derived.Test.YtniphfagpmgabaaDoorJoin
import Derived.Laws.AppendOwnNone
import Derived.Maps.AppendAt
namespace Go.Proofs.YtniphfagpmgabaaDoor
open Go.RowKit

/-- append of a row that can be read from an address on -/
theorem app_rd {ops : Array Oper} {rest : List Oper} {o : Oper} {a : Act} {Q : Exit → Act → World → Prop} (w : World) (hgd : o.guard = none) (sl x : Operand)
    (ho : o.op = .call { callee := .builtin .append, args := #[sl, x], argTypes := #[45, 45] }) (base : Nat) (v : Value) (l : List ByteArray) (hs : a.eval sl = v) (hown : OwnS w base v l) (A : Option Addr) (m c : Nat) (news : List ByteArray) (hx : a.eval x = .slice A m c) (hm : news.length = m) (hrd : RdO w A news) (hnone : A = none → m = 0 ∧ c = 0)
    (h : ∀ v' w', OwnS w' base v' (l ++ news) → w.grownBy w' v.ownBlock → (v'.ownBlock = v.ownBlock ∨ v'.ownBlock = some w.heap.size) → wpList Tryd.prog ops Q rest (a.put o.dst v') w')
    (hb : l.length + m ≤ 4000000000000) (hbase : base ≤ w.heap.size) : wpList Tryd.prog ops Q (o :: rest) a w := by
  obtain ⟨i0, hi, hz0, hz1, hz2⟩ := info_parts info_str
  subst hm
  rcases A with _ | ad
  · obtain ⟨h1, h2⟩ := hnone rfl
    have hnn : news = [] := List.eq_nil_of_length_eq_zero h1
    subst hnn
    rw [h2] at hx
    refine wpList_append_own_none hgd sl x _ ho base 9 i0 1 Tryd.underlying45 hi v l.length (svs l) hs hown hx ?_
    exact h v w (by rw [List.append_nil]; exact hown) (World.grownBy.refl _ _) (.inl rfl)
  · have hcell : ∀ j u, (svs news)[j]? = some u → w.cell? (ad.add j) = some u := fun j u hu => by
      have hj : j < (svs news).length := (List.getElem?_eq_some_iff.1 hu).1
      rw [svs_len] at hj
      obtain ⟨g, off, e, _, hc⟩ := hrd (by omega)
      obtain rfl := Option.some.inj e
      have e : (⟨g, off, none⟩ : Addr).add j = ⟨g, off + j, none⟩ := by unfold Addr.add; split <;> simp_all
      rw [e]
      simp only [svs, List.getElem?_map, Option.map_eq_some_iff] at hu
      obtain ⟨s, hs, rfl⟩ := hu
      exact hc j s hs
    refine wpList_append_own_at w hgd sl x _ ho base 9 i0 (.string ⟨#[]⟩) 1 16 Tryd.underlying45 hi hz0 hz1 hz2 rfl (by omega) v l.length (svs l) hs hown ad news.length c (svs news) hx (by rw [svs_len]; omega) hcell ?_ (by unfold maxLen; omega) (by omega) hbase ?_
    · intro u hu
      obtain ⟨b, _, rfl⟩ := List.mem_map.1 hu
      rfl
    intro v' w' h1 h2 _ h4
    refine h v' w' ?_ h2 h4
    unfold OwnS
    rw [svs_append, List.length_append]
    exact h1
/-- what Marked writes for a change -/
def brD (c : WM.Chg) : ByteArray := (⟨#[91, 45]⟩ ++ ⟨(WM.joinT c.drop).toArray⟩ : ByteArray) ++ ⟨#[45, 93]⟩
def brA (c : WM.Chg) : ByteArray := (⟨#[123, 43]⟩ ++ ⟨(WM.joinT c.add).toArray⟩ : ByteArray) ++ ⟨#[43, 125]⟩
def bra (c : WM.Chg) : List ByteArray := (if 0 < c.drop.length then [brD c] else []) ++ (if 0 < c.add.length then [brA c] else [])
theorem brD_size (c : WM.Chg) : (brD c).size = 4 + (WM.joinT c.drop).length := by
  unfold brD; simp only [ByteArray.size_append]
  show 2 + (WM.joinT c.drop).toArray.size + 2 = _
  rw [List.size_toArray]; omega
theorem brA_size (c : WM.Chg) : (brA c).size = 4 + (WM.joinT c.add).length := by
  unfold brA; simp only [ByteArray.size_append]
  show 2 + (WM.joinT c.add).toArray.size + 2 = _
  rw [List.size_toArray]; omega
theorem bra_wt (c : WM.Chg) : WM.wt (bra c) ≤ WM.wt c.drop + WM.wt c.add + 10 := by
  have h1 := WM.joinT_wt c.drop
  have h2 := WM.joinT_wt c.add
  have s1 := brD_size c
  have s2 := brA_size c
  unfold bra
  rw [WM.wt_append]
  split <;> split <;> simp only [WM.wt] <;> omega
theorem bra_len (c : WM.Chg) : (bra c).length ≤ 2 := by unfold bra; split <;> split <;> simp
set_option maxHeartbeats 4000000 in
set_option maxRecDepth 100000 in
theorem brackets_any (c : WM.Chg) (vd va : Value) (base : Nat) (w : World) (hd : OwnS w base vd c.drop) (ha : OwnS w base va c.add) (h1 : (WM.joinT c.drop).length ≤ 1000000) (h2 : (WM.joinT c.add).length ≤ 1000000) :
    Calls Tryd.prog 24 #[.agg #[.int .i64 c.at_, vd, va]] w (RowOwn (bra c) w) := by
  have hJ1 := fun W b (h : OwnS W b vd c.drop) => Join_any c.drop b vd W h (by omega)
  have hJ2 := fun W b (h : OwnS W b va c.add) => Join_any c.add b va W h (by omega)
  obtain ⟨Ad, cd, rfl, _⟩ := hd.form
  obtain ⟨Aa, ca, rfl, _⟩ := ha.form
  have hl1 := hd.len_le
  have hl2 := ha.len_le
  have HS := Lib.hid (And.intro hd ha)
  obtain ⟨S1, hs1⟩ : ∃ S1 : ByteArray, (⟨(WM.joinT c.drop).toArray⟩ : ByteArray) = S1 := ⟨_, rfl⟩
  obtain ⟨S2, hs2⟩ : ∃ S2 : ByteArray, (⟨(WM.joinT c.add).toArray⟩ : ByteArray) = S2 := ⟨_, rfl⟩
  have hz1 : S1.size ≤ 1000000 := by rw [← hs1]; show (WM.joinT c.drop).toArray.size ≤ _; rw [List.size_toArray]; exact h1
  have hz2 : S2.size ≤ 1000000 := by rw [← hs2]; show (WM.joinT c.add).toArray.size ≤ _; rw [List.size_toArray]; exact h2
  unfold SaysL at hJ1 hJ2
  rw [hs1] at hJ1
  rw [hs2] at hJ2
  clear h1 h2 hd ha
  go_enter Tryd.func24, Tryd.ntmps24
  go_upto_region 2 with fail
  obtain ⟨w1, hw1⟩ : ∃ w1, w.alloc (.cells #[.int .i64 (c.at_ : Nat), .slice Ad c.drop.length cd, .slice Aa c.add.length ca] 54) = w1 := ⟨_, rfl⟩
  rw [hw1]
  have b1 : Below w.heap.size w w1 := by rw [← hw1]; exact (Below.refl _ _).alloc (Nat.le_refl _) _
  have k1 : Blk w1 w.heap.size 54 #[.int .i64 (c.at_ : Nat), .slice Ad c.drop.length cd, .slice Aa c.add.length ca] := by rw [← hw1]; exact Blk.new w _ _
  have d1 : w1.cell? ⟨w.heap.size, 1, none⟩ = some (.slice Ad c.drop.length cd) := k1.cell 1
  have d2 : w1.cell? ⟨w.heap.size, 2, none⟩ = some (.slice Aa c.add.length ca) := k1.cell 2
  have l1 := k1.lt
  have H1 := Lib.hid (And.intro b1 (And.intro (HS.out.1.below b1 (Nat.le_refl _)) (HS.out.2.below b1 (Nat.le_refl _))))
  clear hw1 b1 k1
  by_cases h3 : 0 < c.drop.length
  · have h3' : (0 : Int) < (c.drop.length : Int) := by omega
    have HP := Lib.hid h3
    clear h3
    by_cases h0 : 0 < c.add.length
    · have h0' : (0 : Int) < (c.add.length : Int) := by omega
      go_wp2_with fail
      refine (hJ1 _ _ H1.out.2.1).mono ?_
      rintro e w2 ⟨rfl, hb2⟩
      have d2' := (hb2.cell (p := ⟨w.heap.size, 2, none⟩) l1).trans d2
      have l2 := Nat.lt_of_lt_of_le l1 hb2.size
      have H2 := Lib.hid (And.intro (H1.out.1.trans (hb2.mono H1.out.1.size)) (H1.out.2.2.below hb2 (Nat.le_refl _)))
      have hz := H2.out.1.size
      clear hb2 hJ1 d1 d2
      go_wp2_with (at_builtin; refine app_strs _ rfl (.tmp 8) (.tmp 14) rfl w.heap.size (.slice none 0 0) [] rfl (OwnS.nil _ _) _ 1 [((⟨#[91, 45]⟩ ++ S1 : ByteArray) ++ ⟨#[45, 93]⟩)] rfl ?_ rfl (lits_cells _ _ _) ?e1 ?e2; intro v3 w3 hown3 hg3; have d2 := ((World.cell?_of_block (a := ⟨w.heap.size, 2, none⟩) (hg3.block w.heap.size (Nat.lt_of_lt_of_le l2 (by simp)) (by simp [Value.ownBlock]))).trans (World.cell?_of_block (a := ⟨w.heap.size, 2, none⟩) (Below.heap_alloc w2 _ w.heap.size l2))).trans d2'; have HX := Lib.hid (And.intro (show OwnS w3 w.heap.size v3 [((⟨#[91, 45]⟩ ++ S1 : ByteArray) ++ ⟨#[45, 93]⟩)] from hown3) (And.intro ((H2.out.1.alloc H2.out.1.size _).grown hg3 (Nat.le_trans hz (by simp)) (fun j hj => by simp [Value.ownBlock] at hj)) (And.intro True.intro ((H2.out.2.alloc _).grown hg3 (fun k _ => by simp [Value.ownBlock]))))); clear hown3 hg3)
      case e1 => simp
      case e2 => simp; omega
      clear d2'
      have HR := Lib.hid (show bra c = [((⟨#[91, 45]⟩ ++ S1 : ByteArray) ++ ⟨#[45, 93]⟩)] ++ [(⟨#[123, 43]⟩ ++ S2 : ByteArray) ++ ⟨#[43, 125]⟩] by unfold bra; rw [if_pos HP.out, if_pos h0]; unfold brA; rw [hs2]; try (unfold brD; rw [hs1]))
      clear h0
      go_wp2_with fail
      refine (hJ2 _ _ HX.out.2.2.2).mono ?_
      rintro e w5 ⟨rfl, hb5⟩
      have H5 := Lib.hid (And.intro (HX.out.1.below hb5 (Nat.le_refl _)) (HX.out.2.1.trans (hb5.mono HX.out.2.1.size)))
      have hz5 := H5.out.2.size
      clear hb5 hJ2 d2
      go_wp2_with (at_builtin; refine app_strs _ rfl (.tmp 20) (.tmp 26) rfl w.heap.size v3 [((⟨#[91, 45]⟩ ++ S1 : ByteArray) ++ ⟨#[45, 93]⟩)] rfl (H5.out.1.alloc _) _ 1 [(⟨#[123, 43]⟩ ++ S2 : ByteArray) ++ ⟨#[43, 125]⟩] rfl ?_ rfl (lits_cells _ _ _) ?e1 ?e2; intro v6 w6 hown6 hg6)
      case e1 => simp
      case e2 => simp; omega
      go_wp2_with fail
      go_ret
      exact ⟨_, rfl, by rw [HR.out]; exact hown6, (H5.out.2.alloc H5.out.2.size _).grown hg6 (by simp; omega) (fun j hj => H5.out.1.base_le j hj)⟩
    · have h0' : c.add.length = 0 := by omega
      go_wp2_with fail
      refine (hJ1 _ _ H1.out.2.1).mono ?_
      rintro e w2 ⟨rfl, hb2⟩
      have d2' := (hb2.cell (p := ⟨w.heap.size, 2, none⟩) l1).trans d2
      have l2 := Nat.lt_of_lt_of_le l1 hb2.size
      have H2 := Lib.hid (And.intro (H1.out.1.trans (hb2.mono H1.out.1.size)) (H1.out.2.2.below hb2 (Nat.le_refl _)))
      have hz := H2.out.1.size
      clear hb2 hJ1 d1 d2
      go_wp2_with (at_builtin; refine app_strs _ rfl (.tmp 8) (.tmp 14) rfl w.heap.size (.slice none 0 0) [] rfl (OwnS.nil _ _) _ 1 [((⟨#[91, 45]⟩ ++ S1 : ByteArray) ++ ⟨#[45, 93]⟩)] rfl ?_ rfl (lits_cells _ _ _) ?e1 ?e2; intro v3 w3 hown3 hg3; have d2 := ((World.cell?_of_block (a := ⟨w.heap.size, 2, none⟩) (hg3.block w.heap.size (Nat.lt_of_lt_of_le l2 (by simp)) (by simp [Value.ownBlock]))).trans (World.cell?_of_block (a := ⟨w.heap.size, 2, none⟩) (Below.heap_alloc w2 _ w.heap.size l2))).trans d2'; have HX := Lib.hid (And.intro (show OwnS w3 w.heap.size v3 [((⟨#[91, 45]⟩ ++ S1 : ByteArray) ++ ⟨#[45, 93]⟩)] from hown3) (And.intro ((H2.out.1.alloc H2.out.1.size _).grown hg3 (Nat.le_trans hz (by simp)) (fun j hj => by simp [Value.ownBlock] at hj)) (And.intro True.intro ((H2.out.2.alloc _).grown hg3 (fun k _ => by simp [Value.ownBlock]))))); clear hown3 hg3)
      case e1 => simp
      case e2 => simp; omega
      clear d2'
      have HR := Lib.hid (show bra c = [((⟨#[91, 45]⟩ ++ S1 : ByteArray) ++ ⟨#[45, 93]⟩)] by unfold bra; rw [if_pos HP.out, if_neg h0, List.append_nil]; unfold brD; rw [hs1])
      clear h0
      go_wp2_with fail
      go_ret
      exact ⟨_, rfl, by rw [HR.out]; exact HX.out.1, HX.out.2.1⟩
  · have h3' : c.drop.length = 0 := by omega
    have HP := Lib.hid h3
    have HX := Lib.hid (And.intro (OwnS.nil w1 w.heap.size) (And.intro H1.out.1 (And.intro True.intro H1.out.2.2)))
    clear h3 hJ1
    by_cases h0 : 0 < c.add.length
    · have h0' : (0 : Int) < (c.add.length : Int) := by omega
      have HR := Lib.hid (show bra c = [] ++ [(⟨#[123, 43]⟩ ++ S2 : ByteArray) ++ ⟨#[43, 125]⟩] by unfold bra; rw [if_neg HP.out, if_pos h0]; unfold brA; rw [hs2]; try (unfold brD; rw [hs1]))
      clear h0
      go_wp2_with fail
      refine (hJ2 _ _ HX.out.2.2.2).mono ?_
      rintro e w5 ⟨rfl, hb5⟩
      have H5 := Lib.hid (And.intro (HX.out.1.below hb5 (Nat.le_refl _)) (HX.out.2.1.trans (hb5.mono HX.out.2.1.size)))
      have hz5 := H5.out.2.size
      clear hb5 hJ2 d2
      go_wp2_with (at_builtin; refine app_strs _ rfl (.tmp 20) (.tmp 26) rfl w.heap.size (.slice none 0 0) [] rfl (H5.out.1.alloc _) _ 1 [(⟨#[123, 43]⟩ ++ S2 : ByteArray) ++ ⟨#[43, 125]⟩] rfl ?_ rfl (lits_cells _ _ _) ?e1 ?e2; intro v6 w6 hown6 hg6)
      case e1 => simp
      case e2 => simp; omega
      go_wp2_with fail
      go_ret
      exact ⟨_, rfl, by rw [HR.out]; exact hown6, (H5.out.2.alloc H5.out.2.size _).grown hg6 (by simp; omega) (fun j hj => H5.out.1.base_le j hj)⟩
    · have h0' : c.add.length = 0 := by omega
      have HR := Lib.hid (show bra c = [] by unfold bra; rw [if_neg HP.out, if_neg h0, List.append_nil])
      clear h0
      go_wp2_with fail
      go_ret
      exact ⟨_, rfl, by rw [HR.out]; exact HX.out.1, HX.out.2.1⟩
end Go.Proofs.YtniphfagpmgabaaDoor
