/- Contract of sample.choices. -/
import Derived.Test.YtcpneokkhjffeaaNums9
import Derived.Test.YtcpneokkhjffeaaOver
import Derived.Test.YtcpneokkhjffeaaTimes
import Derived.Deep.RegionHeld3
namespace Go.Proofs.Ytcpneokkhjffeaa
open Go.RowKit

theorem OwnNm.one (w : World) (base : Nat) (u : Value) (hb : base ≤ w.heap.size) : OwnNm (w.alloc (.cells #[u] 67)) base (.slice (some ⟨w.heap.size, 0, none⟩) 1 1) [u] :=
  ⟨rfl, .inr ⟨w.heap.size, 1, #[u], rfl, hb, heap_alloc_new w _, Nat.le_refl _, by unfold maxLen; omega, rfl, rfl⟩⟩
def ChSays (m : Nat) (w : World) (e : Ending) (w' : World) : Prop := ∃ v L, e = .returned v ∧ OwnNm w' w.heap.size v L ∧ L.length = m + 1 ∧ (∀ u ∈ L, Num w' u (m + 1)) ∧ Below w.heap.size w w'
def ChIn (w : World) (v : Value) (L : List Value) (k : Nat) (wr : World) : Prop := OwnNm wr w.heap.size v L ∧ L.length = k + 1 ∧ (∀ u ∈ L, Num wr u (k + 1)) ∧ Below w.heap.size w wr
def ChRel (w : World) (m : Nat) (v i : Value) (wr : World) : Prop := ∃ (k : Nat) (L : List Value), i = .int .i64 k ∧ k ≤ m ∧ Hid (ChIn w v L k wr)
theorem Num.kept {w w' : World} {v u : Value} {N base : Nat} {L : List Value} (h : Num w u N) (ho : OwnNm w base v L) (hg : w.grownBy w' v.ownBlock) : Num w' u N := by
  obtain ⟨g, n, s, e, h1, h2, f, c, he, hn, hc⟩ := h
  have hB : Blk w g 62 c := he
  refine ⟨g, n, s, e, h1, h2, f, c, hB.grown hg ?_, hn, hc⟩
  intro e2
  rcases ho.2 with ⟨rfl, _⟩ | ⟨g2, cap, cur, rfl, _, hh, _⟩
  · cases e2
  · simp [Value.ownBlock] at e2
    subst e2
    rw [hh] at he
    injection he with he
    injection he with _ h2 _
    exact absurd h2 (by decide)
set_option maxHeartbeats 16000000 in
set_option maxRecDepth 100000 in
theorem choices_any (t m : Nat) (ht : t ≤ 2000) (hm : m ≤ 60) (w : World) : Calls Try.prog 33 #[.int .i64 t, .int .i64 m] w (ChSays m w) := by
  have hS := fun n W => small_numb n W
  have hb0 := Below.refl w.heap.size w
  go_enter Try.func33, Try.ntmps33
  go_wp2_with fail
  refine (hS 1 _).mono ?_
  rintro e w1 ⟨v1, rfl, hn1, hb1⟩
  obtain ⟨g1, n1, s1, rfl⟩ := hn1.form
  have H1 := Lib.hid (show ChIn w (.slice (some ⟨w1.heap.size, 0, none⟩) 1 1) [.slice (some ⟨g1, 0, none⟩) n1 s1] 0 (w1.alloc (.cells #[.slice (some ⟨g1, 0, none⟩) n1 s1] 67)) from
    ⟨OwnNm.one w1 _ _ hb1.size, rfl, fun u hu => by simp at hu; subst hu; exact hn1.alloc _, hb1.alloc hb1.size _⟩)
  clear hn1 hb1 hb0
  go_wp2_with fail
  go_loopw [5, 11] (fun v i wr => ChRel w m v i wr) (fun _ i _ => m - (intOf i).toNat)
  case atStart => exact ⟨0, _, rfl, Nat.zero_le _, H1⟩
  case round =>
    obtain ⟨k, L, rfl, hk, HC⟩ := hrel
    clear H1
    obtain ⟨A, c, rfl, hfA⟩ := HC.out.1.form
    have HL := Lib.hid HC.out.2.1
    have hown : OwnNm wr w.heap.size (.slice A L.length c) L := HC.out.1
    by_cases hlt : k < m
    · obtain ⟨g, rfl, hgb, hcells⟩ := hfA (by have := HL.out; omega)
      obtain ⟨u, hu⟩ : ∃ u, L[k]? = some u := ⟨_, List.getElem?_eq_getElem (by have := HL.out; omega)⟩
      have hnu := HC.out.2.2.1 u (List.mem_of_getElem? hu)
      have hcu := hcells k u hu
      obtain ⟨gu, nu, su, rfl⟩ := hnu.form
      have hgl : g < wr.heap.size := HC.out.1.lt g rfl
      have hcv : IntKind.u32.wrap ((k : Int) + 1) = (k : Int) + 1 := by rw [IntKind.wrap_u32]; omega
      have hSd := fun R => hS R wr.drew
      have hcud : wr.drew.cell? ⟨g, k, none⟩ = some (.slice (some ⟨gu, 0, none⟩) nu su) := hcu
      have HU := Lib.hid (And.intro hnu (And.intro hgl (And.intro hown (And.intro HC.out.2.2.1 HC.out.2.2.2))))
      have hki : (k : Int) < (L.length : Int) := by have := HL.out; omega
      have hk0 : (0 : Int) ≤ (k : Int) := by omega
      have hk60 : k < 60 := by omega
      have hcw : IntKind.i64.wrap ((k : Int) + 1) = (k : Int) + 1 := IntWalk.i64_in _ ⟨by omega, by omega⟩
      have h1000 : k + 1 ≤ 1000 := by omega
      have h1001 : 1 ≤ (k : Int) + 1 ∧ (k : Int) + 1 ≤ 1000 := ⟨by omega, by omega⟩
      have h1002 : k + 2 ≤ 1000 := by omega
      have h1003 : L.length ≤ 1000000 := by have := HL.out; omega
      clear hfA hcells hnu hS hgb hgl hown HC
      go_wp2_with fail
      all_goals
        go_region_held3 (fun w' => w'.cell? ⟨g, k, none⟩ = some (.slice (some ⟨gu, 0, none⟩) nu su))
          (first | (with_reducible exact hcu) | (with_reducible exact hcud) | (with_reducible exact c2) | (with_reducible exact c3) | (with_reducible exact c4) | (with_reducible exact c5) | (with_reducible exact c6) | fail)
          (first
            | ((with_reducible refine (hSd _).mono ?_); rintro e w2 ⟨v2, rfl, hn2, hb2⟩; replace hb2 : Below wr.heap.size wr w2 := ⟨hb2.os, hb2.tape, hb2.output, hb2.size, hb2.block⟩; obtain ⟨g2, n2, s2, rfl⟩ := hn2.form; have c2 := (hb2.cell (p := ⟨g, k, none⟩) HU.out.2.1).trans hcu; have l2 : g < w2.heap.size := Nat.lt_of_lt_of_le HU.out.2.1 hb2.size; have hT := Times_any (N := k + 2) (HU.out.1.below hb2 (Nat.le_refl _)) hn2 h1000 (by omega) (by omega); have HB2 := Lib.hid hb2; clear hn2 hb2)
            | ((with_reducible refine hT.mono ?_); rintro e w3 ⟨v3, rfl, hn3, hb3⟩; obtain ⟨g3, n3, s3, rfl⟩ := hn3.form; have c3 := (hb3.cell (p := ⟨g, k, none⟩) l2).trans c2; have l3 : g < w3.heap.size := Nat.lt_of_lt_of_le l2 hb3.size; have hO := Over_any (d := (k : Int) + 1) hn3 h1002 h1001; have HB3 := Lib.hid (HB2.out.trans (hb3.mono HB2.out.size)); clear hn3 hb3)
            | ((with_reducible refine hO.mono ?_); rintro e w4 ⟨v4, rfl, hn4, hb4⟩; obtain ⟨g4, n4, s4, rfl⟩ := hn4.form; have c4 := (hb4.cell (p := ⟨g, k, none⟩) l3).trans c3; have l4 : g < w4.heap.size := Nat.lt_of_lt_of_le l3 hb4.size; have c5 : (w4.alloc (.cells #[.slice (some ⟨g4, 0, none⟩) n4 s4] 67)).cell? ⟨g, k, none⟩ = some (.slice (some ⟨gu, 0, none⟩) nu su) := (World.cell?_of_block (a := ⟨g, k, none⟩) (Below.heap_alloc w4 _ g l4)).trans c4; have HB4 := Lib.hid (And.intro hn4 (HB3.out.trans (hb4.mono HB3.out.size))); clear hn4 hb4)
            | (have hz := l4; clear hz; (refine step_app_num rfl (.tmp 18) (.tmp 30) rfl w.heap.size g L.length c L rfl rfl ((HU.out.2.2.1.below HB4.out.2 (Nat.le_refl _)).alloc _) _ g4 n4 s4 rfl ?_ (lit_num _ _ _) h1003 (Nat.le_trans HU.out.2.2.2.2.size (Nat.le_trans HB4.out.2.size (by simp)))); intro v5 w5 hown5 hg5 hpre5; have c6 := hpre5 k _ hu; have H5 := Lib.hid (And.intro hown5 (And.intro hg5 c6)); obtain ⟨A5, c5c, rfl, _⟩ := hown5.form)
            | fail)
      all_goals
        have hl5 : (L ++ [Value.slice (some ⟨g4, 0, none⟩) n4 s4]).length = L.length + 1 := by rw [List.length_append]; rfl
        have hoA : OwnNm (w4.alloc (.cells #[.slice (some ⟨g4, 0, none⟩) n4 s4] 67)) w.heap.size (.slice (some ⟨g, 0, none⟩) L.length c) L := (HU.out.2.2.1.below HB4.out.2 (Nat.le_refl _)).alloc _
        have hmem : ∀ u' ∈ L ++ [Value.slice (some ⟨g4, 0, none⟩) n4 s4], Num w5 u' (k + 1 + 1) := by
          intro u' hu'
          rcases List.mem_append.1 hu' with h | h
          · exact ((((HU.out.2.2.2.1 u' h).below HB4.out.2 (Nat.le_refl _)).alloc _).kept hoA H5.out.2.1).more (by omega)
          · simp at h
            subst h
            exact (HB4.out.1.alloc _).kept hoA H5.out.2.1
        have hbl : Below w.heap.size w w5 := below_grownN ((HU.out.2.2.2.2.trans (HB4.out.2.mono HU.out.2.2.2.2.size)).alloc (Nat.le_trans HU.out.2.2.2.2.size HB4.out.2.size) _) H5.out.2.1 (Nat.le_trans HU.out.2.2.2.2.size (Nat.le_trans HB4.out.2.size (by simp))) (fun j hj => by injection hj with hj; subst hj; exact HU.out.2.2.1.base_le g rfl)
        have H6 := Lib.hid (show ChIn w (.slice A5 (L.length + 1) c5c) (L ++ [Value.slice (some ⟨g4, 0, none⟩) n4 s4]) (k + 1) w5 from ⟨by rw [← hl5]; exact H5.out.1, by rw [hl5, HL.out], hmem, hbl⟩)
        have hk2 : k + 1 ≤ m := by omega
        have hk3 : m - (k + 1) < m - k := by omega
        clear hl5 hoA hmem hbl H5 HB4 HU
        go_wp2_with fail
        exact ⟨⟨k + 1, _, by simp, hk2, H6⟩, by simpa [intOf] using hk3⟩
    · have hkm : ¬ ((k : Int) < (m : Int)) := by omega
      have HE := Lib.hid (show OwnNm wr w.heap.size (.slice A L.length c) L ∧ L.length = m + 1 ∧ (∀ u ∈ L, Num wr u (m + 1)) ∧ Below w.heap.size w wr from
        ⟨hown, by have := HL.out; omega, fun u hu => (HC.out.2.2.1 u hu).more (by omega), HC.out.2.2.2⟩)
      clear HC hfA
      go_wp2_with fail
      go_ret
      exact ⟨_, L, rfl, HE.out⟩
end Go.Proofs.Ytcpneokkhjffeaa
