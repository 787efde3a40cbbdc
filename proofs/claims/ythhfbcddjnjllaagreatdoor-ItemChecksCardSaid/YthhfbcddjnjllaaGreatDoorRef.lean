/- Contracts of the reference: above, Contains, returns, treeFault, ItemsFault. -/
import Derived.Test.YthhfbcddjnjllaaGreatDoorGrow
namespace Go.Proofs.YthhfbcddjnjllaaGreatDoor
open Go.RowKit

/-- no Id is empty -/
def IM.ids (L : List It) : Prop := ∀ (i : Nat) (x : It), L[i]? = some x → x.id.toList.isEmpty = false
theorem IM.ids_none {L : List It} (h : IM.ids L) : IM.place L [] = none := IM.place_none_of fun j z hz e => by
  have := h j z hz
  rw [e] at this; cases this
def zsOf (l : List Nat) : List Int := l.map Int.ofNat
structure AboveR (L : List It) (i : Nat) (w : World) (out k : Value) (wr : World) : Prop where
  i_ : ∃ (m : Nat) (o : Option Nat), m ≤ L.length ∧ k = .int .i64 (FM.oi o) ∧ FM.up (IM.U L) (m + 1) i = o ∧ OwnZ wr w.heap.size out (zsOf ((FM.chain (IM.U L) (L.length + 1) i).take m)) ∧ m ≤ (FM.chain (IM.U L) (L.length + 1) i).length
  below : Below w.heap.size w wr
def lenV (v : Value) : Nat := match v with | .slice _ n _ => n | _ => 0
def SaysAbove (L : List It) (i : Nat) (w : World) (e : Ending) (w' : World) : Prop := ∃ (v : Value) (b : Bool), e = .returned (.tuple #[v, .bool b]) ∧ OwnZ w' w.heap.size v (zsOf (FM.chain (IM.U L) (L.length + 1) i)) ∧ Below w.heap.size w w'

theorem chain_take_succ {L : List It} {i m a : Nat} (hm : m < (FM.chain (IM.U L) (L.length + 1) i).length) (h : FM.up (IM.U L) (m + 1) i = some a) :
    zsOf ((FM.chain (IM.U L) (L.length + 1) i).take (m + 1)) = zsOf ((FM.chain (IM.U L) (L.length + 1) i).take m) ++ [(a : Int)] := by
  have hl := FM.chain_len (IM.U L) (L.length + 1) i
  have hg := FM.chain_get (IM.U L) (L.length + 1) i m (by omega)
  rw [h, List.getElem?_eq_getElem hm] at hg
  injection hg with hg
  rw [List.take_succ_eq_append_getElem hm, hg]
  simp [zsOf]
theorem chain_more {L : List It} {i m a : Nat} (hml : m ≤ L.length) (h : FM.up (IM.U L) (m + 1) i = some a) : m < (FM.chain (IM.U L) (L.length + 1) i).length := by
  have hg := FM.chain_get (IM.U L) (L.length + 1) i m (by omega)
  rw [h] at hg
  exact (List.getElem?_eq_some_iff.1 hg).1
theorem chain_stop {L : List It} {i m : Nat} (hml : m ≤ L.length) (h : FM.up (IM.U L) (m + 1) i = none) : (FM.chain (IM.U L) (L.length + 1) i).length ≤ m := by
  have hg := FM.chain_get (IM.U L) (L.length + 1) i m (by omega)
  rw [h] at hg
  exact List.getElem?_eq_none_iff.1 hg

set_option maxRecDepth 100000 in
set_option maxHeartbeats 4000000 in
theorem aboveR_any (L : List It) (A : Option Addr) (cap i : Nat) (hi : i < L.length) (hL : L.length ≤ 1000000) (w : World) (hA : ItRow w A cap L) (hR : IM.ids L) :
    Calls Tryz.prog 92 #[.slice A L.length cap, .int .i64 i] w (SaysAbove L i w) := by
  have hcap := hA.capLe
  have hmax := hA.capMax
  obtain ⟨x, hx⟩ : ∃ x, L[i]? = some x := ⟨_, List.getElem?_eq_getElem hi⟩
  have HX := Lib.hid hx
  obtain ⟨b, off, rfl, hbl, hat⟩ := hA.at_ i x hx
  have c5 := hat.c5
  have hnx : FM.nx (IM.U L) i = IM.par L x := by rw [IM.U_nx, hx]; rfl
  have HN := Lib.hid hnx
  clear hx hat hnx
  obtain ⟨p, hp⟩ : ∃ p, x.parent.toList.isEmpty = p := ⟨_, rfl⟩
  have HNE := Lib.hid (IM.ids_none hR)
  clear hR
  cases p
  · have hp2 : ¬ x.parent.toList = [] := by intro h; rw [h] at hp; cases hp
    have hpar : IM.place L x.parent.toList = FM.nx (IM.U L) i := by rw [HN.out]; unfold IM.par; rw [hp]; rfl
    have HPP := Lib.hid hpar
    clear hpar
    go_enter Tryz.func92, Tryz.ntmps92
    go_wp2_with fail
    refine (place_any L _ cap x.parent _ hA).mono ?_
    rw [HPP.out]
    rintro e w1 ⟨rfl, hb1⟩
    go_wp2_with fail
    go_loopw [6, 7] (fun out k wr => AboveR L i w out k wr) (fun out _ _ => L.length + 1 - lenV out)
    case atStart => exact ⟨⟨0, _, by omega, rfl, rfl, OwnZ.nil _ _, by omega⟩, hb1⟩
    case round =>
      obtain ⟨⟨m, o, hm, hk, ho, hown, hmc⟩, hb⟩ := hrel
      have HO := Lib.hid ho
      have HMC := Lib.hid hmc
      clear ho hmc
      have c5' : wr.cell? ⟨b, off + i * 7 + 5, none⟩ = some (.string x.parent) := (hb.cell (p := ⟨b, off + i * 7 + 5, none⟩) hbl).trans c5
      cases o with
      | none =>
        obtain rfl : u7 = .int .i64 (-1) := hk
        have hst := chain_stop hm HO.out
        have e : zsOf ((FM.chain (IM.U L) (L.length + 1) i).take m) = zsOf (FM.chain (IM.U L) (L.length + 1) i) := by rw [List.take_of_length_le hst]
        rw [e] at hown
        clear e hst
        obtain ⟨A', cap', rfl, _⟩ := hown.form
        go_wp2_with fail
        go_ret2
        exact ⟨_, _, rfl, hown, hb⟩
      | some a =>
        obtain rfl : u7 = .int .i64 (a : Int) := hk
        have ha : a < L.length := by have := FM.up_lt (IM.U_good L) (by rw [IM.U_len]; exact hi) HO.out; rw [IM.U_len] at this; exact this
        obtain ⟨y, hy⟩ : ∃ y, L[a]? = some y := ⟨_, List.getElem?_eq_getElem ha⟩
        have HY := Lib.hid hy
        clear hy
        have hsz := hb.size
        have hlen : (zsOf ((FM.chain (IM.U L) (L.length + 1) i).take m)).length = m := by have := HMC.out; simp [zsOf]; omega
        have HLE := Lib.hid hlen
        obtain ⟨A', cap', hv, _⟩ := hown.form
        rw [hlen] at hv
        have HV := Lib.hid hv
        clear hv
        have HMORE := Lib.hid (chain_more hm HO.out)
        have HLE2 : Hid ((zsOf ((FM.chain (IM.U L) (L.length + 1) i).take (m + 1))).length = m + 1) := by have := HMORE.out; show _ = _; simp [zsOf]; omega
        obtain ⟨b', off', hbo, hbl', hat'⟩ := hA.at_ a y HY.out
        obtain ⟨rfl, rfl⟩ : b = b' ∧ off = off' := by simpa using hbo
        have hy5 := hat'.c5
        have hup : FM.up (IM.U L) (m + 2) i = IM.par L y := by rw [FM.up_succ, HO.out]; show FM.nx (IM.U L) a = _; rw [IM.U_nx, HY.out]; rfl
        have HUP := Lib.hid hup
        have hcl := FM.chain_len (IM.U L) (L.length + 1) i
        have hm0 : lenV u6 = m := by rw [HV.out]; rfl
        have HM0 := Lib.hid hm0
        have hmore := HMORE.out
        clear hup hbo hat' hm0 hlen
        by_cases hgt : L.length < m + 1
        · have hgt' : (L.length : Int) < (m : Int) + 1 := by omega
          go_wp2_with (at_builtin; refine app_int _ rfl (.tmp 32) (.tmp 34) rfl w.heap.size u6 _ rfl (hown.alloc _) _ 1 [(a : Int)] rfl ?_ rfl (litz_cells wr [(a : Int)] _) ?d1 ?d2; intro v2 w2 hown2 hg2; rw [← chain_take_succ HMORE.out HO.out] at hown2; obtain ⟨A2, cap2, hv2, hform⟩ := hown2.form; rw [HLE2.out] at hv2; subst hv2; clear hform; have hb2 : Below w.heap.size w w2 := below_grown (hb.alloc hsz _) hg2 (by simp; omega) (fun k hk => hown.base_le k hk); have d5 := (hb2.cell (p := ⟨b, off + a * 7 + 5, none⟩) hbl).trans hy5)
          case d1 => rw [HLE.out]; omega
          case d2 => first | omega | (simp; omega)
          have e : zsOf ((FM.chain (IM.U L) (L.length + 1) i).take (m + 1)) = zsOf (FM.chain (IM.U L) (L.length + 1) i) := by rw [List.take_of_length_le (by omega)]
          rw [e] at hown2
          clear e
          go_ret2
          exact ⟨_, _, rfl, hown2, hb2⟩
        · have hgt' : ¬ (L.length : Int) < (m : Int) + 1 := by omega
          obtain ⟨q, hq⟩ : ∃ q, y.parent.toList.isEmpty = q := ⟨_, rfl⟩
          cases q
          · have hq2 : ¬ y.parent.toList = [] := by intro h; rw [h] at hq; cases hq
            have hpar : IM.place L y.parent.toList = IM.par L y := by unfold IM.par; rw [hq]; rfl
            have HPQ := Lib.hid hpar
            clear hpar
            go_wp2_with (at_builtin; refine app_int _ rfl (.tmp 32) (.tmp 34) rfl w.heap.size u6 _ rfl (hown.alloc _) _ 1 [(a : Int)] rfl ?_ rfl (litz_cells wr [(a : Int)] _) ?d1 ?d2; intro v2 w2 hown2 hg2; rw [← chain_take_succ HMORE.out HO.out] at hown2; obtain ⟨A2, cap2, hv2, hform⟩ := hown2.form; rw [HLE2.out] at hv2; subst hv2; clear hform; have hb2 : Below w.heap.size w w2 := below_grown (hb.alloc hsz _) hg2 (by simp; omega) (fun k hk => hown.base_le k hk); have d5 := (hb2.cell (p := ⟨b, off + a * 7 + 5, none⟩) hbl).trans hy5)
            case d1 => rw [HLE.out]; omega
            case d2 => first | omega | (simp; omega)
            refine (place_any L _ cap y.parent _ (hA.below hb2)).mono ?_
            rw [HPQ.out]
            rintro e w3 ⟨rfl, hb3⟩
            go_wp2_with fail
            refine ⟨⟨⟨m + 1, _, by omega, rfl, HUP.out, hown2.below hb3 (Nat.le_refl _), by omega⟩, hb2.trans (hb3.mono hb2.size)⟩, ?_⟩
            show L.length + 1 - lenV _ < L.length + 1 - lenV _
            rw [HM0.out]
            show L.length + 1 - (m + 1) < _
            omega
          · have hq2 : y.parent.toList = [] := by simpa using hq
            have hst : (FM.chain (IM.U L) (L.length + 1) i).length ≤ m + 1 := chain_stop (by omega) (by rw [HUP.out]; unfold IM.par; rw [hq]; rfl)
            have HQ2 := Lib.hid hq2
            clear hq2
            go_wp2_with (at_builtin; refine app_int _ rfl (.tmp 32) (.tmp 34) rfl w.heap.size u6 _ rfl (hown.alloc _) _ 1 [(a : Int)] rfl ?_ rfl (litz_cells wr [(a : Int)] _) ?d1 ?d2; intro v2 w2 hown2 hg2; rw [← chain_take_succ HMORE.out HO.out] at hown2; obtain ⟨A2, cap2, hv2, hform⟩ := hown2.form; rw [HLE2.out] at hv2; subst hv2; clear hform; have hb2 : Below w.heap.size w w2 := below_grown (hb.alloc hsz _) hg2 (by simp; omega) (fun k hk => hown.base_le k hk); have d5 := (hb2.cell (p := ⟨b, off + a * 7 + 5, none⟩) hbl).trans hy5)
            case d1 => rw [HLE.out]; omega
            case d2 => first | omega | (simp; omega)
            have e : zsOf ((FM.chain (IM.U L) (L.length + 1) i).take (m + 1)) = zsOf (FM.chain (IM.U L) (L.length + 1) i) := by rw [List.take_of_length_le hst]
            rw [e] at hown2
            clear e hst
            go_ret2
            exact ⟨_, _, rfl, hown2, hb2⟩
  · have hp2 : x.parent.toList = [] := by simpa using hp
    have HC : Hid (FM.chain (IM.U L) (L.length + 1) i = []) := by
      show _ = _
      unfold FM.chain
      rw [HN.out]
      unfold IM.par
      rw [hp]; rfl
    have HP2 := Lib.hid hp2
    clear hp2
    go_enter Tryz.func92, Tryz.ntmps92
    go_wp2_with fail
    refine (place_any L _ cap x.parent _ hA).mono ?_
    rw [HP2.out, HNE.out]
    rintro e w1 ⟨rfl, hb1⟩
    rw [show FM.oi none = -1 from rfl]
    go_wp2_with fail
    go_loopw [6, 7] (fun out k wr => out = .slice none 0 0 ∧ k = .int .i64 (-1) ∧ Below w.heap.size w wr) (fun _ _ _ => 0)
    case atStart => exact ⟨rfl, rfl, hb1⟩
    case round =>
      obtain ⟨rfl, rfl, hb⟩ := hrel
      go_wp2_with fail
      go_ret2
      exact ⟨_, _, rfl, by rw [HC.out]; exact OwnZ.nil _ _, hb⟩

def IxRel (l : List Int) (x : Int) (i : Value) : Prop := ∃ k : Nat, k ≤ l.length ∧ i = .int .i64 k ∧ Hid (∀ (j : Nat) (z : Int), j < k → l[j]? = some z → z ≠ x)
def SaysX (l : List Int) (x : Int) (w : World) (e : Ending) (w' : World) : Prop := ∃ n : Int, -1 ≤ n ∧ n ≤ 10000000 ∧ (x ∈ l → 0 ≤ n) ∧ (¬ x ∈ l → n < 0) ∧ e = .returned (.int .i64 n) ∧ w = w'
set_option maxHeartbeats 1000000 in
theorem indexI_any (l : List Int) (x : Int) (v : Value) (base : Nat) (w : World) (hown : OwnZ w base v l) (hl : l.length ≤ 1000001) :
    Calls Tryz.prog 245 #[v, .int .i64 x] w (SaysX l x w) := by
  obtain ⟨A, cap, rfl, hc⟩ := hown.form
  clear hown
  have HC := Lib.hid hc
  clear hc
  go_enter Tryz.func245, Tryz.ntmps245
  go_wp2_with fail
  go_loop [8] (fun i => IxRel l x i) (fun i => l.length - (intOf i).toNat)
  case atStart => exact ⟨0, by omega, rfl, fun j z h => by omega⟩
  case round =>
    obtain ⟨k, hk, rfl, H⟩ := hrel
    by_cases hlt : k < l.length
    · obtain ⟨g, rfl, hg, hcell⟩ := HC.out (by omega)
      obtain ⟨z, hz⟩ : ∃ z, l[k]? = some z := ⟨_, List.getElem?_eq_getElem hlt⟩
      have c := hcell k z hz
      have HZ := Lib.hid hz
      clear hz hcell
      by_cases he : x = z
      · have q : (x == z) = true := beq_iff_eq.2 he
        have HM : Hid (x ∈ l) := by show _; rw [he]; exact List.mem_of_getElem? HZ.out
        clear he
        go_wp2_with fail
        go_ret
        exact ⟨k, by omega, by omega, fun _ => by omega, fun h => absurd HM.out h, rfl, rfl⟩
      · have q : (x == z) = false := beq_eq_false_iff_ne.2 he
        have HN := Lib.hid he
        clear he
        go_wp2_with fail
        refine ⟨⟨k + 1, by omega, rfl, ?_⟩, by simp [intOf]; omega⟩
        intro j y hj hy
        rcases Nat.lt_or_ge j k with h1 | h1
        · exact H.out j y h1 hy
        · have e : j = k := by omega
          subst e
          have := HZ.out
          rw [hy] at this
          injection this with this
          subst this
          exact fun e => HN.out e.symm
    · have HM : Hid (¬ x ∈ l) := by
        show ¬ _
        intro hx
        obtain ⟨j, hj⟩ := List.getElem?_of_mem hx
        exact H.out j x (by have := (List.getElem?_eq_some_iff.1 hj).1; omega) hj rfl
      go_wp2_with fail
      go_ret
      exact ⟨-1, by omega, by omega, fun h => absurd h HM.out, fun _ => by omega, rfl, rfl⟩
set_option maxHeartbeats 1000000 in
theorem containsI_any (l : List Int) (x : Int) (v : Value) (base : Nat) (w : World) (hown : OwnZ w base v l) (hl : l.length ≤ 1000001) (b : Bool) (hb : b = true ↔ x ∈ l) :
    Calls Tryz.prog 190 #[v, .int .i64 x] w (SaysK b w) := by
  have HB := Lib.hid hb
  clear hb
  go_enter Tryz.func190, Tryz.ntmps190
  go_wp2_with fail
  refine (indexI_any l x v base _ hown hl).mono ?_
  rintro e w' ⟨n, h1, h2, h3, h4, rfl, rfl⟩
  have H := Lib.hid (And.intro h3 h4)
  clear h3 h4
  cases b
  · have hn : n < 0 := H.out.2 (fun h => by have := HB.out.2 h; cases this)
    have q : decide (n < 0) = true := decide_eq_true hn
    have q2 : decide (0 ≤ n) = false := decide_eq_false (by omega)
    go_wp2_with fail
    go_ret
    exact ⟨rfl, Below.refl _ _⟩
  · have hn : 0 ≤ n := H.out.1 (HB.out.1 rfl)
    have q2 : decide (0 ≤ n) = true := decide_eq_true hn
    go_wp2_with fail
    go_ret
    exact ⟨rfl, Below.refl _ _⟩

def IM.retB (L : List It) (i : Nat) : Prop := i ∈ FM.chain (IM.U L) (L.length + 1) i
theorem mem_zs {l : List Nat} {i : Nat} : (i : Int) ∈ zsOf l ↔ i ∈ l := by
  unfold zsOf
  rw [List.mem_map]
  constructor
  · rintro ⟨a, ha, e⟩
    have : a = i := Int.ofNat.inj e
    rw [← this]; exact ha
  · exact fun h => ⟨i, h, rfl⟩
set_option maxHeartbeats 1000000 in
theorem returns_any (L : List It) (A : Option Addr) (cap i : Nat) (hi : i < L.length) (hL : L.length ≤ 1000000) (w : World) (hA : ItRow w A cap L) (hR : IM.ids L) (b : Bool) (hb : b = true ↔ IM.retB L i) :
    Calls Tryz.prog 148 #[.slice A L.length cap, .int .i64 i] w (SaysK b w) := by
  have HB := Lib.hid hb
  clear hb
  have HR := Lib.hid hR
  clear hR
  go_enter Tryz.func148, Tryz.ntmps148
  go_wp2_with fail
  refine (aboveR_any L A cap i hi hL _ hA HR.out).mono ?_
  rintro e w1 ⟨v, q, rfl, hown, hb1⟩
  have hcl := FM.chain_len (IM.U L) (L.length + 1) i
  go_wp2_with fail
  refine (containsI_any _ i v _ _ hown (by simp [zsOf]; omega) b (HB.out.trans mem_zs.symm)).mono ?_
  rintro e w2 ⟨rfl, hb2⟩
  go_wp2_with fail
  go_ret
  exact ⟨rfl, hb1.trans (hb2.mono hb1.size)⟩
end Go.Proofs.YthhfbcddjnjllaaGreatDoor
