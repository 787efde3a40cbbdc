/- Contract of the reference's Unquoted. -/
import Derived.Test.YthclllebmbmlmaaDoorUnquote
namespace Go.Proofs.YthclllebmbmlmaaDoor
open Go.RowKit

def unqValR : Option (List UInt8 × Nat) → Value
  | some (r, n) => .tuple #[.string ⟨r.toArray⟩, .int .i64 n, .bool true]
  | none => .tuple #[.string ⟨#[]⟩, .int .i64 0, .bool false]
def UnqOutR (o : Option (List UInt8 × Nat)) (w : World) (en : Ending) (w' : World) : Prop := en = .returned (unqValR o) ∧ Below w.heap.size w w'
theorem unqOutR_none {o : Option (List UInt8 × Nat)} {w w' : World} (h : o = none) (hb : Below w.heap.size w w') : UnqOutR o w (.returned (.tuple #[.string ⟨#[]⟩, .int .i64 0, .bool false])) w' := ⟨by rw [h]; rfl, hb⟩
theorem unqOutR_some {o : Option (List UInt8 × Nat)} {r : List UInt8} {n : Nat} {m : Int} {w w' : World} (h : o = some (r, n)) (hm : m = n) (hb : Below w.heap.size w w') :
    UnqOutR o w (.returned (.tuple #[.string ⟨r.toArray⟩, .int .i64 m, .bool true])) w' := ⟨by rw [h, hm]; rfl, hb⟩
def UnqRelR (s : ByteArray) (w : World) (v x : Value) (wr : World) : Prop := ∃ (p f : Nat) (acc : List UInt8) (R : ByteArray), x = .string R ∧ Hid (R.data.toList = s.data.toList.drop p) ∧ R.size + p = s.size ∧ 1 ≤ p ∧ acc.length ≤ p ∧ OwnB wr w.heap.size v acc ∧ Below w.heap.size w wr ∧
  Hid (QM.unquote s.data.toList = QM.unq f (s.data.toList.drop p) acc p) ∧ s.size < p + f ∧ 0 < f
def strSize : Value → Nat | .string s => s.size | _ => 0

def InRel (R : ByteArray) (u : Value) (wo : World) (v x b i : Value) (wr : World) : Prop := ∃ j : Nat, i = .int .i64 j ∧ v = u ∧ x = .string R ∧ b = .bool false ∧ j ≤ 256 ∧ Hid (∀ c : UInt8, c.toNat < j → ¬ QM.qb c <+: R.data.toList) ∧ Below wo.heap.size wo wr
theorem quote_one (c : UInt8) : ∃ Q : ByteArray, (⟨(QM.quote [c]).toArray⟩ : ByteArray) = Q ∧ 3 ≤ Q.size ∧ Q.size ≤ 6 ∧ Q.extract 1 (Q.size - 1) = ⟨(QM.qb c).toArray⟩ := by
  refine ⟨_, rfl, ?_, ?_, ?_⟩
  · have := (QM.qb_len c).1; simp [ByteArray.size, QM.quote]; omega
  · have := (QM.qb_len c).2; simp [ByteArray.size, QM.quote]; omega
  · apply ByteArray.ext
    apply Array.toList_inj.1
    rw [Lib.extract_data]
    simp [ByteArray.size, QM.quote]
theorem pre_size {R : ByteArray} {l : List UInt8} (h : l <+: R.data.toList) : l.length ≤ R.size := by
  have := h.length_le
  simpa using this
theorem in_done {R : ByteArray} (h : ∀ c : UInt8, c.toNat < 256 → ¬ QM.qb c <+: R.data.toList) : QM.first R.data.toList = none := QM.first_none fun c => h c c.toNat_lt
theorem in_next {R : ByteArray} {c : UInt8} (h : ∀ d : UInt8, d.toNat < c.toNat → ¬ QM.qb d <+: R.data.toList) (hc : (QM.qb c).isPrefixOf R.data.toList = false) : ∀ d : UInt8, d.toNat < c.toNat + 1 → ¬ QM.qb d <+: R.data.toList := by
  intro d hd hp
  rcases Nat.lt_or_ge d.toNat c.toNat with h1 | h1
  · exact h d h1 hp
  · have : d = c := UInt8.toNat_inj.1 (by omega)
    subst this
    rw [← List.isPrefixOf_iff_prefix] at hp
    rw [hp] at hc
    cases hc
theorem in_meas {j : Nat} (h : j < 256) : 256 - (intOf (.int .i64 ((j : Int) + 1))).toNat < 256 - (intOf (.int .i64 (j : Int))).toNat := by simp [intOf]; omega

theorem unq_stepR {s R : ByteArray} {w wr w2 : World} {p f : Nat} {acc q : List UInt8} {c : UInt8} {u v : Value} {row : Option Nat} {o : Obj} (HR : Hid (R.data.toList = s.data.toList.drop p)) (hsz : R.size + p = s.size) (hR : 0 < R.size) (hac : acc.length ≤ p)
    (Hu : Hid (QM.unquote s.data.toList = QM.unq f (s.data.toList.drop p) acc p)) (hf : s.size < p + f) (h34 : Hid (R[0] ≠ 34)) (hc : Hid (QM.first R.data.toList = some c)) (Hq : Hid (QM.qb c = q)) (hqs : q.length ≤ R.size)
    (hown : OwnB w2 w.heap.size v (acc ++ [c])) (hb : Below w.heap.size w wr) (hg : (wr.alloc o).grownBy w2 row) (hr : row = u.ownBlock) (hbase : ∀ j, u.ownBlock = some j → w.heap.size ≤ j) (h1 : 1 ≤ p) :
    UnqRelR s w v (.string (R.extract q.length R.size)) w2 := by
  subst hr
  have hl := QM.qb_len c
  rw [Hq.out] at hl
  obtain ⟨r, hr, hrl⟩ := list1 R hR
  refine ⟨p + q.length, f - 1, acc ++ [c], _, rfl, ?_, by simp; omega, by omega, by simp; omega, hown, (hb.alloc hb.size _).grown hg (by have := hb.size; simp; omega) hbase, ?_, by omega, by omega⟩
  · show _ = _
    rw [extract_drop, HR.out, List.drop_drop]
  · show _ = _
    have hc' := hc.out
    have e := HR.out
    rw [hr] at hc' e
    rw [Hu.out, ← e, unq_some (by omega) h34.out hc', Hq.out, e, List.drop_drop]
theorem grown_undrew {a b : World} {row : Option Nat} (h : a.drew.grownBy b row) : a.grownBy b row := ⟨h.os, h.tape, h.output, h.size, h.block⟩
theorem unq_measR {R : ByteArray} {q : List UInt8} (h : q.length ≤ R.size) (h1 : 1 ≤ q.length) : strSize (.string (R.extract q.length R.size)) < strSize (.string R) := by simp [strSize]; omega

set_option maxRecDepth 100000 in
set_option maxHeartbeats 2000000 in
theorem Unquoted_any (s : ByteArray) (hs2 : s.size ≤ 100000000) (w : World) :
    Calls Tryd.prog 12 #[.string s] w (UnqOutR (QM.unquote s.data.toList) w) := by
  cases hh : Lib.hasPrefix s.data.toList ({ data := #[34] } : ByteArray).data.toList with
  | false =>
    have hu : Hid (QM.unquote s.data.toList = none) := by
      show _ = _
      cases hl : s.data.toList with
      | nil => rfl
      | cons a l =>
        rw [hl] at hh
        have h1 : a ≠ 34 := by rintro rfl; simp [Lib.hasPrefix] at hh
        simp [QM.unquote, h1]
    go_enter Tryd.func12, Tryd.ntmps12
    have HH := Lib.hid hh
    clear hh
    go_wp2_with fail
    refine (Tryd.strings_HasPrefix s _ _).mono ?_
    rintro en w3 ⟨rfl, rfl⟩
    rw [HH.out]
    go_wp2_with fail
    go_ret3
    exact unqOutR_none hu.out (Below.refl _ _)
  | true =>
    have hs : 0 < s.size := by
      rcases Nat.eq_zero_or_pos s.size with h | h
      · have e : s.data.toList = [] := List.eq_nil_of_length_eq_zero (by simpa using h)
        rw [e] at hh; simp [Lib.hasPrefix] at hh
      · exact h
    have hu : Hid (QM.unquote s.data.toList = QM.unq (s.size) (s.data.toList.drop 1) [] 1) := by
      obtain ⟨r, hr, hrl⟩ := list1 s hs
      have h1 : s[0] = 34 := by rw [hr] at hh; have h9 : (34 : UInt8) = s[0] := by simpa [Lib.hasPrefix] using hh
                                exact h9.symm
      show _ = _
      rw [hr, h1, ← hrl]; rfl
    have HH := Lib.hid hh
    clear hh
    go_enter Tryd.func12, Tryd.ntmps12
    go_wp2_with fail
    refine (Tryd.strings_HasPrefix s _ _).mono ?_
    rintro en w3 ⟨rfl, rfl⟩
    rw [HH.out]
    go_wp2_with fail
    go_loopw [5, 6] (fun v x wr => UnqRelR s w3 v x wr) (fun _ x _ => strSize x)
    case atStart => exact ⟨1, s.size, [], _, rfl, extract_drop s 1, by simp; omega, by omega, by simp, OwnB.nil _ _, Below.refl _ _, hu, by omega, hs⟩
    case round =>
      obtain ⟨p, f, acc, R, rfl, HR, hsz, hp1, hac, hown, hb, Hu, hf, hf0⟩ := hrel
      by_cases hR : R.size = 0
      · have he0 : R.data.toList = [] := List.eq_nil_of_length_eq_zero (by simpa using hR)
        have he : R.toList = [] := by rw [ByteArray.toList_eq, he0]
        have hfin : Hid (QM.unquote s.data.toList = none) := by show _ = _; rw [Hu.out, ← HR.out, he0]; exact unq_end _ _ _
        clear he0
        go_wp2_with fail
        go_ret3
        exact unqOutR_none hfin.out hb
      have hR0 : 0 < R.size := by omega
      have he := nonempty_of hR0
      by_cases h3 : R[0] = 34
      · have h3' : ((R[0].toNat : Int) == 34) = true := u8_eq (n := 34) (by omega) h3
        have hfin : Hid (QM.unquote s.data.toList = some (acc, p + 1)) := by obtain ⟨r, hr, _⟩ := list1 R hR0; show _ = _; rw [Hu.out, ← HR.out, hr, h3]; exact unq_quote hf0 _ _ _
        have hcv := conv_bytes hown
        clear h3 hR
        go_wp2_with fail
        go_ret3
        exact unqOutR_some hfin.out (by omega) hb
      · have h34 : Hid (R[0] ≠ 34) := h3
        have h3' : ((R[0].toNat : Int) == 34) = false := u8_ne (n := 34) (by omega) h3
        clear h3 hR
        obtain ⟨wo, rfl⟩ : ∃ wo : World, wo = wr := ⟨_, rfl⟩
        go_wp2_with fail
        go_loopw [5, 6, 7, 28] (fun v x b i wr => InRel R u5 wo v x b i wr) (fun _ _ _ i _ => 256 - (intOf i).toNat)
        case atStart => exact ⟨0, rfl, rfl, rfl, rfl, by omega, fun c h => by omega, Below.refl _ _⟩
        case round =>
          obtain ⟨j, rfl, rfl, rfl, rfl, hj, Hno, hbi⟩ := hrel
          by_cases hlt : j < 256
          · obtain ⟨c, rfl⟩ : ∃ c : UInt8, j = c.toNat := ⟨UInt8.ofNat j, by simp; omega⟩
            have hcv : (convert 40 9 (.slice (some ⟨wr.heap.size, 0, none⟩) 1 1)).run Tryd.prog (wr.alloc (.cells #[.int .u8 c.toNat] 5)) = .ok (.string ⟨#[c]⟩) (wr.alloc (.cells #[.int .u8 c.toNat] 5)) := conv_bytes (OwnB.made wr [c] (by simp [maxLen]))
            go_wp2_with fail
            refine (Quoted_any ⟨#[c]⟩ (by simp [ByteArray.size]) _).mono ?_
            rintro en w4 ⟨rfl, hb4⟩
            clear hcv
            have hbi4 : Below wo.heap.size wo w4 := (hbi.alloc hbi.size _).trans (hb4.mono (by have := hbi.size; simp; omega))
            clear hb4
            obtain ⟨Q, hQ, hQ3, hQ6, hQx⟩ := quote_one c
            have HQx := Lib.hid hQx
            clear hQx
            rw [show ({ data := (QM.quote ({ data := #[c] } : ByteArray).data.toList).toArray } : ByteArray) = Q from hQ]
            clear hQ
            go_wp2_with fail
            rw [HQx.out]
            have hql := (QM.qb_len c).1
            have hql2 := (QM.qb_len c).2
            refine (Tryd.strings_HasPrefix R _ _).mono ?_
            rintro en w5 ⟨rfl, rfl⟩
            cases hp : (QM.qb c).isPrefixOf R.data.toList with
            | false =>
              rw [show Lib.hasPrefix R.data.toList ({ data := (QM.qb c).toArray } : ByteArray).data.toList = false from hp]
              have Hno2 := Lib.hid (in_next Hno.out hp)
              clear hp
              generalize QM.qb c = q at *
              go_wp2_with fail
              exact ⟨⟨c.toNat + 1, rfl, rfl, rfl, rfl, by omega, Hno2.out, hbi4⟩, in_meas hlt⟩
            | true =>
              rw [show Lib.hasPrefix R.data.toList ({ data := (QM.qb c).toArray } : ByteArray).data.toList = true from hp]
              have hpre := List.isPrefixOf_iff_prefix.1 hp
              have hfi := Lib.hid (QM.first_some hpre)
              have hqs := pre_size hpre
              clear hp hpre
              generalize hq : QM.qb c = q at *
              have Hq := Lib.hid hq
              clear hq
              have hown4 := hown.below hbi4 (Nat.le_refl _)
              have hb4 := hb.trans (hbi4.mono hb.size)
              go_wp2_with fail
              have hwr : IntKind.u8.wrap (c.toNat : Int) = c.toNat := IntWalk.u8_in _ (by omega)
              go_region_law (refine step_app_row rfl (.tmp 44) (.tmp 47) rfl w3.heap.size u5 acc rfl ((hown4.drew).alloc _) _ 1 [c] rfl ?_ rfl (lit_cells w5.drew [c] _) (by omega) (by have := hb4.size; simp; omega); intro v2 w6 hown2 hg2)
              all_goals go_wp2_with fail
              all_goals exact ⟨unq_stepR HR hsz hR0 hac Hu hf h34 hfi Hq hqs hown2 hb4 (grown_undrew hg2) rfl hown.base_le hp1, unq_measR hqs hql⟩
          · have hj256 : j = 256 := by omega
            have hfin : Hid (QM.unquote s.data.toList = none) := by
              subst hj256
              obtain ⟨r, hr, _⟩ := list1 R hR0
              have hd := in_done Hno.out
              show _ = _
              rw [Hu.out, ← HR.out]
              rw [hr] at hd ⊢
              exact unq_none h34.out hd
            clear hj256
            have hbf := hb.trans (hbi.mono hb.size)
            go_wp2_with fail
            go_ret3
            exact unqOutR_none hfin.out hbf
end Go.Proofs.YthclllebmbmlmaaDoor
