/- Contract of Unquote. -/
import Derived.Test.YthhfbcddjnjllaaGreatDoorUnesc
namespace Go.Proofs.YthhfbcddjnjllaaGreatDoor
open Go.RowKit

def unqVal : Option (List UInt8 × Nat) → Value
  | some (r, n) => .tuple #[.string ⟨r.toArray⟩, .int .i64 n, .int .i64 0]
  | none => .tuple #[.string ⟨#[]⟩, .int .i64 0, .int .i64 9]
def UnqOut (o : Option (List UInt8 × Nat)) (w : World) (en : Ending) (w' : World) : Prop := en = .returned (unqVal o) ∧ Below w.heap.size w w'
theorem unqOut_none {o : Option (List UInt8 × Nat)} {w w' : World} (h : o = none) (hb : Below w.heap.size w w') : UnqOut o w (.returned (.tuple #[.string ⟨#[]⟩, .int .i64 0, .int .i64 9])) w' := ⟨by rw [h]; rfl, hb⟩
theorem unqOut_some {o : Option (List UInt8 × Nat)} {r : List UInt8} {n : Nat} {m : Int} {w w' : World} (h : o = some (r, n)) (hm : m = n) (hb : Below w.heap.size w w') :
    UnqOut o w (.returned (.tuple #[.string ⟨r.toArray⟩, .int .i64 m, .int .i64 0])) w' := ⟨by rw [h, hm]; rfl, hb⟩
def UnqRel (L : List UInt8) (w : World) (v i : Value) (wr : World) : Prop := ∃ (p f : Nat) (acc : List UInt8), i = .int .i64 p ∧ 1 ≤ p ∧ p ≤ L.length + 4 ∧ acc.length ≤ p ∧ OwnB wr w.heap.size v acc ∧ Below w.heap.size w wr ∧
  Hid (QM.unquote L = QM.unq f (L.drop p) acc p) ∧ L.length < p + f ∧ 0 < f
theorem extract_drop (s : ByteArray) (p : Nat) : (s.extract p s.size).data.toList = s.data.toList.drop p := by
  simp
  rw [List.take_of_length_le (by simp)]

theorem nonempty_of {s : ByteArray} (h : 0 < s.size) : s.toList.isEmpty = false := by
  obtain ⟨r, hr, _⟩ := list1 s h
  rw [ByteArray.toList_eq, hr]
  rfl
theorem unq_end (f : Nat) (acc : List UInt8) (p : Nat) : QM.unq f [] acc p = none := by cases f <;> rfl
theorem unq_quote {f : Nat} (hf : 0 < f) (r acc : List UInt8) (p : Nat) : QM.unq f (34 :: r) acc p = some (acc, p + 1) := by
  obtain ⟨g, rfl⟩ : ∃ g, f = g + 1 := ⟨f - 1, by omega⟩
  rfl
theorem unq_none {f : Nat} {a : UInt8} {r acc : List UInt8} {p : Nat} (ha : a ≠ 34) (h : QM.first (a :: r) = none) : QM.unq f (a :: r) acc p = none := by
  cases f with
  | zero => rfl
  | succ g => simp [QM.unq, ha, h]
theorem unq_some {f : Nat} (hf : 0 < f) {a c : UInt8} {r acc : List UInt8} {p : Nat} (ha : a ≠ 34) (h : QM.first (a :: r) = some c) :
    QM.unq f (a :: r) acc p = QM.unq (f - 1) ((a :: r).drop (QM.qb c).length) (acc ++ [c]) (p + (QM.qb c).length) := by
  obtain ⟨g, rfl⟩ : ∃ g, f = g + 1 := ⟨f - 1, by omega⟩
  simp [QM.unq, ha, h]
theorem drop_at (s : ByteArray) (p : Nat) (h : p < s.size) : s.data.toList.drop p = s[p] :: s.data.toList.drop (p + 1) := by
  rw [List.drop_eq_getElem_cons (by simpa using h)]; rfl
theorem unq_meas {s : ByteArray} {p q : Nat} (h : p < s.size) (hq : 0 < q) : s.size - (intOf (.int .i64 ((p : Int) + (q : Int)))).toNat < s.size - (intOf (.int .i64 (p : Int))).toNat := by simp [intOf]; omega
/-- the round's end -/
theorem unq_step {s : ByteArray} {w wr w2 : World} {p f : Nat} {acc : List UInt8} {c : UInt8} {q : Nat} {u v : Value} {row : Option Nat} (hp : p < s.size) (hac : acc.length ≤ p) (Hu : Hid (QM.unquote s.data.toList = QM.unq f (s.data.toList.drop p) acc p))
    (hf : s.size < p + f) (h34 : Hid (s[p] ≠ 34)) (hc : Hid (QM.first (s.data.toList.drop p) = some c)) (Hq : Hid ((QM.qb c).length = q)) (hown : OwnB w2 w.heap.size v (acc ++ [c])) (hb : Below w.heap.size w wr) {o : Obj} (hg : (wr.alloc o).grownBy w2 row) (hr : row = u.ownBlock)
    (hbase : ∀ j, u.ownBlock = some j → w.heap.size ≤ j) (h1 : 1 ≤ p) : UnqRel s.data.toList w v (.int .i64 ((p : Int) + (q : Int))) w2 := by
  subst hr
  have hl := QM.qb_len c
  rw [Hq.out] at hl
  have e : s.data.toList.length = s.size := by simp
  refine ⟨p + q, f - 1, acc ++ [c], rfl, by omega, by omega, by simp; omega, hown, (hb.alloc hb.size _).grown hg (by have := hb.size; simp; omega) hbase, ?_, by omega, by omega⟩
  show _ = _
  have hc' := hc.out
  rw [drop_at s p hp] at hc'
  rw [Hu.out, drop_at s p hp, unq_some (by omega) h34.out hc', Hq.out, ← drop_at s p hp, List.drop_drop]

set_option maxRecDepth 100000 in
set_option maxHeartbeats 2000000 in
theorem Unquote_any (s : ByteArray) (hs2 : s.size ≤ 100000000) (w : World) (hl : LaidE w) :
    Calls Tryz.prog 87 #[.string s] w (UnqOut (QM.unquote s.data.toList) w) := by
  by_cases h0 : s.size = 0
  · have he0 : s.data.toList = [] := List.eq_nil_of_length_eq_zero (by simpa using h0)
    have he : s.toList = [] := by rw [ByteArray.toList_eq, he0]
    have hu : Hid (QM.unquote s.data.toList = none) := by show _ = _; rw [he0]; rfl
    clear he0
    clear h0
    go_enter Tryz.func87, Tryz.ntmps87
    go_wp2_with fail
    go_ret3
    exact unqOut_none hu.out (Below.refl _ _)
  have hs : 0 < s.size := by omega
  have he : s.toList.isEmpty = false := nonempty_of hs
  by_cases h1 : s[0] = 34
  · have h1' : ((s[0].toNat : Int) != 34) = false := u8_eqn (n := 34) (by omega) h1
    have h1'' : ((s[0].toNat : Int) == 34) = true := u8_eq (n := 34) (by omega) h1
    have hu : Hid (QM.unquote s.data.toList = QM.unq (s.size) (s.data.toList.drop 1) [] 1) := by obtain ⟨r, hr, hrl⟩ := list1 s hs; show _ = _; rw [hr, h1, ← hrl]; rfl
    clear h0 h1
    go_enter Tryz.func87, Tryz.ntmps87
    go_wp2_with fail
    go_loopw [5, 6] (fun v i wr => UnqRel s.data.toList w v i wr) (fun _ i _ => s.size - (intOf i).toNat)
    case atStart => exact ⟨1, s.size, [], rfl, by omega, by omega, by simp, OwnB.nil _ _, Below.refl _ _, hu, by simp, hs⟩
    case round =>
      obtain ⟨p, f, acc, rfl, hp1, hp2, hac, hown, hb, Hu, hf, hf0⟩ := hrel
      have hcv := conv_bytes hown
      have hlr := hl.below hb hl.lt
      have hp3 : p ≤ s.size + 4 := by simpa using hp2
      have hf' : s.size < p + f := by simpa using hf
      clear hp2 hf
      by_cases hlt : p < s.size
      · by_cases h3 : s[p] = 34
        · have hfin : Hid (QM.unquote s.data.toList = some (acc, p + 1)) := by show _ = _; rw [Hu.out, drop_at s p hlt, h3]; exact unq_quote hf0 _ _ _
          have h3' : ((s[p].toNat : Int) == 34) = true := u8_eq (n := 34) (by omega) h3
          clear h3
          go_wp2_with fail
          go_ret3
          exact unqOut_some hfin.out (by omega) hb
        · have h34 : Hid (s[p] ≠ 34) := h3
          have h3' : ((s[p].toNat : Int) == 34) = false := u8_ne (n := 34) (by omega) h3
          clear h3
          clear hcv
          go_wp2_with fail
          refine (unquoteByte_any (s.extract p s.size) (by simp; omega) (by simp; omega) wr hlr).mono ?_
          rintro en w1 hpost
          rcases hpost with ⟨c, hc, rfl, hb1⟩ | ⟨hc, rfl, hb1⟩
          · rw [extract_drop] at hc
            have HC := Lib.hid hc
            clear hc
            have hown1 := hown.below hb1 (Nat.le_refl _)
            have hbl := hb.trans (hb1.mono hb.size)
            have hql := (QM.qb_len c).1
            have hql2 := (QM.qb_len c).2
            generalize hq : (QM.qb c).length = q at *
            have Hq := Lib.hid hq
            clear hq
            have hq0 : ((q : Int) == 0) = false := bool_int (by omega)
            go_wp2_with (at_builtin; refine app_row _ rfl (.tmp 37) (.tmp 39) rfl w.heap.size u5 acc rfl (hown1.alloc _) _ 1 [c] rfl ?_ rfl (lit_cells w1 [c] _) ?d1 ?d2; intro v2 w2 hown2 hg2)
            case d1 => omega
            case d2 => have := hbl.size; simp; omega
            exact ⟨unq_step hlt hac Hu hf' h34 HC Hq hown2 hbl hg2 rfl hown.base_le hp1, unq_meas hlt hql⟩
          · rw [extract_drop] at hc
            have hfin : Hid (QM.unquote s.data.toList = none) := by show _ = _; rw [Hu.out]; rw [drop_at s p hlt] at hc ⊢; exact unq_none h34.out hc
            clear hc
            go_wp2_with fail
            go_ret3
            exact unqOut_none hfin.out (hb.trans (hb1.mono hb.size))
      · have hfin : Hid (QM.unquote s.data.toList = none) := by show _ = _; rw [Hu.out, List.drop_eq_nil_of_le (by simp; omega)]; exact unq_end _ _ _
        go_wp2_with fail
        go_ret3
        exact unqOut_none hfin.out hb
  · have h1' : ((s[0].toNat : Int) != 34) = true := u8_nen (n := 34) (by omega) h1
    have hu : Hid (QM.unquote s.data.toList = none) := by obtain ⟨r, hr, hrl⟩ := list1 s hs; show _ = _; rw [hr]; simp [QM.unquote, h1]
    clear h0 h1
    go_enter Tryz.func87, Tryz.ntmps87
    go_wp2_with fail
    go_ret3
    exact unqOut_none hu.out (Below.refl _ _)
end Go.Proofs.YthhfbcddjnjllaaGreatDoor
