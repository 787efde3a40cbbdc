/- Contracts of ParseUint (the public one), unescape and unquoteByte. -/
import Derived.Test.YthhfbcddjnjllaaGreatDoorParse
import Derived.Test.YthhfbcddjnjllaaGreatDoorQuote
namespace Go.Proofs.YthhfbcddjnjllaaGreatDoor
open Go.RowKit

/-- strconv.ErrSyntax holds an error or nil -/
def LaidE (w : World) : Prop := ∃ ev, w.cell? ⟨4, 0, none⟩ = some ev ∧ (ev = .nilIface ∨ ∃ te pe, ev = .iface te pe)
theorem LaidE.lt {w : World} (h : LaidE w) : 4 < w.heap.size := by
  obtain ⟨ev, h, _⟩ := h
  rcases Nat.lt_or_ge 4 w.heap.size with hlt | hge
  · exact hlt
  · simp [World.cell?, Array.getElem?_eq_none hge] at h
theorem LaidE.below {w w' : World} {B : Nat} (h : LaidE w) (hb : Below B w w') (hB : 4 < B) : LaidE w' := by
  obtain ⟨ev, h1, h2⟩ := h
  exact ⟨ev, (hb.cell (p := ⟨4, 0, none⟩) hB).trans h1, h2⟩

def PuOut (d e : UInt8) (w : World) (en : Ending) (w' : World) : Prop := ∃ (n : Nat) (err : Value), n ≤ 255 ∧ en = .returned (.tuple #[.int .u64 n, err]) ∧ Below w.heap.size w w' ∧
  (∀ a b, QM.unhex d = some a → QM.unhex e = some b → n = 16 * a + b)

set_option maxHeartbeats 1000000 in
theorem ParseUint_any (d e : UInt8) (w : World) (hl : LaidE w) :
    Calls Tryz.prog 246 #[.string ⟨#[d, e]⟩, .int .i64 16, .int .i64 8] w (PuOut d e w) := by
  go_enter Tryz.func246, Tryz.ntmps246
  go_wp2_with fail
  refine (ParseUintIn_any d e w).mono ?_
  rintro en w1 ⟨n, err, hn, rfl, hb, herr, hd⟩
  have HD := Lib.hid hd
  clear hd
  have hl1 := hl.below hb hl.lt
  rcases herr with rfl | rfl
  · go_wp2_with fail
    go_ret2
    exact ⟨n, _, hn, rfl, hb, HD.out⟩
  · obtain ⟨ev, hv, hev⟩ := hl1
    have Hev := Lib.hid hev
    clear hev
    go_wp2_with fail
    refine (Tryz.strconv_toError_syntax _ _ _ _ ev _ (by simp [ByteArray.size]) hv Hev.out).mono ?_
    rintro en w2 ⟨N, rfl, _, _, hb2⟩
    go_wp2_with fail
    go_ret2
    exact ⟨n, _, hn, rfl, hb.trans (hb2.mono hb.size), HD.out⟩

/-- a byte is answered that is the only one whose quoted form the string may begin with -/
def UnescOut (s : List UInt8) (w : World) (en : Ending) (w' : World) : Prop := ∃ c : UInt8, en = .returned (.int .u8 c.toNat) ∧ QM.Unesc s c ∧ Below w.heap.size w w'
theorem unescOut_of {s : List UInt8} {w w' : World} {c : UInt8} (h : QM.Unesc s c) (hb : Below w.heap.size w w') : UnescOut s w (.returned (.int .u8 c.toNat)) w' := ⟨c, rfl, h, hb⟩

theorem u8_eqn {c : UInt8} {n : Nat} (hn : n < 256) (h : c = UInt8.ofNat n) : ((c.toNat : Int) != (n : Int)) = false := by rw [bne, u8_eq hn h]; rfl
theorem u8_nen {c : UInt8} {n : Nat} (hn : n < 256) (h : c ≠ UInt8.ofNat n) : ((c.toNat : Int) != (n : Int)) = true := by rw [bne, u8_ne hn h]; rfl
theorem lst1 : ∀ (l : List UInt8) (h : 0 < l.length), ∃ r, l = l[0] :: r ∧ r.length + 1 = l.length
  | _ :: r, _ => ⟨r, rfl, rfl⟩
theorem lst2 : ∀ (l : List UInt8) (h : 2 ≤ l.length), ∃ r, l = l[0] :: l[1] :: r ∧ r.length + 2 = l.length
  | _ :: _ :: r, _ => ⟨r, rfl, rfl⟩
theorem lst4 : ∀ (l : List UInt8) (h : 4 ≤ l.length), ∃ r, l = l[0] :: l[1] :: l[2] :: l[3] :: r
  | _ :: _ :: _ :: _ :: r, _ => ⟨r, rfl⟩
theorem list1 (s : ByteArray) (h : 0 < s.size) : ∃ r, s.data.toList = s[0] :: r ∧ r.length + 1 = s.size := by
  have h1 : s.data.toList.length = s.size := by simp
  obtain ⟨r, h2, h3⟩ := lst1 s.data.toList (by omega)
  exact ⟨r, h2, by omega⟩
theorem list2 (s : ByteArray) (h : 2 ≤ s.size) : ∃ r, s.data.toList = s[0] :: s[1] :: r ∧ r.length + 2 = s.size := by
  have h1 : s.data.toList.length = s.size := by simp
  obtain ⟨r, h2, h3⟩ := lst2 s.data.toList (by omega)
  exact ⟨r, h2, by omega⟩
theorem list4 (s : ByteArray) (h : 4 ≤ s.size) : ∃ r, s.data.toList = s[0] :: s[1] :: s[2] :: s[3] :: r := by
  have h1 : s.data.toList.length = s.size := by simp
  exact lst4 s.data.toList (by omega)
theorem unesc_fin {s : List UInt8} {w w' : World} {n : Nat} (hn : n ≤ 255) (h : QM.Unesc s (UInt8.ofNat n)) (hb : Below w.heap.size w w') : UnescOut s w (.returned (.int .u8 n)) w' :=
  ⟨UInt8.ofNat n, by have : ((UInt8.ofNat n).toNat : Int) = n := by simp; omega
                     rw [this], h, hb⟩
theorem extract24 (s : ByteArray) (h : 4 ≤ s.size) : s.extract 2 4 = ⟨#[s[2], s[3]]⟩ := by
  apply ByteArray.ext
  apply Array.toList_inj.1
  obtain ⟨r, hr⟩ := list4 s h
  simp [hr]

set_option maxRecDepth 100000 in
set_option maxHeartbeats 1000000 in
theorem unescape_any (s : ByteArray) (hs : 0 < s.size) (hs2 : s.size ≤ 1000000000) (w : World) (hl : LaidE w) :
    Calls Tryz.prog 191 #[.string s] w (UnescOut s.data.toList w) := by
  by_cases h1 : s[0] = 92
  · have h1' : ((s[0].toNat : Int) != 92) = false := u8_eqn (n := 92) (by omega) h1
    by_cases h2 : 2 ≤ s.size
    · obtain ⟨r, hr, hrl⟩ := list2 s h2
      by_cases h3 : s[1] = 110
      · have hu : Hid (QM.Unesc s.data.toList 10) := by show QM.Unesc _ _; rw [hr, h1, h3]; exact QM.unesc_n r
        have h3' : ((s[1].toNat : Int) == 110) = true := u8_eq (n := 110) (by omega) h3
        clear hr h1 h3
        go_enter Tryz.func191, Tryz.ntmps191
        go_wp2_with fail
        go_ret
        exact unescOut_of hu.out (Below.refl _ _)
      have h3' : ((s[1].toNat : Int) == 110) = false := u8_ne (n := 110) (by omega) h3
      by_cases h4 : s[1] = 120
      · have h4' : ((s[1].toNat : Int) == 120) = true := u8_eq (n := 120) (by omega) h4
        by_cases h5 : 4 ≤ s.size
        · obtain ⟨r', hr'⟩ := list4 s h5
          have he := Lib.hid (extract24 s h5)
          have hu : Hid (∀ n : Nat, (∀ a b, QM.unhex s[2] = some a → QM.unhex s[3] = some b → n = 16 * a + b) → QM.Unesc s.data.toList (UInt8.ofNat n)) := fun n h => by rw [hr', h1, h4]; exact QM.unesc_x _ _ r' n h
          generalize hd : s[2] = d at *
          generalize hf : s[3] = f at *
          clear hr hr' h1 h3 h4 hd hf
          go_enter Tryz.func191, Tryz.ntmps191
          go_wp2_with fail
          rw [he.out]
          refine (ParseUint_any d f w hl).mono ?_
          rintro en w1 ⟨n, err, hn, rfl, hb, hd⟩
          have hu1 := Lib.hid (hu.out n hd)
          clear hd
          go_wp2_with fail
          go_ret
          exact unesc_fin hn hu1.out hb
        · have hu : Hid (QM.Unesc s.data.toList s[1]) := by show QM.Unesc _ _; rw [hr, h1]; exact QM.unesc_o _ r h3 (.inr (by omega))
          clear hr h1 h3 h4
          go_enter Tryz.func191, Tryz.ntmps191
          go_wp2_with fail
          go_ret
          exact unescOut_of hu.out (Below.refl _ _)
      · have h4' : ((s[1].toNat : Int) == 120) = false := u8_ne (n := 120) (by omega) h4
        have hu : Hid (QM.Unesc s.data.toList s[1]) := by show QM.Unesc _ _; rw [hr, h1]; exact QM.unesc_o _ r h3 (.inl h4)
        clear hr h1 h3 h4
        go_enter Tryz.func191, Tryz.ntmps191
        go_wp2_with fail
        go_ret
        exact unescOut_of hu.out (Below.refl _ _)
    · have hu : Hid (QM.Unesc s.data.toList s[0]) := by
        obtain ⟨r, hr, hrl⟩ := list1 s hs
        show QM.Unesc _ _
        rw [hr]
        exact QM.unesc_a _ r (.inr (List.eq_nil_of_length_eq_zero (by omega)))
      have h2' : s.size < 2 := by omega
      clear h1 h2
      go_enter Tryz.func191, Tryz.ntmps191
      go_wp2_with fail
      go_ret
      exact unescOut_of hu.out (Below.refl _ _)
  · have h1' : ((s[0].toNat : Int) != 92) = true := u8_nen (n := 92) (by omega) h1
    have hu : Hid (QM.Unesc s.data.toList s[0]) := by
      obtain ⟨r, hr, hrl⟩ := list1 s hs
      show QM.Unesc _ _
      rw [hr]
      exact QM.unesc_a _ r (.inl h1)
    clear h1
    go_enter Tryz.func191, Tryz.ntmps191
    go_wp2_with fail
    go_ret
    exact unescOut_of hu.out (Below.refl _ _)

def UnqbOut (l : List UInt8) (w : World) (en : Ending) (w' : World) : Prop :=
  (∃ c : UInt8, QM.first l = some c ∧ en = .returned (.tuple #[.int .u8 c.toNat, .int .i64 (QM.qb c).length]) ∧ Below w.heap.size w w') ∨ (QM.first l = none ∧ en = .returned (.tuple #[.int .u8 0, .int .i64 0]) ∧ Below w.heap.size w w')
theorem first_no {l : List UInt8} {c : UInt8} (h : QM.Unesc l c) (hn : (QM.qb c).isPrefixOf l = false) : QM.first l = none := by
  refine QM.first_none fun d hd => ?_
  have := h d hd
  subst this
  rw [← List.isPrefixOf_iff_prefix] at hd
  rw [hd] at hn
  cases hn

set_option maxHeartbeats 1000000 in
theorem unquoteByte_any (s : ByteArray) (hs : 0 < s.size) (hs2 : s.size ≤ 1000000000) (w : World) (hl : LaidE w) :
    Calls Tryz.prog 149 #[.string s] w (UnqbOut s.data.toList w) := by
  go_enter Tryz.func149, Tryz.ntmps149
  go_wp2_with fail
  refine (unescape_any s hs hs2 w hl).mono ?_
  rintro en w1 ⟨c, rfl, hu, hb⟩
  go_wp2_with fail
  refine (quoteByte_any c w1).mono ?_
  rintro en w2 ⟨rfl, n, rfl⟩
  have hb2 := below_drewN hb n
  clear hb
  have hql := (QM.qb_len c).2
  cases hp : (QM.qb c).isPrefixOf s.data.toList with
  | false =>
    have hf := Lib.hid (first_no hu hp)
    have HP := Lib.hid hp
    clear hp
    generalize hq : QM.qb c = q at *
    clear hq
    go_wp2_with fail
    refine (Tryz.strings_HasPrefix s ⟨q.toArray⟩ _).mono ?_
    rintro en w3 ⟨rfl, rfl⟩
    rw [show Lib.hasPrefix s.data.toList ({ data := q.toArray } : ByteArray).data.toList = false from HP.out]
    go_wp2_with fail
    go_ret2
    exact .inr ⟨hf.out, rfl, hb2⟩
  | true =>
    have hf := Lib.hid (QM.first_some (List.isPrefixOf_iff_prefix.1 hp))
    have HP := Lib.hid hp
    clear hp
    generalize hq : QM.qb c = q at *
    have Hq := Lib.hid hq
    clear hq
    go_wp2_with fail
    refine (Tryz.strings_HasPrefix s ⟨q.toArray⟩ _).mono ?_
    rintro en w3 ⟨rfl, rfl⟩
    rw [show Lib.hasPrefix s.data.toList ({ data := q.toArray } : ByteArray).data.toList = true from HP.out]
    go_wp2_with fail
    go_ret2
    refine .inl ⟨c, hf.out, ?_, hb2⟩
    rw [Hq.out]
    rfl
end Go.Proofs.YthhfbcddjnjllaaGreatDoor
