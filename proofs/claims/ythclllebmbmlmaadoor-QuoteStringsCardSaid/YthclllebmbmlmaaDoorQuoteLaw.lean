/- The law QuoteStrings returns true, whatever its numbers are. -/
import Derived.Test.YthclllebmbmlmaaDoorUnquotedR
import Derived.Test.YthclllebmbmlmaaDoorFormat
namespace Go.Proofs.YthclllebmbmlmaaDoor
open Go.RowKit

def Laid (w : World) : Prop := LaidE w ∧ LaidT w
theorem Laid.below {w w' : World} (h : Laid w) (hb : Below w.heap.size w w') : Laid w' := ⟨h.1.below hb h.1.lt, h.2.below hb h.2.lt⟩
def SaysT (w : World) (e : Ending) (w' : World) : Prop := e = .returned (.bool true) ∧ Below w.heap.size w w'
theorem unq_a : QM.unquote [34, 97, 34] = some ([97], 3) := by decide +kernel
theorem dig_a : QM.digest [97] = [97, 102, 54, 51, 100, 99, 52, 99, 56, 54, 48, 49, 101, 99, 56, 99] := by decide +kernel

set_option maxRecDepth 100000 in
set_option maxHeartbeats 1000000 in
theorem taken_any (w : World) (hl : Laid w) : Calls Tryd.prog 13 #[] w (SaysT w) := by
  have hu := Lib.hid unq_a
  have hd := Lib.hid dig_a
  have Hl := Lib.hid hl
  clear hl
  go_enter Tryd.func13, Tryd.ntmps13
  go_wp2_with fail
  refine (Unquote_any ⟨#[34, 97, 34]⟩ (by decide) w Hl.out.1).mono ?_
  rintro en w1 ⟨rfl, hb⟩
  rw [show QM.unquote ({ data := #[34, 97, 34] } : ByteArray).data.toList = some ([97], 3) from hu.out]
  have Hl1 := Lib.hid (Hl.out.below hb)
  have Hb := Lib.hid hb
  clear hb
  unfold unqVal
  go_wp2_with fail
  refine (Digest_any ⟨#[97]⟩ (by decide) _ Hl1.out.2).mono ?_
  rintro en w2 ⟨rfl, hb2⟩
  rw [show QM.digest ({ data := #[97] } : ByteArray).data.toList = _ from hd.out]
  go_wp2_with fail
  go_ret
  exact ⟨rfl, Hb.out.trans (hb2.mono Hb.out.size)⟩

/-- a slice of ints below block B -/
def Ints (w : World) (B : Nat) (A : Option Addr) (n : Nat) : Prop := n ≤ 9223372036854775807 ∧ (0 < n → ∃ b off, A = some ⟨b, off, none⟩ ∧ b < B ∧ ∀ i, i < n → ∃ z, w.cell? ⟨b, off + i, none⟩ = some (.int .i64 z) ∧ -9223372036854775808 ≤ z ∧ z ≤ 9223372036854775807)
theorem Ints.strm {w : World} {A : Option Addr} {n cap : Nat} (h : Ints w w.heap.size A n) : Strm (w.alloc (.cells #[.slice A n cap, .int .i64 0] 25)) w.heap.size w.heap.size 0 := by
  refine ⟨A, n, cap, heap_alloc_new w _, Nat.le_refl _, h.1, fun hn => ?_⟩
  obtain ⟨b, off, e, hb, hc⟩ := h.2 hn
  refine ⟨b, off, e, hb, fun i hi => ?_⟩
  obtain ⟨z, hz, hz'⟩ := hc i hi
  exact ⟨z, (World.cell?_of_block (w := w) (a := ⟨b, off + i, none⟩) (Below.heap_alloc w _ b hb)).trans hz, hz'⟩
def LawRel (w : World) (t i : Value) (wr : World) : Prop := ∃ (j : Nat) (s : ByteArray), i = .int .i64 j ∧ j ≤ 2 ∧ t = .string s ∧ s.size ≤ 1000 + 1000 * j ∧ (∃ k', k' ≤ 100 + 3 * j ∧ Strm wr w.heap.size w.heap.size k') ∧ Below w.heap.size w wr

set_option maxRecDepth 100000 in
set_option maxHeartbeats 2000000 in
theorem QuoteStrings_any (A : Option Addr) (n cap : Nat) (w : World) (hA : Ints w w.heap.size A n) (hl : Laid w) :
    Calls Tryd.prog 3 #[.slice A n cap] w (SaysT w) := by
  have hs0 := hA.strm (cap := cap)
  have hb0 : Below w.heap.size w (w.alloc (.cells #[.slice A n cap, .int .i64 0] 25)) := (Below.refl _ _).alloc (Nat.le_refl _) _
  have Hl := Lib.hid hl
  clear hl hA
  go_enter Tryd.func3, Tryd.ntmps3
  go_wp2_with fail
  refine (strange_any w.heap.size w.heap.size 0 (by omega) _ hs0).mono ?_
  rintro en w1 ⟨a, ha, rfl, ⟨k1, hk1, hs1⟩, hg1⟩
  have hb1 := hb0.grown hg1 hb0.size (by intro k hk; injection hk with hk; omega)
  clear hs0 hb0 hg1
  go_wp2_with fail
  refine (Quote_any a (by omega) w1).mono ?_
  rintro en w2 ⟨rfl, hb2⟩
  have hs2 := hs1.below hb2 hs1.lt
  have hb2' := hb1.trans (hb2.mono hb1.size)
  clear hs1 hb1 hb2
  go_wp2_with fail
  refine (Quoted_any a (by omega) w2).mono ?_
  rintro en w3 ⟨rfl, hb3⟩
  have hs3 := hs2.below hb3 hs2.lt
  have hb3' := hb2'.trans (hb3.mono hb2'.size)
  clear hs2 hb2' hb3
  go_wp2_with fail
  refine (Digest_any a (by omega) w3 (Hl.out.below hb3').2).mono ?_
  rintro en w4 ⟨rfl, hb4⟩
  have hs4 := hs3.below hb4 hs3.lt
  have hb4' := hb3'.trans (hb4.mono hb3'.size)
  clear hs3 hb3' hb4
  go_wp2_with fail
  refine (DigestOf_any a (by omega) w4).mono ?_
  rintro en w5 ⟨rfl, nd, rfl⟩
  have hs5 := hs4.drewN nd
  have hb5 := below_drewN hb4' nd
  clear hs4 hb4'
  generalize w4.drewN nd = w5 at *
  go_wp2_with fail
  refine (Quoted_any a (by omega) w5).mono ?_
  rintro en w6 ⟨rfl, hb6⟩
  have hs6 := hs5.below hb6 hs5.lt
  have hb6' := hb5.trans (hb6.mono hb5.size)
  clear hs5 hb5 hb6
  have hql : (QM.quote a.data.toList).length ≤ 200 := by
    have h1 := flat_len a.data.toList
    have h2 : a.data.toList.length = a.size := by simp
    simp only [QM.quote, List.length_cons, List.length_append, List.length_nil]
    omega
  generalize QM.quote a.data.toList = qa at *
  go_wp2_with fail
  refine (strange_any w.heap.size w.heap.size k1 (by omega) _ hs6).mono ?_
  rintro en w7 ⟨b, hbs, rfl, ⟨k2, hk2, hs7⟩, hg7⟩
  have hb7 := hb6'.grown hg7 hb6'.size (by intro k hk; injection hk with hk; omega)
  clear hs6 hb6' hg7
  go_wp2_with fail
  refine (Pick_any [0, 0, 1, 2] (by decide) (by decide) w7.heap.size _ w.heap.size w.heap.size k2 (by omega) _ (hs7.alloc _) (heap_alloc_new w7 _) (by have := hs7.lt; omega)).mono ?_
  rintro en w8 ⟨r, hr, rfl, hs8, hg8⟩
  have hb8 := (hb7.alloc hb7.size _).grown hg8 (by have := hb7.size; simp; omega) (by intro k hk; injection hk with hk; omega)
  have hr2 : 0 ≤ r ∧ r ≤ 2 := by simp at hr; omega
  clear hs7 hb7 hg8 hr
  obtain ⟨m, rfl⟩ := Int.eq_ofNat_of_zero_le hr2.1
  have hm : m ≤ 2 := by omega
  clear hr2
  go_wp2_with fail
  go_loopw [5, 37] (fun t i wr => LawRel w t i wr) (fun _ i _ => 2 - (intOf i).toNat)
  case atStart => exact ⟨0, _, rfl, by omega, rfl, by rw [ByteArray.size_append]; show qa.toArray.size + b.size ≤ _; simp only [List.size_toArray]; omega, ⟨k2 + 1, by omega, hs8⟩, hb8⟩
  case round =>
    obtain ⟨j, t, rfl, hj, rfl, hts, ⟨k3, hk3, hsr⟩, hbr⟩ := hrel
    clear hs8 hb8
    by_cases hlt : (j : Int) < (m : Int)
    · have hch : Calls Tryd.prog 10 #[.pointer (some ⟨w.heap.size, 0, none⟩), .string t, .string ⟨#[34, 92, 110, 120, 48, 97, 70, 32, 55, 102]⟩] wr (TookS (1000 + 1000 * j + 1000) w.heap.size w.heap.size (k3 + 3) wr) := by
        by_cases ht : t.size = 0
        · exact Changed_nil t _ _ (by decide) _ _ _ wr hsr (by rw [ByteArray.toList_eq]; exact List.eq_nil_of_length_eq_zero (by simpa using ht))
        · exact Changed_some t _ _ hts (by decide) (by omega) _ _ _ (by omega) wr hsr (nonempty_of (by omega)) (by decide +kernel) (by omega) (by decide)
      have Hch := Lib.hid hch
      clear hch
      go_wp2_with fail
      refine Hch.out.mono ?_
      rintro en w9 ⟨u, hu, rfl, ⟨k4, hk4, hs9⟩, hg9⟩
      have hb9 := hbr.grown hg9 hbr.size (by intro k hk; injection hk with hk; omega)
      clear hsr hbr hg9
      go_wp2_with fail
      exact ⟨⟨j + 1, u, rfl, by omega, rfl, by omega, ⟨k4, by omega, hs9⟩, hb9⟩, by simp [intOf]; omega⟩
    · clear hsr
      go_wp2_with fail
      refine (Unquote_any t (by omega) wr (Hl.out.below hbr).1).mono ?_
      rintro en w9 ⟨rfl, hb9⟩
      have hb9' := hbr.trans (hb9.mono hbr.size)
      clear hbr hb9
      cases hun : QM.unquote t.data.toList with
      | none =>
        have Hun := Lib.hid hun
        clear hun
        unfold unqVal
        go_wp2_with fail
        refine (Unquoted_any t (by omega) w9).mono ?_
        rintro en wa ⟨rfl, hba⟩
        have hba' := hb9'.trans (hba.mono hb9'.size)
        clear hb9' hba
        rw [Hun.out]
        unfold unqValR
        go_wp2_with fail
        refine (taken_any wa (Hl.out.below hba')).mono ?_
        rintro en wb ⟨rfl, hbb⟩
        have hbb' := hba'.trans (hbb.mono hba'.size)
        clear hba' hbb
        go_wp2_with fail
        go_ret
        exact ⟨rfl, hbb'⟩
      | some x =>
        obtain ⟨x, nx⟩ := x
        have Hun := Lib.hid hun
        clear hun
        unfold unqVal
        go_wp2_with fail
        refine (Unquoted_any t (by omega) w9).mono ?_
        rintro en wa ⟨rfl, hba⟩
        have hba' := hb9'.trans (hba.mono hb9'.size)
        clear hb9' hba
        rw [Hun.out]
        unfold unqValR
        go_wp2_with fail
        refine (taken_any wa (Hl.out.below hba')).mono ?_
        rintro en wb ⟨rfl, hbb⟩
        have hbb' := hba'.trans (hbb.mono hba'.size)
        clear hba' hbb
        go_wp2_with fail
        go_ret
        exact ⟨rfl, hbb'⟩
end Go.Proofs.YthclllebmbmlmaaDoor
