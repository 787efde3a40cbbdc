/- Contracts of place, IndexFunc over items. -/
import Derived.Test.YthhfbcddjnjllaaGreatDoorIM
import Derived.Test.YthhfbcddjnjllaaGreatDoorItem
namespace Go.Proofs.YthhfbcddjnjllaaGreatDoor
open Go.RowKit

set_option maxHeartbeats 400000 in
theorem place1_any (x : It) (s : ByteArray) (c : Nat) (w : World) (hc : w.cell? ⟨c, 0, none⟩ = some (.string s)) (hl : c < w.heap.size) (b : Bool) (hb : (x.id.toList == s.toList) = b) :
    Calls Tryz.prog 147 #[.agg x.cells, .pointer (some ⟨c, 0, none⟩)] w (SaysK b w) := by
  go_enter Tryz.func147, Tryz.ntmps147
  go_upto_region 1 with (fail)
  have hW : Below w.heap.size w (w.alloc (.cells x.cells 30)) := (Below.refl _ _).alloc (Nat.le_refl _) _
  have c0 : (w.alloc (.cells x.cells 30)).cell? ⟨w.heap.size, 0, none⟩ = some (.string x.id) := World.cell?_alloc_at _ _ _ _ (by simp)
  have c1 : (w.alloc (.cells x.cells 30)).cell? ⟨c, 0, none⟩ = some (.string s) := (hW.cell (p := ⟨c, 0, none⟩) hl).trans hc
  go_wp2_with fail
  go_ret
  exact ⟨rfl, hW⟩

/-- the seven cells of an item at an address -/
structure At (x : It) (b o : Nat) (w : World) : Prop where
  c0 : w.cell? ⟨b, o, none⟩ = some (.string x.id)
  c1 : w.cell? ⟨b, o + 1, none⟩ = some (.string x.cu)
  c2 : w.cell? ⟨b, o + 2, none⟩ = some (.int .i64 x.kind)
  c3 : w.cell? ⟨b, o + 3, none⟩ = some (.string x.name)
  c4 : w.cell? ⟨b, o + 4, none⟩ = some (.int .i64 x.at')
  c5 : w.cell? ⟨b, o + 5, none⟩ = some (.string x.parent)
  c6 : w.cell? ⟨b, o + 6, none⟩ = some (.string x.text)
theorem At.same {x : It} {b o : Nat} {w w' : World} (h : At x b o w) (hb : w'.heap[b]? = w.heap[b]?) : At x b o w' := by
  have hc : ∀ i, w'.cell? ⟨b, i, none⟩ = w.cell? ⟨b, i, none⟩ := fun i => World.cell?_of_block hb
  exact ⟨(hc _).trans h.c0, (hc _).trans h.c1, (hc _).trans h.c2, (hc _).trans h.c3, (hc _).trans h.c4, (hc _).trans h.c5, (hc _).trans h.c6⟩
/-- a slice that reads as a list of items -/
structure ItRow (w : World) (A : Option Addr) (cap : Nat) (L : List It) : Prop where
  capLe : L.length ≤ cap
  capMax : cap ≤ 9223372036854775807
  at_ : ∀ (i : Nat) (x : It), L[i]? = some x → ∃ b off, A = some ⟨b, off, none⟩ ∧ b < w.heap.size ∧ At x b (off + i * 7) w
theorem ItRow.below {w w' : World} {A : Option Addr} {cap : Nat} {L : List It} (h : ItRow w A cap L) (hb : Below w.heap.size w w') : ItRow w' A cap L :=
  ⟨h.capLe, h.capMax, fun i x hx => by
    obtain ⟨b, off, rfl, hl, ha⟩ := h.at_ i x hx
    exact ⟨b, off, rfl, Nat.lt_of_lt_of_le hl hb.size, ha.same (hb.block b hl)⟩⟩
theorem ItRow.drew {w : World} {A : Option Addr} {cap : Nat} {L : List It} (h : ItRow w A cap L) : ItRow w.drew A cap L :=
  ⟨h.capLe, h.capMax, fun i x hx => by
    obtain ⟨b, off, rfl, hl, ha⟩ := h.at_ i x hx
    exact ⟨b, off, rfl, hl, ha.same rfl⟩⟩
theorem ItRow.drewN {w : World} {A : Option Addr} {cap : Nat} {L : List It} (h : ItRow w A cap L) (n : Nat) : ItRow (w.drewN n) A cap L :=
  ⟨h.capLe, h.capMax, fun i x hx => by
    obtain ⟨b, off, rfl, hl, ha⟩ := h.at_ i x hx
    exact ⟨b, off, rfl, hl, ha.same rfl⟩⟩
def IdxRel (L : List It) (s : List UInt8) (w : World) (i : Value) (wr : World) : Prop := ∃ k : Nat, k ≤ L.length ∧ i = .int .i64 k ∧ Hid (∀ (j : Nat) (z : It), j < k → L[j]? = some z → z.id.toList ≠ s) ∧ Below w.heap.size w wr
/-- where it is; -1: nowhere -/
def SaysP (o : Option Nat) (w : World) (e : Ending) (w' : World) : Prop := e = .returned (.int .i64 (FM.oi o)) ∧ Below w.heap.size w w'

set_option maxHeartbeats 1000000 in
theorem idxFunc_any (L : List It) (A : Option Addr) (cap : Nat) (s : ByteArray) (c : Nat) (w : World) (hA : ItRow w A cap L) (hc : w.cell? ⟨c, 0, none⟩ = some (.string s)) (hl : c < w.heap.size) :
    Calls Tryz.prog 146 #[.slice A L.length cap, .func (.func 147) #[] #[.pointer (some ⟨c, 0, none⟩)]] w (SaysP (IM.place L s.toList) w) := by
  have hcap := hA.capLe
  have hmax := hA.capMax
  have eg := enters_of Tryz.func147 (by kernel_rfl) rfl
  go_enter Tryz.func146, Tryz.ntmps146
  go_wp2_with fail
  go_loopw [8] (fun i wr => IdxRel L s.toList w i wr) (fun i _ => L.length - (intOf i).toNat)
  case atStart => exact ⟨0, by omega, rfl, fun j z h => by omega, Below.refl _ _⟩
  case round =>
    obtain ⟨k, hk, rfl, H, hb⟩ := hrel
    by_cases hlt : k < L.length
    · obtain ⟨x, hx⟩ : ∃ x, L[k]? = some x := ⟨_, List.getElem?_eq_getElem hlt⟩
      have HX := Lib.hid hx
      obtain ⟨b, off, rfl, hbl, hat⟩ := (hA.below hb).at_ k x hx
      clear hx
      obtain ⟨c0, c1, c2, c3, c4, c5, c6⟩ := hat
      obtain ⟨b', hb'⟩ : ∃ b', (x.id.toList == s.toList) = b' := ⟨_, rfl⟩
      have HB := Lib.hid hb'
      clear hb'
      go_wp2_with fail
      refine (place1_any x s c _ ((hb.cell (p := ⟨c, 0, none⟩) hl).trans hc) (Nat.lt_of_lt_of_le hl hb.size) b' HB.out).mono ?_
      rintro e w1 ⟨rfl, hw1⟩
      have hbw := hb.trans (hw1.mono hb.size)
      cases b'
      · go_wp2_with fail
        refine ⟨⟨k + 1, by omega, rfl, ?_, hbw⟩, by simp [intOf]; omega⟩
        intro j z hj hz
        rcases Nat.lt_or_ge j k with h1 | h1
        · exact H.out j z h1 hz
        · have e : j = k := by omega
          subst e
          have := HX.out
          rw [hz] at this
          injection this with this
          subst this
          simpa using HB.out
      · go_wp2_with fail
        go_ret
        refine ⟨?_, hbw⟩
        have := IM.place_first HX.out (by simpa using HB.out) H.out
        rw [this]
        rfl
    · go_wp2_with fail
      go_ret
      refine ⟨?_, hb⟩
      rw [IM.place_none_of (s := s.toList) (L := L) (fun j z hz => H.out j z (by have := (List.getElem?_eq_some_iff.1 hz).1; omega) hz)]
      rfl

set_option maxHeartbeats 1000000 in
theorem place_any (L : List It) (A : Option Addr) (cap : Nat) (s : ByteArray) (w : World) (hA : ItRow w A cap L) :
    Calls Tryz.prog 85 #[.slice A L.length cap, .string s] w (SaysP (IM.place L s.toList) w) := by
  go_enter Tryz.func85, Tryz.ntmps85
  go_wp2_with fail
  have hW : ∀ o, Below w.heap.size w (w.alloc o) := fun o => (Below.refl _ _).alloc (Nat.le_refl _) _
  refine (idxFunc_any L A cap s w.heap.size _ (hA.below (hW _)) (World.cell?_alloc_at _ _ _ _ (by simp)) (by simp)).mono ?_
  rintro e w1 ⟨rfl, hw1⟩
  go_wp2_with fail
  go_ret
  exact ⟨rfl, (hW _).trans (hw1.mono (hW _).size)⟩
end Go.Proofs.YthhfbcddjnjllaaGreatDoor
