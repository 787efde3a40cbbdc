/- A set of strings that the call makes: a map of strings to bool. -/
import Derived.Test.YtdmgfkgfcofmhaaDoorBlk
import Derived.Maps.Own
import Derived.Maps.Views
import Derived.StringKeys
namespace Go
/-- an element that reads as a bool is one -/
theorem plainElem_bool_inv {H : Type} {P : Program} {e : TypeId} (he : P.underlying e = some .bool) {v : Value} {z : DataW H × List MemPlace} (h : plainElem P e v = some z) : ∃ a, v = .bool a ∧ z = (.lit (.bool a), []) := by
  unfold plainElem at h
  rw [he] at h
  cases v <;> simp at h
  subst h
  exact ⟨_, rfl, rfl⟩
end Go
namespace Go.Proofs.YtdmgfkgfcofmhaaDoor
open Go.RowKit Go.Maps Go.ChangeMaps Go.WideMaps Go.WideAt

/-- is s one of S? -/
def hasM (S : List ByteArray) (s : ByteArray) : Bool := S.any fun t => t.data.toList == s.data.toList
theorem hasM_iff {S : List ByteArray} {s : ByteArray} : hasM S s = true ↔ s ∈ S := by
  unfold hasM
  rw [List.any_eq_true]
  constructor
  · rintro ⟨t, ht, h⟩
    have : t = s := congrArg ByteArray.mk (Array.toList_inj.1 (beq_iff_eq.1 h))
    exact this ▸ ht
  · intro h
    exact ⟨s, h, beq_iff_eq.2 rfl⟩
/-- block b holds at most n strings: those of S -/
def OwnM (w : World) (b n : Nat) (S : List ByteArray) : Prop := ∃ D : DataW Unit, w.ownsMap Tryd.prog 9 (plainElem Tryd.prog 4) b n D ∧ IsMap D ∧ ∀ s : ByteArray, s.size ≤ maxLen → D.atKey (.string s.data.toList) (.lit (.bool false)) = .lit (.bool (hasM S s))
theorem lawM : Keyed Tryd.prog 9 := string_keyed Tryd.underlying9
theorem zeroM (w : World) : (zeroValue 4).run Tryd.prog w = .ok (.bool false) w := by kernel_rfl
theorem OwnM.made (w : World) : OwnM (w.alloc (.map #[] 0)) w.heap.size 0 [] := ⟨_, World.ownsMap_made w _ _ _, isMap_empty, fun _ _ => rfl⟩
theorem OwnM.lt {w : World} {b n : Nat} {S : List ByteArray} (h : OwnM w b n S) : b < w.heap.size := by
  obtain ⟨D, h1, _⟩ := h
  exact World.ownsMap.lt h1
theorem OwnM.grown {w w' : World} {b n : Nat} {S : List ByteArray} {row : Option Nat} (h : OwnM w b n S) (hg : w.grownBy w' row) (hne : some b ≠ row) : OwnM w' b n S := by
  obtain ⟨D, h1, h2⟩ := h
  exact ⟨D, World.ownsMap.kept h1 hg hne, h2⟩
theorem OwnM.below {w w' : World} {b n : Nat} {S : List ByteArray} (h : OwnM w b n S) (hb : Below w.heap.size w w') : OwnM w' b n S := h.grown (row := none) (only_of_below hb none) (by simp)
theorem OwnM.drewN {w : World} {b n : Nat} {S : List ByteArray} (h : OwnM w b n S) (q : Nat) : OwnM (w.drewN q) b n S := h
/-- is s there? -/
theorem OwnM.look {w : World} {b n : Nat} {S : List ByteArray} (h : OwnM w b n S) (s : ByteArray) (hs : s.size ≤ maxLen) : (Instr.lookup 55 (.map (some b)) (.string s) false).run Tryd.prog w = .ok (.bool (hasM S s)) w := by
  obtain ⟨D, h1, h2, h3⟩ := h
  obtain ⟨v, ps, hrun, hv⟩ := World.ownsMap.lookup h1 lawM Tryd.underlying55 (zeroM w) (plainElem_bool Tryd.underlying4 false) (keyOf_string_mk Tryd.underlying9 hs)
  obtain ⟨a, rfl, hz⟩ := plainElem_bool_inv Tryd.underlying4 hv
  have hz2 : D.atKey (.string s.data.toList) (.lit (.bool false)) = .lit (.bool a) := congrArg Prod.fst hz
  rw [h3 s hs] at hz2
  have hz3 : hasM S s = a := by simpa using hz2
  rw [hrun, hz3]
/-- s is put in -/
theorem OwnM.put {w' : World} {b n : Nat} {S : List ByteArray} {D : DataW Unit} (hI : IsMap D) (h3 : ∀ s : ByteArray, s.size ≤ maxLen → D.atKey (.string s.data.toList) (.lit (.bool false)) = .lit (.bool (hasM S s))) (s : ByteArray) (h1 : w'.ownsMap Tryd.prog 9 (plainElem Tryd.prog 4) b (n + 1) (D.put (.string s.data.toList) (.lit (.bool true)))) : OwnM w' b (n + 1) (S ++ [s]) := by
  refine ⟨_, h1, hI.put _ _, fun t ht => ?_⟩
  by_cases e : t = s
  · subst e
    rw [atKey_put_same hI (by unfold WideAt.IsKeyLit; trivial), hasM_iff.2 (List.mem_append_right _ (List.mem_singleton.2 rfl))]
  · rw [atKey_put_other (fun h => e (by injection h with h; exact congrArg ByteArray.mk (Array.toList_inj.1 h))), h3 t ht]
    have : hasM (S ++ [s]) t = hasM S t := by
      rw [Bool.eq_iff_iff, hasM_iff, hasM_iff, List.mem_append, List.mem_singleton]
      exact ⟨fun h => h.resolve_right e, .inl⟩
    rw [this]
end Go.Proofs.YtdmgfkgfcofmhaaDoor
