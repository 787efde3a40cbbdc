/- Plain mathematics: pieces, fields, tokens, their weight. -/
import Derived.Test.YtmkbfnghkcjogaaDoorWM
import Derived.Lib.Strings
namespace WM
open Go.Lib
theorem data_inj : ∀ {a b : List ByteArray}, a.map (·.data.toList) = b.map (·.data.toList) → a = b
  | [], [], _ => rfl
  | [], _ :: _, h => by simp at h
  | _ :: _, [], h => by simp at h
  | x :: a, y :: b, h => by
    simp only [List.map_cons, List.cons.injEq] at h
    obtain ⟨h1, h2⟩ := h
    rw [data_inj h2]
    have : x = y := by cases x; cases y; simpa using h1
    rw [this]
def sep (c : UInt8) : ByteArray := ⟨#[c]⟩
/-- the pieces of s between bytes c -/
def pieces (c : UInt8) (s : ByteArray) : List ByteArray := splitB (sep c) 0 (countB s (sep c)) s
theorem pieces_data (c : UInt8) (s : ByteArray) : (pieces c s).map (·.data.toList) = splitC c s.data.toList [] := by
  unfold pieces
  rw [splitB_data]
  exact split_one c _ s.data.toList (Nat.le_refl _)
/-- the weight of a list of strings: their bytes, and one each -/
def wt : List ByteArray → Nat
  | [] => 0
  | x :: l => x.size + 1 + wt l
theorem wt_append : ∀ a b : List ByteArray, wt (a ++ b) = wt a + wt b
  | [], b => by simp [wt]
  | x :: a, b => by simp [wt, wt_append a b]; omega
theorem wt_len : ∀ a : List ByteArray, a.length ≤ wt a
  | [] => by simp [wt]
  | x :: a => by have := wt_len a; simp [wt]; omega
theorem wt_take (a : List ByteArray) (k : Nat) : wt (a.take k) ≤ wt a := by
  have := wt_append (a.take k) (a.drop k)
  rw [List.take_append_drop] at this
  omega
theorem wt_filter (p : ByteArray → Bool) : ∀ a : List ByteArray, wt (a.filter p) ≤ wt a
  | [] => by simp [wt]
  | x :: a => by
    have := wt_filter p a
    cases h : p x <;> simp [h, wt] <;> omega
def wl (a : List (List UInt8)) : Nat := (a.map fun x => x.length + 1).sum
theorem wt_data : ∀ a : List ByteArray, wt a = wl (a.map (·.data.toList))
  | [] => rfl
  | x :: a => by
    have := wt_data a
    simp [wt, wl] at this ⊢
    exact this
theorem splitC_wl (c : UInt8) : ∀ l cur : List UInt8, wl (splitC c l cur) = l.length + cur.length + 1
  | [], cur => by simp [splitC, wl]
  | b :: t, cur => by
    by_cases h : b = c
    · have := splitC_wl c t []
      simp [splitC, h, wl] at this ⊢
      omega
    · have := splitC_wl c t (cur ++ [b])
      simp [splitC, h] at this ⊢
      omega
theorem pieces_wt (c : UInt8) (s : ByteArray) : wt (pieces c s) = s.size + 1 := by
  rw [wt_data, pieces_data, splitC_wl]; simp
def blankP (r : Nat) : Bool := decide (r = 32)
theorem blank_tests : Tests blankP (fun b => !(b == 32)) where
  low r h := by
    have : (UInt8.ofNat r == 32) = decide (r = 32) := by
      rw [Bool.eq_iff_iff, beq_iff_eq, decide_eq_true_iff]
      constructor
      · intro e
        have := congrArg UInt8.toNat e
        simp at this
        omega
      · rintro rfl; rfl
    simp [blankP, this]
  high r h := by simp [blankP]; omega
  bytes b h := by
    have : (b == 32) = false := beq_eq_false_iff_ne.2 (fun e => by subst e; revert h; decide)
    simp [this]
/-- the fields of a line -/
def flds (s : ByteArray) : List ByteArray := (pieces 32 s).filter fun x => !x.toList.isEmpty
theorem flds_eq (s : ByteArray) : goFieldsP blankP s = flds s := by
  apply data_inj
  rw [fields_runs blank_tests, List.map_map, show ((fun x : ByteArray => x.data.toList) ∘ fun x : Nat × Nat => s.extract x.1 x.2) = fun x => (s.extract x.1 x.2).data.toList from rfl, runs_list, fields_split]
  unfold flds
  rw [← pieces_data]
  generalize pieces 32 s = l
  induction l with
  | nil => rfl
  | cons x l ih =>
    have e : x.toList = x.data.toList := toList_data x
    cases h : x.data.toList.isEmpty <;> simp only [List.map_cons, List.filter_cons, e, h, ih, Bool.not_true, Bool.not_false, if_true] <;> simp
theorem flds_wt (s : ByteArray) : wt (flds s) ≤ s.size + 1 := by
  have := wt_filter (fun x => !x.toList.isEmpty) (pieces 32 s)
  rw [pieces_wt] at this
  exact this
def nl : ByteArray := ⟨#[10]⟩
/-- tokens of the first k lines -/
def toksK (ls : List ByteArray) : Nat → List ByteArray
  | 0 => []
  | k + 1 => toksK ls k ++ (if 0 < k then [nl] else []) ++ flds (ls.getD k ByteArray.empty)
def toks (s : ByteArray) : List ByteArray := toksK (pieces 10 s) (pieces 10 s).length
theorem toksK_wt (ls : List ByteArray) : ∀ k, k ≤ ls.length → wt (toksK ls k) ≤ 3 * wt (ls.take k)
  | 0, _ => by simp [toksK, wt]
  | k + 1, h => by
    have ih := toksK_wt ls k (by omega)
    have hf := flds_wt (ls.getD k ByteArray.empty)
    have hk : ls.take (k + 1) = ls.take k ++ [ls[k]] := List.take_succ_eq_append_getElem h
    have hg : ls.getD k ByteArray.empty = ls[k] := by rw [List.getD_eq_getElem?_getD, List.getElem?_eq_getElem h]; rfl
    rw [hg] at hf
    have hn : wt (if 0 < k then [nl] else []) ≤ 2 := by split <;> decide
    simp only [toksK, wt_append, hk, hg]
    simp only [wt] at *
    omega
theorem toks_wt (s : ByteArray) : wt (toks s) ≤ 3 * (s.size + 1) := by
  have := toksK_wt (pieces 10 s) _ (Nat.le_refl _)
  rwa [List.take_length, pieces_wt] at this
theorem toksK_le (s : ByteArray) {k : Nat} (h : k ≤ (pieces 10 s).length) : (toksK (pieces 10 s) k).length ≤ 3 * (s.size + 1) := by
  have h1 := wt_len (toksK (pieces 10 s) k)
  have h2 := toksK_wt (pieces 10 s) k h
  have h3 := wt_take (pieces 10 s) k
  rw [pieces_wt] at h3
  omega
end WM
