/- Plain mathematics: tokens put together. -/
import Derived.Test.YtmkbfnghkcjogaaDoorTokM
namespace WM
/-- what Join puts ahead of element k -/
def gap (l : List ByteArray) : Nat → List UInt8
  | 0 => []
  | j + 1 => if l[j + 1]? ≠ some nl ∧ l[j]? ≠ some nl then [32] else []
def joinK (l : List ByteArray) : Nat → List UInt8
  | 0 => []
  | k + 1 => joinK l k ++ gap l k ++ (l.getD k ByteArray.empty).data.toList
def joinT (l : List ByteArray) : List UInt8 := joinK l l.length
theorem joinK_len (l : List ByteArray) (k : Nat) : ∀ n, (joinK l k).length ≤ (joinK l (k + n)).length
  | 0 => Nat.le_refl _
  | n + 1 => by
    have := joinK_len l k n
    rw [← Nat.add_assoc]
    simp only [joinK, List.length_append]
    omega
theorem joinK_le (l : List ByteArray) {k : Nat} (h : k ≤ l.length) : (joinK l k).length ≤ (joinT l).length := by
  have := joinK_len l k (l.length - k)
  rwa [Nat.add_sub_cancel' h] at this
theorem joinK_wt (l : List ByteArray) : ∀ k, k ≤ l.length → (joinK l k).length ≤ wt (l.take k)
  | 0, _ => by simp [joinK, wt]
  | k + 1, h => by
    have ih := joinK_wt l k (by omega)
    have hk : l.take (k + 1) = l.take k ++ [l[k]] := List.take_succ_eq_append_getElem h
    have hg : l.getD k ByteArray.empty = l[k] := by rw [List.getD_eq_getElem?_getD, List.getElem?_eq_getElem h]; rfl
    have hgap : (gap l k).length ≤ 1 := by
      cases k with
      | zero => simp [gap]
      | succ j =>
        show (if l[j + 1]? ≠ some nl ∧ l[j]? ≠ some nl then [(32 : UInt8)] else []).length ≤ 1
        split <;> simp
    have hs : l[k].data.toList.length = l[k].size := by simp
    rw [hk, wt_append]
    simp only [joinK, List.length_append, hg, wt, hs]
    omega
theorem joinT_wt (l : List ByteArray) : (joinT l).length ≤ wt l := by
  have := joinK_wt l _ (Nat.le_refl _)
  rwa [List.take_length] at this
end WM
