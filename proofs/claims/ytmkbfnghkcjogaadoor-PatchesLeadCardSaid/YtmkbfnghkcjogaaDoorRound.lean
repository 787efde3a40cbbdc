/- Plain mathematics: tokens that are put together are the tokens again. -/
import Derived.Test.YtmkbfnghkcjogaaDoorJoinM
namespace WM
open Go.Lib
def emit (w : List UInt8) : List (List UInt8) := if w.isEmpty then [] else [w]
def st32 (s : List (List UInt8) × List UInt8) (c : UInt8) : List (List UInt8) × List UInt8 := if c = 32 then (s.1 ++ emit s.2, []) else (s.1, s.2 ++ [c])
def stp (s : List (List UInt8) × List UInt8) (c : UInt8) : List (List UInt8) × List UInt8 := if c = 10 then (s.1 ++ emit s.2 ++ [[10]], []) else st32 s c
def fin (s : List (List UInt8) × List UInt8) : List (List UInt8) := s.1 ++ emit s.2
def fl (l cur : List UInt8) : List (List UInt8) := (splitC 32 l cur).filter fun x => !x.isEmpty
theorem fl_fold : ∀ (l w : List UInt8) (o : List (List UInt8)), fin (l.foldl st32 (o, w)) = o ++ fl l w
  | [], w, o => by
    simp only [List.foldl_nil, fin, fl, splitC, emit]
    cases w <;> simp
  | b :: t, w, o => by
    simp only [List.foldl_cons]
    by_cases h : b = 32
    · have ih := fl_fold t [] (o ++ emit w)
      have e : fl (b :: t) w = emit w ++ fl t [] := by
        unfold fl emit
        rw [show splitC 32 (b :: t) w = w :: splitC 32 t [] by simp [splitC, h], List.filter_cons]
        cases w <;> simp
      rw [show st32 (o, w) b = (o ++ emit w, []) by simp [st32, h], ih, e, List.append_assoc]
    · have ih := fl_fold t (w ++ [b]) o
      have e : fl (b :: t) w = fl t (w ++ [b]) := by
        unfold fl
        rw [show splitC 32 (b :: t) w = splitC 32 t (w ++ [b]) by simp [splitC, h]]
      rw [show st32 (o, w) b = (o, w ++ [b]) by simp [st32, h], ih, e]
theorem stp_out : ∀ (l w : List UInt8) (o : List (List UInt8)), fin (l.foldl stp (o, w)) = o ++ fin (l.foldl stp ([], w))
  | [], w, o => by simp [fin]
  | b :: t, w, o => by
    simp only [List.foldl_cons]
    by_cases h : b = 10
    · rw [show stp (o, w) b = (o ++ emit w ++ [[10]], []) by simp [stp, h], show stp ([], w) b = (emit w ++ [[10]], []) by simp [stp, h], stp_out t [] (o ++ emit w ++ [[10]]), stp_out t [] (emit w ++ [[10]])]
      simp
    · by_cases h2 : b = 32
      · rw [show stp (o, w) b = (o ++ emit w, []) by simp [stp, st32, h2], show stp ([], w) b = (emit w, []) by simp [stp, st32, h2], stp_out t [] (o ++ emit w), stp_out t [] (emit w)]
        simp
      · rw [show stp (o, w) b = (o, w ++ [b]) by simp [stp, st32, h, h2], show stp ([], w) b = ([], w ++ [b]) by simp [stp, st32, h, h2]]
        exact stp_out t (w ++ [b]) o
/-- the tokens of lines -/
def tl : List (List UInt8) → List (List UInt8)
  | [] => []
  | x :: ls => fl x [] ++ ls.flatMap fun y => [10] :: fl y []
theorem split_ne (c : UInt8) : ∀ l cur : List UInt8, splitC c l cur ≠ []
  | [], cur => by simp [splitC]
  | b :: t, cur => by
    by_cases h : b = c
    · simp [splitC, h]
    · rw [show splitC c (b :: t) cur = splitC c t (cur ++ [b]) by simp [splitC, h]]
      exact split_ne c t _
theorem tl_tail : ∀ ls : List (List UInt8), ls ≠ [] → (ls.flatMap fun y => [10] :: fl y []) = [10] :: tl ls
  | [], h => absurd rfl h
  | x :: ls, _ => by simp [tl]
theorem tl_split : ∀ (l cur : List UInt8), tl (splitC 10 l cur) = fin (l.foldl stp (cur.foldl st32 ([], [])))
  | [], cur => by
    have := fl_fold cur [] []
    simp only [List.nil_append] at this
    simp [splitC, tl, this]
  | b :: t, cur => by
    simp only [List.foldl_cons]
    by_cases h : b = 10
    · have e := fl_fold cur [] []
      simp only [List.nil_append] at e
      rw [show splitC 10 (b :: t) cur = cur :: splitC 10 t [] by simp [splitC, h]]
      rw [show tl (cur :: splitC 10 t []) = fl cur [] ++ ((splitC 10 t []).flatMap fun y => [10] :: fl y []) from rfl, tl_tail _ (split_ne 10 t []), tl_split t []]
      generalize cur.foldl st32 ([], []) = s at *
      obtain ⟨o, w⟩ := s
      rw [show stp (o, w) b = (o ++ emit w ++ [[10]], []) by simp [stp, h], stp_out t [] (o ++ emit w ++ [[10]]), ← e]
      simp [fin]
    · rw [show splitC 10 (b :: t) cur = splitC 10 t (cur ++ [b]) by simp [splitC, h], tl_split t (cur ++ [b])]
      rw [List.foldl_append]
      simp [stp, h]
theorem flds_data (x : ByteArray) : (flds x).map (·.data.toList) = fl x.data.toList [] := by
  unfold flds fl
  rw [← pieces_data]
  generalize pieces 32 x = l
  induction l with
  | nil => rfl
  | cons y l ih =>
    have e : y.toList = y.data.toList := toList_data y
    rw [List.filter_cons, List.map_cons, List.filter_cons, ← ih, e]
    cases y.data.toList.isEmpty <;> simp
theorem tl_snoc (ls : List (List UInt8)) (y : List UInt8) : tl (ls ++ [y]) = tl ls ++ (if ls.length = 0 then [] else [[10]]) ++ fl y [] := by
  cases ls with
  | nil => simp [tl]
  | cons x ls => simp [tl]
theorem toksK_data (ls : List ByteArray) : ∀ k, k ≤ ls.length → (toksK ls k).map (·.data.toList) = tl ((ls.take k).map (·.data.toList))
  | 0, _ => by simp [toksK, tl]
  | k + 1, h => by
    have ih := toksK_data ls k (by omega)
    have hk : ls.take (k + 1) = ls.take k ++ [ls[k]] := List.take_succ_eq_append_getElem h
    have hg : ls.getD k ByteArray.empty = ls[k] := by rw [List.getD_eq_getElem?_getD, List.getElem?_eq_getElem h]; rfl
    rw [hk, List.map_append, List.map_singleton, tl_snoc, ← ih]
    simp only [toksK, List.map_append, hg, flds_data, List.length_map, List.length_take]
    by_cases h0 : 0 < k
    · rw [if_pos h0, if_neg (by omega)]; rfl
    · rw [if_neg h0, if_pos (by omega)]; rfl
/-- tokens, byte by byte -/
theorem toks_run (s : ByteArray) : (toks s).map (·.data.toList) = fin (s.data.toList.foldl stp ([], [])) := by
  unfold toks
  rw [toksK_data _ _ (Nat.le_refl _), List.take_length, pieces_data, tl_split]
  rfl
/-- what can be a token -/
def IsTok (x : ByteArray) : Prop := x = nl ∨ (x.data.toList ≠ [] ∧ ∀ b, b ∈ x.data.toList → b ≠ 10 ∧ b ≠ 32)
def okW (w : List UInt8) : Prop := ∀ b, b ∈ w → b ≠ 10 ∧ b ≠ 32
def okT (t : List UInt8) : Prop := t = [10] ∨ (t ≠ [] ∧ okW t)
theorem emit_ok {w : List UInt8} (h : okW w) : ∀ t, t ∈ emit w → okT t := by
  intro t ht
  unfold emit at ht
  cases w with
  | nil => simp at ht
  | cons b w => simp at ht; subst ht; exact .inr ⟨by simp, h⟩
theorem run_ok : ∀ (l : List UInt8) (s : List (List UInt8) × List UInt8), (∀ t, t ∈ s.1 → okT t) → okW s.2 → (∀ t, t ∈ (l.foldl stp s).1 → okT t) ∧ okW (l.foldl stp s).2
  | [], s, h1, h2 => ⟨h1, h2⟩
  | b :: t, s, h1, h2 => by
    rw [List.foldl_cons]
    refine run_ok t _ ?_ ?_
    · intro x hx
      unfold stp st32 at hx
      split at hx
      · simp only [List.mem_append] at hx
        rcases hx with (hx | hx) | hx
        · exact h1 x hx
        · exact emit_ok h2 x hx
        · simp at hx; subst hx; exact .inl rfl
      · split at hx
        · simp only [List.mem_append] at hx
          rcases hx with hx | hx
          · exact h1 x hx
          · exact emit_ok h2 x hx
        · exact h1 x hx
    · unfold stp st32
      split
      · intro x hx; simp at hx
      · split
        · intro x hx; simp at hx
        · rename_i g1 g2
          intro x hx
          simp only [List.mem_append, List.mem_singleton] at hx
          rcases hx with hx | rfl
          · exact h2 x hx
          · exact ⟨g1, g2⟩
theorem ba_ext {a b : ByteArray} (h : a.data.toList = b.data.toList) : a = b := by cases a; cases b; simpa using h
theorem toks_ok (s : ByteArray) : ∀ x, x ∈ toks s → IsTok x := by
  intro x hx
  have h := run_ok s.data.toList ([], []) (fun t ht => by simp at ht) (fun b hb => by simp at hb)
  have hm : x.data.toList ∈ (toks s).map (·.data.toList) := List.mem_map_of_mem hx
  rw [toks_run] at hm
  unfold fin at hm
  rw [List.mem_append] at hm
  have ht : okT x.data.toList := by
    rcases hm with hm | hm
    · exact h.1 _ hm
    · exact emit_ok h.2 _ hm
  rcases ht with ht | ht
  · exact .inl (ba_ext ht)
  · exact .inr ht
/-- where the scan stands behind some tokens -/
def stOf (p : List ByteArray) : List (List UInt8) × List UInt8 := match p.getLast? with
  | none => ([], [])
  | some x => if x = nl then (p.map (·.data.toList), []) else (p.dropLast.map (·.data.toList), x.data.toList)
theorem st_snoc (p : List ByteArray) (t : ByteArray) : stOf (p ++ [t]) = if t = nl then ((p ++ [t]).map (·.data.toList), []) else (p.map (·.data.toList), t.data.toList) := by
  unfold stOf
  simp only [List.getLast?_append, List.getLast?_singleton, Option.some_or, List.dropLast_concat]
theorem st_fin {p : List ByteArray} (h : ∀ x, x ∈ p → IsTok x) : fin (stOf p) = p.map (·.data.toList) := by
  rcases List.eq_nil_or_concat p with rfl | ⟨q, t, rfl⟩
  · rfl
  · rw [List.concat_eq_append, st_snoc]
    by_cases e : t = nl
    · rw [if_pos e]; simp [fin, emit]
    · rw [if_neg e]
      rcases h t (by simp) with g | g
      · exact absurd g e
      · have : t.data.toList.isEmpty = false := by
          cases hq : t.data.toList with
          | nil => exact absurd hq g.1
          | cons b w => rfl
        simp [fin, emit, this]
theorem fold_word : ∀ (w v : List UInt8) (P : List (List UInt8)), okW w → w.foldl stp (P, v) = (P, v ++ w)
  | [], v, P, _ => by simp
  | b :: w, v, P, h => by
    have hb := h b (by simp)
    rw [List.foldl_cons, show stp (P, v) b = (P, v ++ [b]) by simp [stp, st32, hb.1, hb.2], fold_word w (v ++ [b]) P (fun x hx => h x (by simp [hx]))]
    simp
theorem join_run {l : List ByteArray} (h : ∀ x, x ∈ l → IsTok x) : ∀ k, k ≤ l.length → (joinK l k).foldl stp ([], []) = stOf (l.take k)
  | 0, _ => rfl
  | k + 1, hk => by
    have ih := join_run h k (by omega)
    have ht : l.take (k + 1) = l.take k ++ [l[k]] := List.take_succ_eq_append_getElem hk
    have hg : l.getD k ByteArray.empty = l[k] := by rw [List.getD_eq_getElem?_getD, List.getElem?_eq_getElem hk]; rfl
    have hx := List.getElem?_eq_getElem hk
    have hok : IsTok l[k] := h _ (List.getElem_mem hk)
    have hp : ∀ x, x ∈ l.take k → IsTok x := fun x hx => h x (List.mem_of_mem_take hx)
    have hf := st_fin hp
    rw [ht, st_snoc]
    simp only [joinK, hg, List.foldl_append, ih]
    generalize l[k] = t at *
    by_cases e : t = nl
    · rw [if_pos e]
      have hgap : gap l k = [] := by
        cases k with
        | zero => rfl
        | succ j => simp [gap, hx, e]
      rw [hgap, e]
      show stp (stOf (l.take k)) 10 = _
      rw [show stp (stOf (l.take k)) 10 = (fin (stOf (l.take k)) ++ [[10]], []) by simp [stp, fin], hf]
      simp [nl]
    · rw [if_neg e]
      have hw : okW t.data.toList := by
        rcases hok with g | g
        · exact absurd g e
        · exact g.2
      have hs : (gap l k).foldl stp (stOf (l.take k)) = ((l.take k).map (·.data.toList), []) := by
        cases k with
        | zero => rfl
        | succ j =>
          have hj : j < l.length := by omega
          have hy := List.getElem?_eq_getElem hj
          have htj : l.take (j + 1) = l.take j ++ [l[j]] := List.take_succ_eq_append_getElem hj
          by_cases q : l[j] = nl
          · have hgap : gap l (j + 1) = [] := by simp [gap, hy, q]
            rw [hgap, htj, List.foldl_nil, st_snoc, if_pos q]
          · have hgap : gap l (j + 1) = [32] := by simp [gap, hx, hy, e, q]
            rw [hgap]
            show stp (stOf (l.take (j + 1))) 32 = _
            rw [show stp (stOf (l.take (j + 1))) 32 = (fin (stOf (l.take (j + 1))), []) by simp [stp, st32, fin], hf]
      rw [hs, fold_word _ _ _ hw]
      simp
/-- tokens that are put together are the tokens again -/
theorem toks_join {l : List ByteArray} (h : ∀ x, x ∈ l → IsTok x) : toks ⟨(joinT l).toArray⟩ = l := by
  apply data_inj
  rw [toks_run]
  show fin ((joinT l).toArray.toList.foldl stp ([], [])) = _
  rw [List.toList_toArray]
  unfold joinT
  rw [join_run h _ (Nat.le_refl _), List.take_length, st_fin h]
end WM
