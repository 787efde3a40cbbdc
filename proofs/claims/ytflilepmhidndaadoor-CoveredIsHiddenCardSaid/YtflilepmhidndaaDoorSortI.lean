/- slices.SortFunc of spans by their beginnings. -/
import Derived.Test.YtflilepmhidndaaDoorLaySF
import Derived.Test.YtflilepmhidndaaDoorSpRow
import Derived.Shelf.SlSortCmp.NoneTotal
namespace WM
/-- spans that begin between 0 and 200000 -/
abbrev Sp := { x : Int × Int // 0 ≤ x.1 ∧ x.1 ≤ 200000 }
instance : Inhabited Sp := ⟨⟨(0, 0), by omega⟩⟩
def encSp (x : Sp) : List Go.Value := [.int .i64 x.1.1, .int .i64 x.1.2]
def cfSp (x y : Sp) : Int := x.1.1 - y.1.1
theorem ltSp (x y : Sp) : Go.Proofs.ltOf cfSp x y = decide (x.1.1 < y.1.1) := by
  unfold Go.Proofs.ltOf cfSp
  rw [decide_eq_decide]
  omega
theorem swoSp : Go.Sort.SWO (Go.Proofs.ltOf cfSp) where
  irrefl x := by rw [ltSp]; simp
  trans x y z h1 h2 := by rw [ltSp] at *; simp at *; omega
  ntrans x y z h1 h2 := by rw [ltSp] at *; simp at *; omega
theorem permIn_perm {d d' : Array Sp} (h : Go.Sort.PermIn 0 d.size d d') : d'.toList.Perm d.toList := by
  obtain ⟨h1, _, h3⟩ := h
  have e1 : d'.extract 0 d.size = d' := by rw [← h1]; simp
  have e2 : d.extract 0 d.size = d := by simp
  rw [e1, e2] at h3
  exact h3
end WM
namespace Go.Proofs.YtflilepmhidndaaDoor
open Go.RowKit Go.Sort

theorem flat_sp (d : Array WM.Sp) : (flatK WM.encSp 2 d).toList = icells (d.toList.map (·.1)) := by
  apply List.ext_getElem?
  intro t
  by_cases ht : t < d.size * 2
  · have h1 : (flatK WM.encSp 2 d).toList[t]? = some ((flatK WM.encSp 2 d)[t]!) := by
      rw [Array.getElem?_toList, Array.getElem?_eq_getElem (by rw [size_flatK]; exact ht), getElem!_pos _ t (by rw [size_flatK]; exact ht)]
    rw [h1, get_flatK _ _ _ _ ht]
    have hj : t / 2 < d.size := by omega
    have hx : (d.toList.map (·.1))[t / 2]? = some (d[t / 2]!).1 := by
      rw [getElem!_pos d _ hj]
      simp [hj]
    obtain ⟨c1, c2⟩ := icells_at _ _ _ hx
    rcases Nat.mod_two_eq_zero_or_one t with e | e
    · rw [e]
      have : t / 2 * 2 = t := by omega
      rw [this] at c1
      rw [c1]
      simp [WM.encSp]
    · rw [e]
      have : t / 2 * 2 + 1 = t := by omega
      rw [this] at c2
      rw [c2]
      simp [WM.encSp]
  · rw [List.getElem?_eq_none (by simp; omega), List.getElem?_eq_none (by rw [icells_len]; simp; omega)]
theorem holdsI {w : World} {g : Nat} {cur : Array Value} {e : TypeId} {d : Array WM.Sp} (hb : w.heap[g]? = some (.cells cur e (0, 0))) (ht : cur.toList.take (d.size * 2) = icells (d.toList.map (·.1))) : HoldsK WM.encSp 2 w g 0 d := by
  intro j hj
  have hj' : j < d.size * 2 := by simpa using hj
  refine ⟨?_, by simp [World.frozen?, hb]⟩
  rw [← flat_sp] at ht
  have h1 : (cur.toList.take (d.size * 2))[j]? = (flatK WM.encSp 2 d).toList[j]? := by rw [ht]
  rw [List.getElem?_take_of_lt hj', Array.getElem?_toList, Array.getElem?_toList] at h1
  simp only [World.cell?, hb, Nat.zero_add]
  simp only [Option.isSome_none, Bool.false_eq_true, if_false]
  rw [h1, Array.getElem?_eq_getElem hj, getElem!_pos _ j hj]
  rfl
theorem heapI {w : World} {g n : Nat} {os : Array Obj} {cur : Array Value} {e : TypeId} {fr : Nat × Nat} (d : Array WM.Sp) (hb : w.heap[g]? = some (.cells cur e fr)) :
    (sortWorldK WM.encSp 2 w g 0 n d os).heap[g]? = some (.cells (putCells id 0 (flatK WM.encSp 2 d) cur) e fr) := by
  have hg : g < w.heap.size := (Array.getElem?_eq_some_iff.1 hb).1
  unfold sortWorldK putRowK
  rw [heap_grow_old _ _ (by simpa using hg)]
  simp [putRow, mapBlock, Sort.ahead, Array.getElem?_modify, hb, onCells]
theorem grownI {w : World} {g n : Nat} {os : Array Obj} (d : Array WM.Sp) : w.grownBy (sortWorldK WM.encSp 2 w g 0 n d os) (some g) := by
  unfold sortWorldK putRowK
  refine ⟨rfl, rfl, rfl, by simp, fun k hk hne => ?_⟩
  rw [heap_grow_old _ _ (by simpa using hk)]
  have : g ≠ k := fun e => hne (by rw [e])
  simp [putRow, mapBlock, Sort.ahead, Array.getElem?_modify, this]
theorem takeI (cur : Array Value) (d : Array WM.Sp) (h : d.size * 2 ≤ cur.size) : (putCells id 0 (flatK WM.encSp 2 d) cur).toList.take (d.size * 2) = icells (d.toList.map (·.1)) := by
  rw [← flat_sp]
  apply List.ext_getElem?
  intro j
  by_cases hj : j < d.size * 2
  · rw [List.getElem?_take_of_lt hj, Array.getElem?_toList, Array.getElem?_toList]
    simp [putCells, hj, show j < cur.size by omega]
  · rw [List.getElem?_take_eq_none (by omega), List.getElem?_eq_none (by simp; omega)]
set_option maxHeartbeats 1000000 in
/-- the closure -/
theorem byFrom_any (x y : WM.Sp) (W : World) : Calls Tryd.prog 25 #[.agg #[.int .i64 x.1.1, .int .i64 x.1.2], .agg #[.int .i64 y.1.1, .int .i64 y.1.2]] W fun e w' => e = .returned (.int .i64 (WM.cfSp x y)) ∧ ∃ q os', w' = grow (W.drewN q) os' := by
  obtain ⟨⟨p, q⟩, h1, h2⟩ := x
  obtain ⟨⟨r, s⟩, h3, h4⟩ := y
  dsimp only at h1 h2 h3 h4
  unfold WM.cfSp
  go_enter Tryd.func25, Tryd.ntmps25
  go_wp2_with fail
  go_ret
  exact ⟨rfl, 0, _, by rw [alloc_eq_grow, alloc_eq_grow, grow_grow]; rfl⟩
/-- the row has been sorted where it lies -/
def SortedI (base : Nat) (v : Value) (L : List (Int × Int)) (w : World) (e : Ending) (w' : World) : Prop := e = .returned (.tuple #[]) ∧ ∃ M, OwnI w' base v M ∧ M.length = L.length ∧ (∀ s, s ∈ M ↔ s ∈ L) ∧ (∀ (i j : Nat) (s t : Int × Int), M[i]? = some s → M[j]? = some t → i < j → s.1 ≤ t.1) ∧ w.grownBy w' v.ownBlock
theorem SortI_any {w : World} {base : Nat} {v : Value} {L : List (Int × Int)} (h : OwnI w base v L) (hl : L.length ≤ 1000000000000) (hr : ∀ s, s ∈ L → 0 ≤ s.1 ∧ s.1 ≤ 200000) :
    Calls Tryd.prog 24 #[v, .func (.func 25) #[] #[]] w (SortedI base v L w) := by
  rcases h.2 with ⟨rfl, h2⟩ | ⟨g, cap, cur, rfl, hg, hh, hn, hc, hsz, ht⟩
  · have hn : L = [] := List.eq_nil_of_length_eq_zero h2
    subst hn
    refine (show Calls Tryd.prog 24 #[.slice none 0 0, _] w _ from AnyF.slices_SortFunc_none Tryd.laysSF none 0 (.func (.func 25) #[] #[]) w).mono ?_
    rintro e w' ⟨rfl, rfl⟩
    exact ⟨rfl, [], OwnI.nil _ _, rfl, fun s => Iff.rfl, fun i j s t h1 => by simp at h1, World.grownBy.refl _ _⟩
  · have hgl : g < w.heap.size := (Array.getElem?_eq_some_iff.1 hh).1
    obtain ⟨d, hd, hds⟩ : ∃ d : Array WM.Sp, d.toList.map (·.1) = L ∧ d.size = L.length := by
      refine ⟨(L.attach.map fun x => (⟨x.1, hr x.1 x.2⟩ : WM.Sp)).toArray, ?_, by simp⟩
      show ((L.attach.map fun x => (⟨x.1, hr x.1 x.2⟩ : WM.Sp))).map (·.1) = L
      rw [List.map_map]
      exact List.attach_map_subtype_val L
    have hH : HoldsK WM.encSp 2 w g 0 d := holdsI hh (by rw [hds, hd]; exact ht)
    have eg : ∀ args w, (callFunc 25 args).run Tryd.prog w = .ok (.enter 25 args) w := enters_of Tryd.func25 (by kernel_rfl) rfl
    have hcmp : CmpLays Tryd.prog 25 #[] WM.encSp 2 WM.cfSp g 0 d.size w := fun _ _ _ _ x y => byFrom_any x y _
    have hcon := AnyQ.slices_SortFunc Tryd.laysSF 2 Tryd.isAgg38 Tryd.sizeOf38 WM.encSp (fun _ => rfl) (fun x v hv => by simp [WM.encSp] at hv; rcases hv with rfl | rfl <;> rfl) WM.cfSp WM.swoSp 25 #[] g 0 cap d w eg hcmp hH hgl (by omega)
    rw [hds] at hcon
    refine (show Calls Tryd.prog 24 #[.slice (some ⟨g, 0, none⟩) L.length cap, .func (.func 25) #[] #[]] w _ from hcon).mono ?_
    rintro e w' ⟨rfl, d', n, os, hp, hs, rfl⟩
    rw [← hds] at hp hs
    have hpp := WM.permIn_perm hp
    have hsd : d'.size = d.size := hp.1
    refine ⟨rfl, d'.toList.map (·.1), ?_, by simp [hsd, hds], fun s => ?_, fun i j s t h1 h2 hij => ?_, grownI d'⟩
    · refine ⟨by rw [icells_len], .inr ⟨g, cap, _, by simp [hsd, hds], hg, heapI d' hh, by simpa [hsd, hds] using hn, hc, by simp [putCells, hsz], ?_⟩⟩
      have := takeI cur d' (by rw [hsd, hds]; omega)
      simpa using this
    · rw [← hd]
      exact (hpp.map (·.1)).mem_iff
    · have hj : j < d'.size := by have := (List.getElem?_eq_some_iff.1 h2).1; simpa using this
      have hlt := hs i j (Nat.zero_le _) hij (by omega)
      rw [WM.ltSp, getElem!_pos d' j hj, getElem!_pos d' i (by omega)] at hlt
      simp [show i < d'.size by omega] at h1
      simp [hj] at h2
      subst h1; subst h2
      have := of_decide_eq_false hlt
      omega
end Go.Proofs.YtflilepmhidndaaDoor
