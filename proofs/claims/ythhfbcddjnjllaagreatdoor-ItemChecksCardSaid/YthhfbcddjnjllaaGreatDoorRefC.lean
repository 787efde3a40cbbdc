/- Contracts of treeFault and ItemsFault. -/
import Derived.Test.YthhfbcddjnjllaaGreatDoorRef
namespace Go.Proofs.YthhfbcddjnjllaaGreatDoor
open Go.RowKit

def RetRel (L : List It) (w : World) (i : Value) (wr : World) : Prop := (∃ k : Nat, i = .int .i64 k ∧ k ≤ L.length ∧ ∀ j, j < k → ¬ IM.retB L j) ∧ Below w.heap.size w wr
def EndRelR (L : List It) (w : World) (i : Value) (wr : World) : Prop := (∃ k : Nat, i = .int .i64 k ∧ k ≤ L.length ∧ IM.endF L (List.range L.length) = IM.endF L ((List.range L.length).drop k)) ∧ Below w.heap.size w wr
open Classical in
noncomputable def IM.tree (L : List It) : Int := if FM.cyc (IM.U L) then 14 else IM.endF L (List.range L.length)
theorem cyc_ret (L : List It) : FM.cyc (IM.U L) ↔ ∃ i, i < L.length ∧ IM.retB L i := by
  unfold FM.cyc IM.retB
  rw [IM.U_len]
theorem misp_par {L : List It} {i : Nat} {x : It} (hx : L[i]? = some x) (h : IM.par L x = none) : IM.mispB L i = false := misp_none (by rw [IM.U_nx, hx]; exact h)
theorem misp_par_some {L : List It} {i k : Nat} {x y : It} (hx : L[i]? = some x) (h : IM.par L x = some k) (hy : L[k]? = some y) : IM.mispB L i = !IM.kindOk y.kind := misp_some (by rw [IM.U_nx, hx]; exact h) hy

set_option maxRecDepth 100000 in
set_option maxHeartbeats 8000000 in
theorem treeFault_any (L : List It) (A : Option Addr) (cap : Nat) (w : World) (hA : ItRow w A cap L) (hL : L.length ≤ 1000000) (hR : IM.ids L) :
    Calls Tryz.prog 86 #[.slice A L.length cap] w (SaysI (IM.tree L) w) := by
  have hcap := hA.capLe
  have hmax := hA.capMax
  have HR := Lib.hid hR
  clear hR
  go_enter Tryz.func86, Tryz.ntmps86
  go_wp2_with fail
  go_loopw [10] (fun i wr => RetRel L w i wr) (fun i _ => L.length - (intOf i).toNat)
  case atStart => exact ⟨⟨0, rfl, by omega, fun j h => by omega⟩, Below.refl _ _⟩
  case round =>
    obtain ⟨⟨k, rfl, hk, hret⟩, hb⟩ := hrel
    have HRT := Lib.hid hret
    clear hret
    by_cases hlt : k < L.length
    · obtain ⟨b, hbb⟩ : ∃ b : Bool, b = true ↔ IM.retB L k := ⟨(open Classical in decide (IM.retB L k)), by simp⟩
      have HB := Lib.hid hbb
      clear hbb
      go_wp2_with fail
      refine (returns_any L A cap k hlt hL _ (hA.below hb) HR.out b HB.out).mono ?_
      rintro e w1 ⟨rfl, hb1⟩
      have hbw := hb.trans (hb1.mono hb.size)
      cases b
      · go_wp2_with fail
        refine ⟨⟨⟨k + 1, rfl, by omega, fun j hj h => ?_⟩, hbw⟩, by simp [intOf]; omega⟩
        rcases Nat.lt_or_ge j k with h1 | h1
        · exact HRT.out j h1 h
        · have e : j = k := by omega
          subst e
          have := HB.out
          simp at this
          exact this h
      · go_wp2_with fail
        go_ret
        refine says_n ?_ hbw
        unfold IM.tree
        rw [if_pos ((cyc_ret L).2 ⟨k, hlt, HB.out.1 (by simp)⟩)]
    · obtain rfl : k = L.length := by omega
      have HT : Hid (IM.tree L = IM.endF L (List.range L.length)) := by
        show _ = _
        unfold IM.tree
        rw [if_neg fun h => by
          obtain ⟨i, hi, h1⟩ := (cyc_ret L).1 h
          exact HRT.out i hi h1]
      clear HRT
      go_wp2_with fail
      go_loopw [19] (fun i wr => EndRelR L w i wr) (fun i _ => L.length - (intOf i).toNat)
      case atStart => exact ⟨⟨0, rfl, by omega, rfl⟩, hb⟩
      case round =>
        clear hb
        obtain ⟨⟨k, rfl, hk, hlk⟩, hb⟩ := hrel
        have HLK := Lib.hid hlk
        clear hlk
        by_cases hlt : k < L.length
        · have HST := Lib.hid (IM.endF_range L k hlt)
          obtain ⟨x, hx⟩ : ∃ x, L[k]? = some x := ⟨_, List.getElem?_eq_getElem hlt⟩
          have HX := Lib.hid hx
          obtain ⟨b, off, rfl, hbl, hat⟩ := hA.at_ k x hx
          clear hx
          have c5w := hat.c5
          clear hat
          have c5 := (hb.cell (p := ⟨b, off + k * 7 + 5, none⟩) hbl).trans c5w
          obtain ⟨p, hp⟩ : ∃ p, x.parent.toList.isEmpty = p := ⟨_, rfl⟩
          go_wp2_with fail
          refine (place_any L _ cap x.parent _ (hA.below hb)).mono ?_
          rintro e w1 ⟨rfl, hb1⟩
          have hbw := hb.trans (hb1.mono hb.size)
          clear c5
          have c5 := (hbw.cell (p := ⟨b, off + k * 7 + 5, none⟩) hbl).trans c5w
          obtain ⟨m, hm⟩ : ∃ m, IM.mispB L k = m := ⟨_, rfl⟩
          have HMI := Lib.hid hm
          clear hm hb1
          cases p
          · have hp2 : ¬ x.parent.toList = [] := by intro h; rw [h] at hp; cases hp
            have hpar : IM.par L x = IM.place L x.parent.toList := by unfold IM.par; rw [hp]; rfl
            cases hpl : IM.place L x.parent.toList with
            | none =>
              obtain rfl : false = m := by rw [← HMI.out, misp_par HX.out (hpar.trans hpl)]
              clear hpar hpl
              rw [show FM.oi none = -1 from rfl]
              go_wp2_with fail
              refine (aboveR_any L _ cap k hlt hL _ (hA.below hbw) HR.out).mono ?_
              rintro e w2 ⟨v, q, rfl, hown, hb2⟩
              have hbx := hbw.trans (hb2.mono hbw.size)
              obtain ⟨A2, cap2, rfl, _⟩ := hown.form
              have hdl : (zsOf (FM.chain (IM.U L) (L.length + 1) k)).length = IM.depth L k := by simp [zsOf, IM.depth]
              rw [hdl]
              have hdm : IM.depth L k ≤ L.length + 1 := FM.chain_len _ _ _
              clear hown hdl hb2
              generalize IM.depth L k = d at *
              by_cases hd : 4 < d
              · have q : decide (4 < (d : Int)) = true := decide_eq_true (by omega)
                have HD := Lib.hid hd
                clear hd
                go_wp2_with fail
                go_ret
                refine says_n ?_ hbx
                rw [HT.out, HLK.out, HST.out, if_neg (by rw [HMI.out]; simp), if_pos HD.out]
              · have q : decide (4 < (d : Int)) = false := decide_eq_false (by omega)
                have HD := Lib.hid hd
                clear hd
                go_wp2_with fail
                refine ⟨⟨⟨k + 1, rfl, by omega, ?_⟩, hbx⟩, by simp [intOf]; omega⟩
                rw [HLK.out, HST.out, if_neg (by rw [HMI.out]; simp), if_neg HD.out]
            | some q =>
              obtain ⟨hq, y, hy, _⟩ := IM.place_some hpl
              obtain ⟨b', off', hbo, hbl', hat'⟩ := hA.at_ q y hy
              obtain ⟨rfl, rfl⟩ : b = b' ∧ off = off' := by simpa using hbo
              have d2 := (hbw.cell (p := ⟨b, off + q * 7 + 2, none⟩) hbl).trans hat'.c2
              obtain rfl : (!IM.kindOk y.kind) = m := by rw [← HMI.out, misp_par_some HX.out (hpar.trans hpl) hy]
              rw [show FM.oi (some q) = (q : Int) from rfl]
              have q0 : decide (0 ≤ (q : Int)) = true := decide_eq_true (by omega)
              clear hpar hpl hy hbo hat'
              by_cases k1 : y.kind = 1
              · have q2 : (y.kind != 1) = false := by rw [k1]; rfl
                replace HMI : Hid (IM.mispB L k = false) := by show _ = _; rw [HMI.out]; unfold IM.kindOk; rw [k1]; rfl
                clear k1
                go_wp2_with fail
                refine (aboveR_any L _ cap k hlt hL _ (hA.below hbw) HR.out).mono ?_
                rintro e w2 ⟨v, q, rfl, hown, hb2⟩
                have hbx := hbw.trans (hb2.mono hbw.size)
                obtain ⟨A2, cap2, rfl, _⟩ := hown.form
                have hdl : (zsOf (FM.chain (IM.U L) (L.length + 1) k)).length = IM.depth L k := by simp [zsOf, IM.depth]
                rw [hdl]
                have hdm : IM.depth L k ≤ L.length + 1 := FM.chain_len _ _ _
                clear hown hdl hb2
                generalize IM.depth L k = d at *
                by_cases hd : 4 < d
                · have q : decide (4 < (d : Int)) = true := decide_eq_true (by omega)
                  have HD := Lib.hid hd
                  clear hd
                  go_wp2_with fail
                  go_ret
                  refine says_n ?_ hbx
                  rw [HT.out, HLK.out, HST.out, if_neg (by rw [HMI.out]; simp), if_pos HD.out]
                · have q : decide (4 < (d : Int)) = false := decide_eq_false (by omega)
                  have HD := Lib.hid hd
                  clear hd
                  go_wp2_with fail
                  refine ⟨⟨⟨k + 1, rfl, by omega, ?_⟩, hbx⟩, by simp [intOf]; omega⟩
                  rw [HLK.out, HST.out, if_neg (by rw [HMI.out]; simp), if_neg HD.out]
              by_cases k3 : y.kind = 3
              · have q2 : (y.kind != 1) = true := by rw [k3]; rfl
                have q3 : (y.kind != 3) = false := by rw [k3]; rfl
                replace HMI : Hid (IM.mispB L k = false) := by show _ = _; rw [HMI.out]; unfold IM.kindOk; rw [k3]; rfl
                clear k1 k3
                go_wp2_with fail
                refine (aboveR_any L _ cap k hlt hL _ (hA.below hbw) HR.out).mono ?_
                rintro e w2 ⟨v, q, rfl, hown, hb2⟩
                have hbx := hbw.trans (hb2.mono hbw.size)
                obtain ⟨A2, cap2, rfl, _⟩ := hown.form
                have hdl : (zsOf (FM.chain (IM.U L) (L.length + 1) k)).length = IM.depth L k := by simp [zsOf, IM.depth]
                rw [hdl]
                have hdm : IM.depth L k ≤ L.length + 1 := FM.chain_len _ _ _
                clear hown hdl hb2
                generalize IM.depth L k = d at *
                by_cases hd : 4 < d
                · have q : decide (4 < (d : Int)) = true := decide_eq_true (by omega)
                  have HD := Lib.hid hd
                  clear hd
                  go_wp2_with fail
                  go_ret
                  refine says_n ?_ hbx
                  rw [HT.out, HLK.out, HST.out, if_neg (by rw [HMI.out]; simp), if_pos HD.out]
                · have q : decide (4 < (d : Int)) = false := decide_eq_false (by omega)
                  have HD := Lib.hid hd
                  clear hd
                  go_wp2_with fail
                  refine ⟨⟨⟨k + 1, rfl, by omega, ?_⟩, hbx⟩, by simp [intOf]; omega⟩
                  rw [HLK.out, HST.out, if_neg (by rw [HMI.out]; simp), if_neg HD.out]
              · have q2 : (y.kind != 1) = true := bne_iff_ne.2 k1
                have q3 : (y.kind != 3) = true := bne_iff_ne.2 k3
                replace HMI : Hid (IM.mispB L k = true) := by show _ = _; rw [HMI.out]; unfold IM.kindOk; simp [k1, k3]
                clear k1 k3
                go_wp2_with fail
                go_ret
                refine says_n ?_ hbw
                rw [HT.out, HLK.out, HST.out, if_pos HMI.out]
          · have hp2 : x.parent.toList = [] := by simpa using hp
            obtain rfl : false = m := by rw [← HMI.out, misp_par HX.out (by unfold IM.par; rw [hp]; rfl)]
            rw [hp2, IM.ids_none HR.out]
            rw [show FM.oi none = -1 from rfl]
            have HP2 := Lib.hid hp2
            clear hp2
            go_wp2_with fail
            refine (aboveR_any L _ cap k hlt hL _ (hA.below hbw) HR.out).mono ?_
            rintro e w2 ⟨v, q, rfl, hown, hb2⟩
            have hbx := hbw.trans (hb2.mono hbw.size)
            obtain ⟨A2, cap2, rfl, _⟩ := hown.form
            have hdl : (zsOf (FM.chain (IM.U L) (L.length + 1) k)).length = IM.depth L k := by simp [zsOf, IM.depth]
            rw [hdl]
            have hdm : IM.depth L k ≤ L.length + 1 := FM.chain_len _ _ _
            clear hown hdl hb2
            generalize IM.depth L k = d at *
            by_cases hd : 4 < d
            · have q : decide (4 < (d : Int)) = true := decide_eq_true (by omega)
              have HD := Lib.hid hd
              clear hd
              go_wp2_with fail
              go_ret
              refine says_n ?_ hbx
              rw [HT.out, HLK.out, HST.out, if_neg (by rw [HMI.out]; simp), if_pos HD.out]
            · have q : decide (4 < (d : Int)) = false := decide_eq_false (by omega)
              have HD := Lib.hid hd
              clear hd
              go_wp2_with fail
              refine ⟨⟨⟨k + 1, rfl, by omega, ?_⟩, hbx⟩, by simp [intOf]; omega⟩
              rw [HLK.out, HST.out, if_neg (by rw [HMI.out]; simp), if_neg HD.out]
        · obtain rfl : k = L.length := by omega
          go_wp2_with fail
          go_ret
          refine says_n ?_ hb
          rw [HT.out, HLK.out, List.drop_of_length_le (by simp)]; rfl

def EachRelR (L : List It) (w : World) (last i : Value) (wr : World) : Prop := (∃ (k : Nat) (s : ByteArray), last = .string s ∧ i = .int .i64 k ∧ k ≤ L.length ∧ IM.eachF [] L = IM.eachF s.toList (L.drop k)) ∧ Below w.heap.size w wr
def LackRelR (L : List It) (w : World) (i : Value) (wr : World) : Prop := (∃ k : Nat, i = .int .i64 k ∧ k ≤ L.length ∧ IM.lack L L = IM.lack L (L.drop k)) ∧ Below w.heap.size w wr

set_option maxRecDepth 100000 in
set_option maxHeartbeats 8000000 in
theorem ItemsFault_any (L : List It) (A : Option Addr) (cap : Nat) (w : World) (hA : ItRow w A cap L) (hT : Tabs w) (hS : IM.smalls L) (hL : L.length ≤ 1000000) :
    Calls Tryz.prog 20 #[.slice A L.length cap] w (SaysI (IM.fault L) w) := by
  have hcap := hA.capLe
  have hmax := hA.capMax
  by_cases h2 : 2000 < L.length
  · have e : IM.fault L = 2 := by unfold IM.fault; rw [if_pos h2]
    rw [e]
    clear e
    go_enter Tryz.func20, Tryz.ntmps20
    go_wp2_with fail
    go_ret
    exact ⟨rfl, Below.refl _ _⟩
  have HE : Hid (IM.checks L = IM.eachF [] L) := by show _ = _; unfold IM.checks; rw [if_neg h2]
  go_enter Tryz.func20, Tryz.ntmps20
  go_wp2_with fail
  go_loopw [3, 14] (fun last i wr => EachRelR L w last i wr) (fun _ i _ => L.length - (intOf i).toNat)
  case atStart => exact ⟨⟨0, _, rfl, rfl, by omega, by rw [ByteArray.toList_eq]; rfl⟩, Below.refl _ _⟩
  case round =>
    obtain ⟨⟨k, s, rfl, rfl, hk, he⟩, hb⟩ := hrel
    have HF := Lib.hid he
    clear he
    by_cases hlt : k < L.length
    · obtain ⟨x, hx⟩ : ∃ x, L[k]? = some x := ⟨_, List.getElem?_eq_getElem hlt⟩
      have HX := Lib.hid hx
      obtain ⟨b, off, rfl, hbl, hat⟩ := (hA.below hb).at_ k x hx
      clear hx
      obtain ⟨c0, c1, c2, c3, c4, c5, c6⟩ := hat
      go_upto_region 7 with (fail)
      clear c0 c1 c2 c3 c4 c5 c6
      have hI := InItem.start x wr 30 (hT.below hb)
      revert hI
      show (InItem x wr (wr.alloc (.cells #[.string x.id, .string x.cu, .int .i64 x.kind, .string x.name, .int .i64 x.at', .string x.parent, .string x.text] 30)) → _)
      generalize (wr.alloc (.cells #[.string x.id, .string x.cu, .int .i64 x.kind, .string x.name, .int .i64 x.at', .string x.parent, .string x.text] 30)) = w5
      intro hI
      obtain ⟨c0, c1, c2, c3, c4, c5, c6⟩ := id hI.box
      go_wp2_with fail
      refine (ItemFault_any x (hS k x HX.out) _ hI.tabs).mono ?_
      rintro e w6 ⟨rfl, hw6⟩
      replace hI := hI.step hw6
      clear hw6 c0 c1 c2 c3 c4 c5 c6
      have hbw := hb.trans (hI.below.mono hb.size)
      obtain ⟨f, hf⟩ : ∃ f, x.fault = f := ⟨_, rfl⟩
      rw [hf]
      have HFa := Lib.hid hf
      clear hf
      by_cases hf0 : f = 0
      · subst hf0
        have c0 := hI.box.c0
        obtain ⟨q, hq⟩ : ∃ q, (Op.bytesLess x.id.toList s.toList || x.id.toList == s.toList) = q := ⟨_, rfl⟩
        have HQ := Lib.hid hq
        cases q
        · go_wp2_with fail
          refine ⟨⟨⟨k + 1, _, rfl, rfl, by omega, ?_⟩, hbw⟩, by simp [intOf]; omega⟩
          rw [HF.out, IM.eachF_drop HX.out, HFa.out, if_neg (by simp), HQ.out]
          rfl
        · go_wp2_with fail
          go_ret
          refine says_n ?_ hbw
          have hz : IM.checks L = 7 := by rw [HE.out, HF.out, IM.eachF_drop HX.out, HFa.out, if_neg (by simp), HQ.out]; rfl
          rw [IM.fault_checks (by rw [hz]; omega), hz]
      · have qf : (f != 0) = true := bne_iff_ne.2 hf0
        have HF0 := Lib.hid hf0
        clear hf0
        go_wp2_with fail
        go_ret
        refine says_n ?_ hbw
        have hz : IM.checks L = f := by rw [HE.out, HF.out, IM.eachF_drop HX.out, HFa.out, if_pos HF0.out]
        rw [IM.fault_checks (by rw [hz]; exact HF0.out), hz]
    · obtain rfl : k = L.length := by omega
      have hcz : IM.checks L = 0 := by rw [HE.out, HF.out, List.drop_length]; rfl
      obtain ⟨hf0, hri⟩ := IM.eachF_zero L [] (IM.checks_zero hcz).2
      have hids : IM.ids L := fun i x hx => fault_id (hf0 x (List.mem_of_getElem? hx)).1
      have HI := Lib.hid hids
      have HM := Lib.hid (IM.fault_more hcz)
      clear HF HE hcz hf0 hri hids
      go_wp2_with fail
      go_loopw [32] (fun i wr => LackRelR L w i wr) (fun i _ => L.length - (intOf i).toNat)
      case atStart => exact ⟨⟨0, rfl, by omega, rfl⟩, hb⟩
      case round =>
        clear hb
        obtain ⟨⟨k, rfl, hk, hlk⟩, hb⟩ := hrel
        have HLK := Lib.hid hlk
        clear hlk
        by_cases hlt : k < L.length
        · obtain ⟨x, hx⟩ : ∃ x, L[k]? = some x := ⟨_, List.getElem?_eq_getElem hlt⟩
          have HX := Lib.hid hx
          obtain ⟨b, off, rfl, hbl, hat⟩ := (hA.below hb).at_ k x hx
          clear hx
          obtain ⟨c0, c1, c2, c3, c4, c5, c6⟩ := hat
          go_upto_region 17 with (fail)
          clear c0 c1 c2 c3 c4 c5 c6
          have hW : Below wr.heap.size wr (wr.alloc (.cells x.cells 30)) := (Below.refl _ _).alloc (Nat.le_refl _) _
          have d5 : (wr.alloc (.cells x.cells 30)).cell? ⟨wr.heap.size, 5, none⟩ = some (.string x.parent) := World.cell?_alloc_at _ _ _ _ (by simp)
          revert hW d5
          show (Below wr.heap.size wr (wr.alloc (.cells #[.string x.id, .string x.cu, .int .i64 x.kind, .string x.name, .int .i64 x.at', .string x.parent, .string x.text] 30)) → (wr.alloc (.cells #[.string x.id, .string x.cu, .int .i64 x.kind, .string x.name, .int .i64 x.at', .string x.parent, .string x.text] 30)).cell? ⟨wr.heap.size, 5, none⟩ = some (.string x.parent) → _)
          generalize (wr.alloc (.cells #[.string x.id, .string x.cu, .int .i64 x.kind, .string x.name, .int .i64 x.at', .string x.parent, .string x.text] 30)) = w5
          intro hW d5
          have hb5 := hb.trans (hW.mono hb.size)
          clear hW
          obtain ⟨p, hp⟩ : ∃ p, x.parent.toList.isEmpty = p := ⟨_, rfl⟩
          cases p
          · have hp2 : ¬ x.parent.toList = [] := by intro h; rw [h] at hp; cases hp
            go_wp2_with fail
            refine (place_any L _ cap x.parent _ (hA.below hb5)).mono ?_
            rintro e w6 ⟨rfl, hb6⟩
            have hbw := hb5.trans (hb6.mono hb5.size)
            cases hpl : IM.place L x.parent.toList with
            | none =>
              have HLB : Hid (IM.lackB L x = true) := by show _ = _; unfold IM.lackB; rw [hp, hpl]; rfl
              rw [show FM.oi none = -1 from rfl]
              have q : decide ((-1 : Int) < 0) = true := rfl
              clear hpl
              go_wp2_with fail
              go_ret
              refine says_n ?_ hbw
              rw [HM.out, if_pos (by rw [HLK.out, IM.lack_drop HX.out, HLB.out]; rfl)]
            | some r =>
              have HLB : Hid (IM.lackB L x = false) := by show _ = _; unfold IM.lackB; rw [hp, hpl]; rfl
              rw [show FM.oi (some r) = (r : Int) from rfl]
              have q : decide ((r : Int) < 0) = false := decide_eq_false (by omega)
              clear hpl
              go_wp2_with fail
              exact ⟨⟨⟨k + 1, rfl, by omega, by rw [HLK.out, IM.lack_drop HX.out, HLB.out]; rfl⟩, hbw⟩, by simp [intOf]; omega⟩
          · have hp2 : x.parent.toList = [] := by simpa using hp
            have HLB : Hid (IM.lackB L x = false) := by show _ = _; unfold IM.lackB; rw [hp]; rfl
            have HP2 := Lib.hid hp2
            clear hp2
            go_wp2_with fail
            exact ⟨⟨⟨k + 1, rfl, by omega, by rw [HLK.out, IM.lack_drop HX.out, HLB.out]; rfl⟩, hb5⟩, by simp [intOf]; omega⟩
        · obtain rfl : k = L.length := by omega
          have HL0 : Hid (IM.lack L L = false) := by show _ = _; rw [HLK.out, List.drop_length]; rfl
          clear HLK
          go_wp2_with fail
          refine (treeFault_any L A cap _ (hA.below hb) hL HI.out).mono ?_
          rintro e w6 ⟨rfl, hb6⟩
          go_wp2_with fail
          go_ret
          refine says_n ?_ (hb.trans (hb6.mono hb.size))
          rw [HM.out, if_neg (by rw [HL0.out]; simp)]
          rfl
end Go.Proofs.YthhfbcddjnjllaaGreatDoor
