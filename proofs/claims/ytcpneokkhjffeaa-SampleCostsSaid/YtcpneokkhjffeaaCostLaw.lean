/- The law SampleCosts. -/
import Derived.Test.YtcpneokkhjffeaaCostR
import Derived.Test.YtcpneokkhjffeaaMk
import Derived.Test.YtcpneokkhjffeaaAffP
import Derived.Test.YtcpneokkhjffeaaDrawn
import Derived.Deep.DeepCutAuto
import Derived.Deep.RegionWith
import Derived.Deep.RegionHeld3
namespace Go.Proofs.Ytcpneokkhjffeaa
open Go.RowKit

theorem n_any (B g k bx : Nat) (W : World) (hs : Strm W B g k) (hb : W.cell? ⟨bx, 0, none⟩ = some (.pointer (some ⟨g, 0, none⟩))) (hk : k < 1000000000000) :
    Calls Try.prog 4 #[.pointer (some ⟨bx, 0, none⟩)] W (TookN 0 1000000000 B g (k + 1) W) := by
  have hP := pick_new 5 [.int .i64 0, .int .i64 1, .int .i64 10, .int .i64 250, .int .i64 1000000000] 0 1000000000 3 B g k W hs rfl (by omega) (by omega) (by decide) (by omega)
  clear hs
  go_enter Try.func4, Try.ntmps4
  go_wp2_with fail
  refine hP.mono ?_
  rintro e w1 ⟨r, h1, h2, rfl, ⟨k', hk', hs'⟩, hg⟩
  clear hP
  go_wp2_with fail
  go_ret
  exact tookN_of h1 h2 hs' hk' hg
theorem n_mk {w X : World} {k : Nat} (hm : Mk9 w X k) (hk : k ≤ 1000000) : Calls Try.prog 4 #[.pointer (some ⟨w.heap.size + 1, 0, none⟩)] X (Tk9 0 1000000000 w X (k + 1)) := by
  refine (n_any w.heap.size w.heap.size k (w.heap.size + 1) X hm.1 hm.cell (by omega)).mono ?_
  rintro e w' ⟨z, hz1, hz2, rfl, ⟨k', hk', hs⟩, hg⟩
  exact ⟨z, hz1, hz2, rfl, ⟨k', hk', hm.took hg hs⟩, hg⟩
theorem Nb9.four {w X : World} {b : Nat} {t : TypeId} {c0 c1 c2 c3 : Value} (h : Nb9 w X b t #[c0, c1, c2, c3]) : X.cell? ⟨b, 0, none⟩ = some c0 ∧ X.cell? ⟨b, 1, none⟩ = some c1 ∧ X.cell? ⟨b, 2, none⟩ = some c2 ∧ X.cell? ⟨b, 3, none⟩ = some c3 ∧ X.frozen? ⟨b, 0, none⟩ = false ∧ X.frozen? ⟨b, 1, none⟩ = false ∧ X.frozen? ⟨b, 2, none⟩ = false ∧ X.frozen? ⟨b, 3, none⟩ = false :=
  ⟨h.1.cell 0, h.1.cell 1, h.1.cell 2, h.1.cell 3, h.1.frozen 0, h.1.frozen 1, h.1.frozen 2, h.1.frozen 3⟩
theorem nb_size {w X : World} {b b' : Nat} {t : TypeId} {cs : Array Value} (h : Nb9 w X b t cs) (e : b' = b) : Nb9 w X b' t cs := by rw [e]; exact h
theorem four_set {w X : World} {b : Nat} {t : TypeId} {c0 c1 c2 c3 v0 v1 v2 v3 : Value} (h : Nb9 w X b t #[c0, c1, c2, c3]) : Nb9 w ((((X.setCell ⟨b, 0, none⟩ v0).setCell ⟨b, 1, none⟩ v1).setCell ⟨b, 2, none⟩ v2).setCell ⟨b, 3, none⟩ v3) b t #[v0, v1, v2, v3] :=
  ⟨(((h.1.set_ 0 v0).set_ 1 v1).set_ 2 v2).set_ 3 v3, h.2⟩
theorem two_set {w X : World} {b : Nat} {t : TypeId} {c0 c1 c2 c3 v1 v3 : Value} (h : Nb9 w X b t #[c0, c1, c2, c3]) : Nb9 w ((X.setCell ⟨b, 1, none⟩ v1).setCell ⟨b, 3, none⟩ v3) b t #[c0, v1, c2, v3] := ⟨(h.1.set_ 1 v1).set_ 3 v3, h.2⟩
theorem two_set' {w X : World} {b : Nat} {t : TypeId} {c0 c1 c2 c3 v1 v3 : Value} (h : Nb9 w X b t #[c0, c1, c2, c3]) : Nb9 w ((X.setCell ⟨b, 3, none⟩ v3).setCell ⟨b, 1, none⟩ v1) b t #[c0, v1, c2, v3] := ⟨(h.1.set_ 3 v3).set_ 1 v1, h.2⟩
def CutR (w : World) (lo : Int) (K : Nat) (v : Value) (wx : World) : Prop := ∃ (b : Nat) (o r s e : Int) (k : Nat), v = .pointer (some ⟨b, 0, none⟩) ∧ Nb9 w wx b 29 #[.int .i64 o, .int .i64 r, .int .i64 s, .int .i64 e] ∧
  (0 ≤ o ∧ o ≤ 1000000000 ∧ lo ≤ r ∧ r ≤ 1000000001 ∧ 0 ≤ s ∧ s ≤ 1000000000 ∧ lo ≤ e ∧ e ≤ 1000001) ∧ k ≤ K ∧ Mk9 w wx k
theorem cutR_of {w wx : World} {lo : Int} {K b k : Nat} {o r s e : Int} (hn : Nb9 w wx b 29 #[.int .i64 o, .int .i64 r, .int .i64 s, .int .i64 e]) (hb : 0 ≤ o ∧ o ≤ 1000000000 ∧ lo ≤ r ∧ r ≤ 1000000001 ∧ 0 ≤ s ∧ s ≤ 1000000000 ∧ lo ≤ e ∧ e ≤ 1000001) (hk : k ≤ K) (hm : Mk9 w wx k) : CutR w lo K (.pointer (some ⟨b, 0, none⟩)) wx := ⟨b, o, r, s, e, k, rfl, hn, hb, hk, hm⟩
set_option maxHeartbeats 16000000 in
set_option maxRecDepth 100000 in
theorem SampleCosts_any (A : Option Addr) (n cap : Nat) (w : World) (hl : Ints w w.heap.size A n) :
    Calls Try.prog 3 #[.slice A n cap] w (DrSays w) := by
  have hm1 : Mk9 w ((w.alloc (.cells #[.slice A n cap, .int .i64 0] 25)).alloc (.cells #[.pointer (some ⟨w.heap.size, 0, none⟩)] 23)) 0 := by
    refine ⟨hl.strm.alloc _, ?_, ((Below.refl _ _).alloc (Nat.le_refl _) _).alloc (by simp) _⟩
    have hb1 := Blk.new (w.alloc (.cells #[.slice A n cap, .int .i64 0] 25)) 23 #[.pointer (some ⟨w.heap.size, 0, none⟩)]
    rwa [show (w.alloc (.cells #[.slice A n cap, .int .i64 0] 25)).heap.size = w.heap.size + 1 by simp] at hb1
  clear hl
  go_enter Try.func3, Try.ntmps3
  go_upto_region 3 with fail
  generalize ((w.alloc (.cells #[.slice A n cap, .int .i64 0] 25)).alloc (.cells #[.pointer (some ⟨w.heap.size, 0, none⟩)] 23)) = W1 at *
  have c1 : W1.cell? ⟨w.heap.size + 1, 0, none⟩ = some (.pointer (some ⟨w.heap.size, 0, none⟩)) := hm1.cell
  have HM1 := Lib.hid hm1
  have K0 := Lib.hid (show (0 : Nat) ≤ 0 from Nat.le_refl _)
  clear hm1
  go_cut [5] (fun v wx => CutR w 0 4 v wx)
  case first =>
    go_region_held3 (fun w' => w'.cell? ⟨w.heap.size + 1, 0, none⟩ = some (.pointer (some ⟨w.heap.size, 0, none⟩)))
      (first | (with_reducible exact c1) | (with_reducible exact Mk9.cell (by repeat (first | with_reducible exact HM1.out | with_reducible exact HM2.out | with_reducible exact HM3.out | with_reducible exact HM4.out | with_reducible exact HM5.out | with_reducible apply Mk9.alloc | with_reducible apply Mk9.drew | with_reducible exact Mk9.set (Mk9.set (Mk9.set (Mk9.set HM5.out hlt5 _) hlt5 _) hlt5 _) hlt5 _ | with_reducible exact Mk9.set (Mk9.set (Mk9.set (Mk9.set (HM5.out.alloc _) HM5.out.size _) HM5.out.size _) HM5.out.size _) HM5.out.size _))) | fail)
      (first
        | (have hz := HM1; clear hz; (with_reducible refine (n_mk (k := 0) (by repeat (first | with_reducible exact HM1.out | with_reducible apply Mk9.alloc | with_reducible apply Mk9.drew)) (by omega)).mono ?_); rintro e w2 ⟨z1, y1, y2, rfl, ⟨k2, hk2, hm2⟩, hg2⟩; have HM2 := Lib.hid hm2; have Y1 := Lib.hid (And.intro y1 (And.intro y2 hk2)); (first | (have RL2 := Lib.hid (Nb9.took (t := 3) (cs := #[.int .i64 0, .int .i64 1, .int .i64 4, .int .i64 10, .int .i64 1000000]) (by repeat (first | with_reducible exact Nb9.new (k := 0) (by repeat (first | with_reducible exact HM1.out | with_reducible apply Mk9.alloc | with_reducible apply Mk9.drew)) _ _ | with_reducible apply Nb9.alloc | with_reducible apply Nb9.drew)) hg2)) | skip); (first | (have RZ2 := Lib.hid (Nb9.took (t := 29) (cs := #[.int .i64 0, .int .i64 0, .int .i64 0, .int .i64 0]) (by repeat (first | with_reducible exact Nb9.new (k := 0) (by repeat (first | with_reducible exact HM1.out | with_reducible apply Mk9.alloc | with_reducible apply Mk9.drew)) _ _ | with_reducible apply Nb9.alloc | with_reducible apply Nb9.drew)) hg2)) | skip); clear hm2 hg2 y1 y2 hk2 HM1)
        | (have hz := HM2; clear hz; (with_reducible refine (n_mk (k := k2) (by repeat (first | with_reducible exact HM2.out | with_reducible apply Mk9.alloc | with_reducible apply Mk9.drew)) (by have := Y1.out.2.2; omega)).mono ?_); rintro e w3 ⟨z2, y1, y2, rfl, ⟨k3, hk3, hm3⟩, hg3⟩; have HM3 := Lib.hid hm3; have Y2 := Lib.hid (And.intro y1 (And.intro y2 hk3)); (first | (have RL3 := Lib.hid (Nb9.took (t := 3) (cs := #[.int .i64 0, .int .i64 1, .int .i64 4, .int .i64 10, .int .i64 1000000]) (by repeat (first | with_reducible exact RL2.out | with_reducible exact Nb9.new (k := k2) (by repeat (first | with_reducible exact HM2.out | with_reducible apply Mk9.alloc | with_reducible apply Mk9.drew)) _ _ | with_reducible apply Nb9.alloc | with_reducible apply Nb9.drew)) hg3)) | skip); (first | (have RZ3 := Lib.hid (Nb9.took (t := 29) (cs := #[.int .i64 0, .int .i64 0, .int .i64 0, .int .i64 0]) (by repeat (first | with_reducible exact RZ2.out | with_reducible exact Nb9.new (k := k2) (by repeat (first | with_reducible exact HM2.out | with_reducible apply Mk9.alloc | with_reducible apply Mk9.drew)) _ _ | with_reducible apply Nb9.alloc | with_reducible apply Nb9.drew)) hg3)) | skip); clear hm3 hg3 y1 y2 hk3 HM2)
        | (have hz := HM3; clear hz; (with_reducible refine (n_mk (k := k3) (by repeat (first | with_reducible exact HM3.out | with_reducible apply Mk9.alloc | with_reducible apply Mk9.drew)) (by have := Y1.out.2.2; have := Y2.out.2.2; omega)).mono ?_); rintro e w4 ⟨z3, y1, y2, rfl, ⟨k4, hk4, hm4⟩, hg4⟩; have HM4 := Lib.hid hm4; have Y3 := Lib.hid (And.intro y1 (And.intro y2 hk4)); (first | (have RL4 := Lib.hid (Nb9.took (t := 3) (cs := #[.int .i64 0, .int .i64 1, .int .i64 4, .int .i64 10, .int .i64 1000000]) (by repeat (first | with_reducible exact RL3.out | with_reducible exact Nb9.new (k := k3) (by repeat (first | with_reducible exact HM3.out | with_reducible apply Mk9.alloc | with_reducible apply Mk9.drew)) _ _ | with_reducible apply Nb9.alloc | with_reducible apply Nb9.drew)) hg4)) | skip); (first | (have RZ4 := Lib.hid (Nb9.took (t := 29) (cs := #[.int .i64 0, .int .i64 0, .int .i64 0, .int .i64 0]) (by repeat (first | with_reducible exact RZ3.out | with_reducible exact Nb9.new (k := k3) (by repeat (first | with_reducible exact HM3.out | with_reducible apply Mk9.alloc | with_reducible apply Mk9.drew)) _ _ | with_reducible apply Nb9.alloc | with_reducible apply Nb9.drew)) hg4)) | skip); clear hm4 hg4 y1 y2 hk4 HM3)
        | (have hz := HM4; clear hz; (with_reducible refine (pick_mk (k := k4) 5 [.int .i64 0, .int .i64 1, .int .i64 4, .int .i64 10, .int .i64 1000000] 0 1000000 (by repeat (first | with_reducible exact HM4.out | with_reducible apply Mk9.alloc | with_reducible apply Mk9.drew)) (by repeat (first | with_reducible exact RL4.out | with_reducible exact nb_size RL4.out (by simp) | with_reducible exact Nb9.new (k := k4) (by repeat (first | with_reducible exact HM4.out | with_reducible apply Mk9.alloc | with_reducible apply Mk9.drew)) _ _ | with_reducible exact Nb9.new1 (k := k4) (by repeat (first | with_reducible exact HM4.out | with_reducible apply Mk9.alloc | with_reducible apply Mk9.drew)) _ _ (by simp) | with_reducible apply Nb9.alloc | with_reducible apply Nb9.drew)) rfl (by omega) (by omega) (by decide) (by have := Y1.out.2.2; have := Y2.out.2.2; have := Y3.out.2.2; omega)).mono ?_); rintro e w5 ⟨z4, y1, y2, rfl, ⟨k5, hk5, hm5⟩, hg5⟩; have HM5 := Lib.hid hm5; have Y4 := Lib.hid (And.intro y1 (And.intro y2 hk5)); (first | (have RZ5 := Lib.hid (Nb9.took (t := 29) (cs := #[.int .i64 0, .int .i64 0, .int .i64 0, .int .i64 0]) (by repeat (first | with_reducible exact RZ4.out | with_reducible exact Nb9.new (k := k4) (by repeat (first | with_reducible exact HM4.out | with_reducible apply Mk9.alloc | with_reducible apply Mk9.drew)) _ _ | with_reducible apply Nb9.alloc | with_reducible apply Nb9.drew)) hg5); obtain ⟨x0, x1, x2, x3, v0, v1, v2, v3⟩ := RZ5.out.four; have hlt5 := RZ5.out.2; try (simp only [World.size_alloc] at hlt5 x0 x1 x2 x3 v0 v1 v2 v3)) | skip); obtain ⟨p0, p1, p2, p3, p4, p5, p6, p7⟩ := (Nb9.new hm5 29 #[.int .i64 0, .int .i64 0, .int .i64 0, .int .i64 0]).four; clear hm5 hg5 y1 y2 hk5 HM4)
        | fail)
    all_goals go_wp2_with fail
    all_goals go_meet
    all_goals have HY := Lib.hid (show (0 ≤ z1 ∧ z1 ≤ 1000000000 ∧ 0 ≤ z2 ∧ z2 ≤ 1000000001 ∧ 0 ≤ z3 ∧ z3 ≤ 1000000000 ∧ 0 ≤ z4 ∧ z4 ≤ 1000001) ∧ k5 ≤ 4 by have := Y1.out; have := Y2.out; have := Y3.out; have := Y4.out; omega)
    all_goals first
      | with_reducible exact cutR_of (Nb9.new HM5.out _ _) HY.out.1 HY.out.2 (HM5.out.alloc _)
      | with_reducible exact cutR_of (four_set RZ5.out) HY.out.1 HY.out.2 (Mk9.set (Mk9.set (Mk9.set (Mk9.set HM5.out hlt5 _) hlt5 _) hlt5 _) hlt5 _)
      | with_reducible exact cutR_of (four_set (nb_size RZ5.out (by simp))) HY.out.1 HY.out.2 (Mk9.set (Mk9.set (Mk9.set (Mk9.set HM5.out hlt5 _) hlt5 _) hlt5 _) hlt5 _)
      | with_reducible exact cutR_of (four_set (Nb9.new HM5.out _ _)) HY.out.1 HY.out.2 (Mk9.set (Mk9.set (Mk9.set (Mk9.set (HM5.out.alloc _) HM5.out.size _) HM5.out.size _) HM5.out.size _) HM5.out.size _)
  case rest =>
    obtain ⟨b, o, r, s, e, k, rfl, hnb, hbd, hk, hmk⟩ := hcut
    have c0 : wc.cell? ⟨w.heap.size + 1, 0, none⟩ = some (.pointer (some ⟨w.heap.size, 0, none⟩)) := hmk.cell
    have hF := Flip_any 12 (by omega) (by omega) w.heap.size w.heap.size k (by omega) wc hmk.1
    have HM := Lib.hid hmk
    have HN := Lib.hid hnb
    have HB := Lib.hid (And.intro hbd hk)
    clear hmk hnb hbd hk HM1 K0 c1
    go_wp2_with fail
    refine hF.mono ?_
    rintro e1 w6 ⟨f, rfl, hs6, hg6⟩
    have HM6 := Lib.hid (HM.out.took hg6 hs6)
    have HN6 := Lib.hid (HN.out.took hg6)
    have c6 : w6.cell? ⟨w.heap.size + 1, 0, none⟩ = some (.pointer (some ⟨w.heap.size, 0, none⟩)) := HM6.out.cell
    clear hF hs6 hg6 HM HN c0
    go_upto_if 33 with fail
    go_cut [5] (fun v wx => CutR w (-1) 7 v wx)
    case first =>
      cases f
      · go_wp2_with fail
        go_meet
        exact ⟨b, o, r, s, e, k + 1, rfl, HN6.out, by have := HB.out.1; omega, by have := HB.out.2; omega, HM6.out⟩
      · have hltb := HN6.out.2
        go_upto_region 5 with fail
        go_region_held3 (fun w' => w'.cell? ⟨w.heap.size + 1, 0, none⟩ = some (.pointer (some ⟨w.heap.size, 0, none⟩)))
          (first | (with_reducible exact c6) | (with_reducible exact Mk9.cell (by repeat (first | with_reducible exact HM6.out | with_reducible exact HM7.out | with_reducible exact HM8.out | with_reducible apply Mk9.alloc | with_reducible apply Mk9.drew | with_reducible exact Mk9.set HM8.out hltb _ | with_reducible exact Mk9.set (Mk9.set HM8.out hltb _) hltb _))) | fail)
          (first
            | (have hz := HM6; clear hz; (with_reducible refine (pick_mk (k := k + 1) 3 [.int .i64 (-1), .int .i64 1000000001, .int .i64 5] (-1) 1000000001 (by repeat (first | with_reducible exact HM6.out | with_reducible apply Mk9.alloc | with_reducible apply Mk9.drew)) (by repeat (first | with_reducible exact Nb9.new1 (k := k + 1) (by repeat (first | with_reducible exact HM6.out | with_reducible apply Mk9.alloc | with_reducible apply Mk9.drew)) _ _ (by simp) | with_reducible apply Nb9.alloc | with_reducible apply Nb9.drew)) rfl (by omega) (by omega) (by decide) (by have := HB.out.2; omega)).mono ?_); rintro e2 w7 ⟨z1, y1, y2, rfl, ⟨k7, hk7, hm7⟩, hg7⟩; have HM7 := Lib.hid hm7; have Y1 := Lib.hid (And.intro y1 (And.intro y2 hk7)); have HN7 := Lib.hid (Nb9.took (by repeat (first | with_reducible exact HN6.out | with_reducible apply Nb9.alloc | with_reducible apply Nb9.drew)) hg7); (first | (have RL7 := Lib.hid (Nb9.took (t := 3) (cs := #[.int .i64 (-1), .int .i64 1000001, .int .i64 3]) (by repeat (first | with_reducible exact Nb9.new (k := k + 1) (by repeat (first | with_reducible exact HM6.out | with_reducible apply Mk9.alloc | with_reducible apply Mk9.drew)) _ _ | with_reducible apply Nb9.alloc | with_reducible apply Nb9.drew)) hg7)) | skip); clear hm7 hg7 y1 y2 hk7 HM6)
            | (have hz := HM7; clear hz; (with_reducible refine (pick_mk (k := k7) 3 [.int .i64 (-1), .int .i64 1000001, .int .i64 3] (-1) 1000001 (by repeat (first | with_reducible exact HM7.out | with_reducible apply Mk9.alloc | with_reducible apply Mk9.drew)) (by repeat (first | with_reducible exact RL7.out | with_reducible exact nb_size RL7.out (by simp) | with_reducible exact Nb9.new1 (k := k7) (by repeat (first | with_reducible exact HM7.out | with_reducible apply Mk9.alloc | with_reducible apply Mk9.drew)) _ _ (by simp) | with_reducible apply Nb9.alloc | with_reducible apply Nb9.drew)) rfl (by omega) (by omega) (by decide) (by have := HB.out.2; have := Y1.out.2.2; omega)).mono ?_); rintro e3 w8 ⟨z2, y1, y2, rfl, ⟨k8, hk8, hm8⟩, hg8⟩; have HM8 := Lib.hid hm8; have Y2 := Lib.hid (And.intro y1 (And.intro y2 hk8)); have HN8 := Lib.hid (Nb9.took (by repeat (first | with_reducible exact HN7.out | with_reducible apply Nb9.alloc | with_reducible apply Nb9.drew)) hg8); obtain ⟨x0, x1, x2, x3, v0, v1, v2, v3⟩ := HN8.out.four; clear hm8 hg8 y1 y2 hk8 HM7)
            | fail)
        all_goals go_wp2_with fail
        all_goals go_meet
        all_goals have HY := Lib.hid (show (0 ≤ o ∧ o ≤ 1000000000 ∧ -1 ≤ z1 ∧ z1 ≤ 1000000001 ∧ 0 ≤ s ∧ s ≤ 1000000000 ∧ -1 ≤ z2 ∧ z2 ≤ 1000001) ∧ k8 ≤ 7 by have := HB.out; have := Y1.out; have := Y2.out; omega)
        all_goals first
          | with_reducible exact cutR_of (two_set HN8.out) HY.out.1 HY.out.2 (Mk9.set (Mk9.set HM8.out hltb _) hltb _)
          | with_reducible exact cutR_of (two_set' HN8.out) HY.out.1 HY.out.2 (Mk9.set (Mk9.set HM8.out hltb _) hltb _)
    case rest =>
      obtain ⟨b2, o2, r2, s2, e2, k2, rfl, hnb, hbd, hk, hmk⟩ := hcut
      have c0 : wc.cell? ⟨w.heap.size + 1, 0, none⟩ = some (.pointer (some ⟨w.heap.size, 0, none⟩)) := hmk.cell
      have GM := Lib.hid hmk
      have GN := Lib.hid hnb
      have GB := Lib.hid (And.intro hbd hk)
      clear hmk hnb hbd hk HM6 HN6 c6 HB
      go_upto_region 6 with fail
      go_cut [6, 7] (fun v6 v7 wx => ∃ it ce : Int, v6 = .int .i64 it ∧ v7 = .int .i64 ce ∧ (-1 ≤ it ∧ it ≤ 1000001 ∧ -1 ≤ ce ∧ ce ≤ 10000000000000001) ∧ Nb9 w wx b2 29 #[.int .i64 o2, .int .i64 r2, .int .i64 s2, .int .i64 e2] ∧ Below w.heap.size w wx)
      case first =>
        go_region_held3 (fun w' => w'.cell? ⟨w.heap.size + 1, 0, none⟩ = some (.pointer (some ⟨w.heap.size, 0, none⟩)))
          (first | (with_reducible exact c0) | (with_reducible exact Mk9.cell (by repeat (first | with_reducible exact GM.out | with_reducible exact HM7.out | with_reducible exact HM8.out | with_reducible apply Mk9.alloc | with_reducible apply Mk9.drew))) | fail)
          (first
            | (have hz := GM; clear hz; (with_reducible refine (pick_mk (k := k2) 7 [.int .i64 0, .int .i64 1, .int .i64 9, .int .i64 100, .int .i64 1000000, .int .i64 (-1), .int .i64 1000001] (-1) 1000001 (by repeat (first | with_reducible exact GM.out | with_reducible apply Mk9.alloc | with_reducible apply Mk9.drew)) (by repeat (first | with_reducible exact Nb9.new1 (k := k2) (by repeat (first | with_reducible exact GM.out | with_reducible apply Mk9.alloc | with_reducible apply Mk9.drew)) _ _ (by simp) | with_reducible apply Nb9.alloc | with_reducible apply Nb9.drew)) rfl (by omega) (by omega) (by decide) (by have := GB.out.2; omega)).mono ?_); rintro e9 w7 ⟨z1, y1, y2, rfl, ⟨k7, hk7, hm7⟩, hg7⟩; have HM7 := Lib.hid hm7; have Y1 := Lib.hid (And.intro y1 (And.intro y2 hk7)); have HN7 := Lib.hid (Nb9.took (by repeat (first | with_reducible exact GN.out | with_reducible apply Nb9.alloc | with_reducible apply Nb9.drew)) hg7); (first | (have RL7 := Lib.hid (Nb9.took (t := 3) (cs := #[.int .i64 0, .int .i64 10, .int .i64 999, .int .i64 5000, .int .i64 123456, .int .i64 1000000000, .int .i64 10000000000000000, .int .i64 (-1), .int .i64 10000000000000001]) (by repeat (first | with_reducible exact Nb9.new (k := k2) (by repeat (first | with_reducible exact GM.out | with_reducible apply Mk9.alloc | with_reducible apply Mk9.drew)) _ _ | with_reducible apply Nb9.alloc | with_reducible apply Nb9.drew)) hg7)) | skip); clear hm7 hg7 y1 y2 hk7 GM)
            | (have hz := HM7; clear hz; (with_reducible refine (pick_mk (k := k7) 9 [.int .i64 0, .int .i64 10, .int .i64 999, .int .i64 5000, .int .i64 123456, .int .i64 1000000000, .int .i64 10000000000000000, .int .i64 (-1), .int .i64 10000000000000001] (-1) 10000000000000001 (by repeat (first | with_reducible exact HM7.out | with_reducible apply Mk9.alloc | with_reducible apply Mk9.drew)) (by repeat (first | with_reducible exact RL7.out | with_reducible exact nb_size RL7.out (by simp) | with_reducible exact Nb9.new1 (k := k7) (by repeat (first | with_reducible exact HM7.out | with_reducible apply Mk9.alloc | with_reducible apply Mk9.drew)) _ _ (by simp) | with_reducible apply Nb9.alloc | with_reducible apply Nb9.drew)) rfl (by omega) (by omega) (by decide) (by have := GB.out.2; have := Y1.out.2.2; omega)).mono ?_); rintro e8 w8 ⟨z2, y1, y2, rfl, ⟨k8, hk8, hm8⟩, hg8⟩; have HM8 := Lib.hid hm8; have Y2 := Lib.hid (And.intro y1 y2); have HN8 := Lib.hid (Nb9.took (by repeat (first | with_reducible exact HN7.out | with_reducible apply Nb9.alloc | with_reducible apply Nb9.drew)) hg8); clear hm8 hg8 y1 y2 hk8 HM7)
            | fail)
        all_goals go_wp2_with fail
        all_goals go_meet
        all_goals exact ⟨z1, z2, rfl, rfl, ⟨Y1.out.1, Y1.out.2.1, Y2.out.1, Y2.out.2⟩, HN8.out, HM8.out.2.2⟩
      case rest =>
        obtain ⟨it, ce, rfl, rfl, hic, hnb, hbw⟩ := hcut
        have HT := Lib.hid (And.intro hnb.1 hbw)
        have x0 : wc.cell? ⟨b2, 0, none⟩ = some (.int .i64 o2) := hnb.1.cell 0
        have x1 : wc.cell? ⟨b2, 1, none⟩ = some (.int .i64 r2) := hnb.1.cell 1
        have x2 : wc.cell? ⟨b2, 2, none⟩ = some (.int .i64 s2) := hnb.1.cell 2
        have x3 : wc.cell? ⟨b2, 3, none⟩ = some (.int .i64 e2) := hnb.1.cell 3
        have hdr : ∀ W, Calls Try.prog 12 #[] W (DrSays W) := fun W => drawn_any W
        have hbd := GB.out.1
        clear hnb hbw c0 GM GN GB
        by_cases hf : SC.fault o2 r2 s2 e2 = 0
        · have hcf := fun W => CostsFault_any o2 r2 s2 e2 0 hf W
          have hone := fault_all.1 hf
          have h2 := hone.2
          have h1 := hone.1 1 (by omega)
          unfold SC.one f3 at h1
          unfold SC.every at h2
          simp at h1 h2
          obtain ⟨o, rfl⟩ := Int.eq_ofNat_of_zero_le hbd.1
          obtain ⟨r, rfl⟩ := Int.eq_ofNat_of_zero_le h1.1
          obtain ⟨s, rfl⟩ := Int.eq_ofNat_of_zero_le hbd.2.2.2.2.1
          obtain ⟨e, rfl⟩ := Int.eq_ofNat_of_zero_le h2.1
          have ho : o ≤ 1000000000 := by omega
          have hr : r ≤ 1000000000 := by omega
          have hs : s ≤ 1000000000 := by omega
          have he : e ≤ 1000000 := by omega
          clear hone h1 h2 hbd
          by_cases hi : 0 ≤ it ∧ it ≤ 1000000
          · obtain ⟨i, rfl⟩ := Int.eq_ofNat_of_zero_le hi.1
            have hp1 := fun W => CostP_ok o r s e i ho hr hs he (by omega) W
            have hr1 := fun W => CostOf_any o r s e i ho hr hs he (by omega) W
            have qi1 : decide ((i : Int) < 0) = false := decide_eq_false (by omega)
            have qi2 : decide (1000000 < (i : Int)) = false := decide_eq_false (by omega)
            generalize SC.cost o r s e i = C at *
            by_cases hc : 0 ≤ ce ∧ ce ≤ 10000000000000000
            · have hp2 := fun W => AffordP_ok o r s e ce ho hr hs he hc W
              have hr2 := fun W => AffordOf_any o r s e ce ho hr hs he W
              have qc1 : decide (ce < 0) = false := decide_eq_false (by omega)
              have qc2 : decide (10000000000000000 < ce) = false := decide_eq_false (by omega)
              clear hf hi hc ho hr hs he hic
              go_wp2_with fail
              refine (hp1 _).mono ?_
              rintro e9 w1 ⟨rfl, hb1⟩
              have hB1 := HT.out.1.below hb1 HT.out.1.lt
              have HT1 := Lib.hid (And.intro hB1 (HT.out.2.trans (hb1.mono HT.out.2.size)))
              clear x0 x1 x2 x3 hb1 hp1 HT
              have x0 : w1.cell? ⟨b2, 0, none⟩ = some (.int .i64 o) := hB1.cell 0
              have x1 : w1.cell? ⟨b2, 1, none⟩ = some (.int .i64 r) := hB1.cell 1
              have x2 : w1.cell? ⟨b2, 2, none⟩ = some (.int .i64 s) := hB1.cell 2
              have x3 : w1.cell? ⟨b2, 3, none⟩ = some (.int .i64 e) := hB1.cell 3
              clear hB1
              go_wp2_with fail
              refine (hp2 _).mono ?_
              rintro e10 w2 ⟨L, hL, hres, hb2⟩
              obtain ⟨M, hmx⟩ : ∃ M : Int, max 0 L = M := ⟨_, rfl⟩
              obtain ⟨F, hFx⟩ : ∃ F : Int, (if 0 ≤ L then (0 : Int) else 16) = F := ⟨_, rfl⟩
              rw [hmx, hFx] at hres
              subst hres
              have HMF := Lib.hid (And.intro hmx hFx)
              clear hmx hFx
              have HL := Lib.hid hL
              clear hL
              have hB2 := HT1.out.1.below hb2 HT1.out.1.lt
              have HT2 := Lib.hid (And.intro hB2 (HT1.out.2.trans (hb2.mono HT1.out.2.size)))
              clear x0 x1 x2 x3 hb2 hp2 HT1
              have x0 : w2.cell? ⟨b2, 0, none⟩ = some (.int .i64 o) := hB2.cell 0
              have x1 : w2.cell? ⟨b2, 1, none⟩ = some (.int .i64 r) := hB2.cell 1
              have x2 : w2.cell? ⟨b2, 2, none⟩ = some (.int .i64 s) := hB2.cell 2
              have x3 : w2.cell? ⟨b2, 3, none⟩ = some (.int .i64 e) := hB2.cell 3
              have d0 : w2.drew.cell? ⟨b2, 0, none⟩ = some (.int .i64 o) := x0
              have d1 : w2.drew.cell? ⟨b2, 1, none⟩ = some (.int .i64 r) := x1
              have d2 : w2.drew.cell? ⟨b2, 2, none⟩ = some (.int .i64 s) := x2
              have d3 : w2.drew.cell? ⟨b2, 3, none⟩ = some (.int .i64 e) := x3
              have hf1 := hcf w2.drew
              clear hB2
              go_upto_region 9 with fail
              go_region_held3 (fun w' => w'.cell? ⟨b2, 0, none⟩ = some (.int .i64 o) ∧ w'.cell? ⟨b2, 1, none⟩ = some (.int .i64 r) ∧ w'.cell? ⟨b2, 2, none⟩ = some (.int .i64 s) ∧ w'.cell? ⟨b2, 3, none⟩ = some (.int .i64 e))
                (first | (with_reducible exact ⟨x0, x1, x2, x3⟩) | (with_reducible exact ⟨d0, d1, d2, d3⟩) | (with_reducible exact ⟨p0, p1, p2, p3⟩) | (with_reducible exact ⟨q0, q1, q2, q3⟩) | fail)
                (first
                  | (have hz := hf1; clear hz; (with_reducible refine hf1.mono ?_); rintro e11 w3 ⟨rfl, hb3⟩; replace hb3 : Below w2.heap.size w2 w3 := ⟨hb3.os, hb3.tape, hb3.output, hb3.size, hb3.block⟩; have hB3 := HT2.out.1.below hb3 HT2.out.1.lt; have p0 : w3.cell? ⟨b2, 0, none⟩ = some (.int .i64 o) := hB3.cell 0; have p1 : w3.cell? ⟨b2, 1, none⟩ = some (.int .i64 r) := hB3.cell 1; have p2 : w3.cell? ⟨b2, 2, none⟩ = some (.int .i64 s) := hB3.cell 2; have p3 : w3.cell? ⟨b2, 3, none⟩ = some (.int .i64 e) := hB3.cell 3; have HT3 := Lib.hid (And.intro hB3 (HT2.out.2.trans (hb3.mono HT2.out.2.size))); have hf2 := hcf w3; clear hb3 hB3 hf1)
                  | (have hz := hf2; clear hz; (with_reducible refine hf2.mono ?_); rintro e12 w4 ⟨rfl, hb4⟩; have hB4 := HT3.out.1.below hb4 HT3.out.1.lt; have q0 : w4.cell? ⟨b2, 0, none⟩ = some (.int .i64 o) := hB4.cell 0; have q1 : w4.cell? ⟨b2, 1, none⟩ = some (.int .i64 r) := hB4.cell 1; have q2 : w4.cell? ⟨b2, 2, none⟩ = some (.int .i64 s) := hB4.cell 2; have q3 : w4.cell? ⟨b2, 3, none⟩ = some (.int .i64 e) := hB4.cell 3; have HT4 := Lib.hid (And.intro hB4 (HT3.out.2.trans (hb4.mono HT3.out.2.size))); clear hb4 hB4 hf2) | fail)
              clear x0 x1 x2 x3 d0 d1 d2 d3 p0 p1 p2 p3 hcf
              go_wp2_with fail
              refine (hr1 _).mono ?_
              rintro e13 w5 ⟨rfl, hb5⟩
              have hB5 := HT4.out.1.below hb5 HT4.out.1.lt
              have HT5 := Lib.hid (And.intro hB5 (HT4.out.2.trans (hb5.mono HT4.out.2.size)))
              clear q0 q1 q2 q3 hb5 hr1 HT4
              have q0 : w5.cell? ⟨b2, 0, none⟩ = some (.int .i64 o) := hB5.cell 0
              have q1 : w5.cell? ⟨b2, 1, none⟩ = some (.int .i64 r) := hB5.cell 1
              have q2 : w5.cell? ⟨b2, 2, none⟩ = some (.int .i64 s) := hB5.cell 2
              have q3 : w5.cell? ⟨b2, 3, none⟩ = some (.int .i64 e) := hB5.cell 3
              clear hB5
              go_wp2_with fail
              refine (hr2 _).mono ?_
              rintro e14 w6 ⟨L2, hL2, hres, hb6⟩
              obtain rfl := Aff.same HL.out hL2
              rw [HMF.out.1] at hres
              subst hres
              have HT6 := Lib.hid (HT5.out.2.trans (hb6.mono HT5.out.2.size))
              clear q0 q1 q2 q3 hb6 hr2 hL2 HL HT5
              by_cases h0 : 0 ≤ L
              · have hdL : decide (0 ≤ L) = true := decide_eq_true h0
                obtain rfl : F = 0 := by rw [← HMF.out.2, if_pos h0]
                go_wp2_with fail
                refine (hdr _).mono ?_
                rintro e15 w7 ⟨rfl, hb7⟩
                go_wp2_with fail
                go_ret
                exact ⟨by first | rfl | simp, HT6.out.trans (hb7.mono HT6.out.size)⟩
              · have hdL : decide (0 ≤ L) = false := decide_eq_false h0
                obtain rfl : M = 0 := by have := HMF.out.1; omega
                obtain rfl : F = 16 := by rw [← HMF.out.2, if_neg h0]
                go_wp2_with fail
                refine (hdr _).mono ?_
                rintro e15 w7 ⟨rfl, hb7⟩
                go_wp2_with fail
                go_ret
                exact ⟨by first | rfl | simp, HT6.out.trans (hb7.mono HT6.out.size)⟩
            · have hp2 := fun W => AffordP_bad o r s e ce (Or.inr (by omega)) W
              have hcb : ce < 0 ∨ 10000000000000000 < ce := by omega
              clear hf hi hc ho hr hs he hic
              rcases (by omega : ce < 0 ∨ 10000000000000000 < ce) with hlo | hlo
              · have qc1 : decide (ce < 0) = true := decide_eq_true hlo
                clear hlo
                go_wp2_with fail
                refine (hp1 _).mono ?_
                rintro e9 w1 ⟨rfl, hb1⟩
                have hB1 := HT.out.1.below hb1 HT.out.1.lt
                have HT1 := Lib.hid (And.intro hB1 (HT.out.2.trans (hb1.mono HT.out.2.size)))
                clear x0 x1 x2 x3 hb1 hp1 HT
                have x0 : w1.cell? ⟨b2, 0, none⟩ = some (.int .i64 o) := hB1.cell 0
                have x1 : w1.cell? ⟨b2, 1, none⟩ = some (.int .i64 r) := hB1.cell 1
                have x2 : w1.cell? ⟨b2, 2, none⟩ = some (.int .i64 s) := hB1.cell 2
                have x3 : w1.cell? ⟨b2, 3, none⟩ = some (.int .i64 e) := hB1.cell 3
                clear hB1
                go_wp2_with fail
                refine (hp2 _).mono ?_
                rintro e10 w2 ⟨rfl, hb2⟩
                have hB2 := HT1.out.1.below hb2 HT1.out.1.lt
                have HT2 := Lib.hid (And.intro hB2 (HT1.out.2.trans (hb2.mono HT1.out.2.size)))
                clear x0 x1 x2 x3 hb2 hp2 HT1
                have x0 : w2.cell? ⟨b2, 0, none⟩ = some (.int .i64 o) := hB2.cell 0
                have x1 : w2.cell? ⟨b2, 1, none⟩ = some (.int .i64 r) := hB2.cell 1
                have x2 : w2.cell? ⟨b2, 2, none⟩ = some (.int .i64 s) := hB2.cell 2
                have x3 : w2.cell? ⟨b2, 3, none⟩ = some (.int .i64 e) := hB2.cell 3
                have d0 : w2.drew.cell? ⟨b2, 0, none⟩ = some (.int .i64 o) := x0
                have d1 : w2.drew.cell? ⟨b2, 1, none⟩ = some (.int .i64 r) := x1
                have d2 : w2.drew.cell? ⟨b2, 2, none⟩ = some (.int .i64 s) := x2
                have d3 : w2.drew.cell? ⟨b2, 3, none⟩ = some (.int .i64 e) := x3
                have hf1 := hcf w2.drew
                clear hB2
                go_upto_region 9 with fail
                go_region_held3 (fun w' => w'.cell? ⟨b2, 0, none⟩ = some (.int .i64 o) ∧ w'.cell? ⟨b2, 1, none⟩ = some (.int .i64 r) ∧ w'.cell? ⟨b2, 2, none⟩ = some (.int .i64 s) ∧ w'.cell? ⟨b2, 3, none⟩ = some (.int .i64 e))
                  (first | (with_reducible exact ⟨x0, x1, x2, x3⟩) | (with_reducible exact ⟨d0, d1, d2, d3⟩) | (with_reducible exact ⟨p0, p1, p2, p3⟩) | (with_reducible exact ⟨q0, q1, q2, q3⟩) | fail)
                  (first
                    | (have hz := hf1; clear hz; (with_reducible refine hf1.mono ?_); rintro e11 w3 ⟨rfl, hb3⟩; replace hb3 : Below w2.heap.size w2 w3 := ⟨hb3.os, hb3.tape, hb3.output, hb3.size, hb3.block⟩; have hB3 := HT2.out.1.below hb3 HT2.out.1.lt; have p0 : w3.cell? ⟨b2, 0, none⟩ = some (.int .i64 o) := hB3.cell 0; have p1 : w3.cell? ⟨b2, 1, none⟩ = some (.int .i64 r) := hB3.cell 1; have p2 : w3.cell? ⟨b2, 2, none⟩ = some (.int .i64 s) := hB3.cell 2; have p3 : w3.cell? ⟨b2, 3, none⟩ = some (.int .i64 e) := hB3.cell 3; have HT3 := Lib.hid (And.intro hB3 (HT2.out.2.trans (hb3.mono HT2.out.2.size))); have hf2 := hcf w3; clear hb3 hB3 hf1)
                    | (have hz := hf2; clear hz; (with_reducible refine hf2.mono ?_); rintro e12 w4 ⟨rfl, hb4⟩; have hB4 := HT3.out.1.below hb4 HT3.out.1.lt; have q0 : w4.cell? ⟨b2, 0, none⟩ = some (.int .i64 o) := hB4.cell 0; have q1 : w4.cell? ⟨b2, 1, none⟩ = some (.int .i64 r) := hB4.cell 1; have q2 : w4.cell? ⟨b2, 2, none⟩ = some (.int .i64 s) := hB4.cell 2; have q3 : w4.cell? ⟨b2, 3, none⟩ = some (.int .i64 e) := hB4.cell 3; have HT4 := Lib.hid (And.intro hB4 (HT3.out.2.trans (hb4.mono HT3.out.2.size))); clear hb4 hB4 hf2)
                    | fail)
                clear x0 x1 x2 x3 d0 d1 d2 d3 p0 p1 p2 p3 hcf
                go_wp2_with fail
                refine (hr1 _).mono ?_
                rintro e13 w5 ⟨rfl, hb5⟩
                have hB5 := HT4.out.1.below hb5 HT4.out.1.lt
                have HT5 := Lib.hid (And.intro hB5 (HT4.out.2.trans (hb5.mono HT4.out.2.size)))
                clear q0 q1 q2 q3 hb5 hr1 HT4
                have q0 : w5.cell? ⟨b2, 0, none⟩ = some (.int .i64 o) := hB5.cell 0
                have q1 : w5.cell? ⟨b2, 1, none⟩ = some (.int .i64 r) := hB5.cell 1
                have q2 : w5.cell? ⟨b2, 2, none⟩ = some (.int .i64 s) := hB5.cell 2
                have q3 : w5.cell? ⟨b2, 3, none⟩ = some (.int .i64 e) := hB5.cell 3
                clear hB5
                go_wp2_with fail
                refine (hdr _).mono ?_
                rintro e15 w7 ⟨rfl, hb7⟩
                go_wp2_with fail
                go_ret
                exact ⟨by first | rfl | simp, HT5.out.2.trans (hb7.mono HT5.out.2.size)⟩
              · have qc1 : decide (ce < 0) = false := decide_eq_false (by omega)
                have qc2 : decide (10000000000000000 < ce) = true := decide_eq_true hlo
                clear hlo
                go_wp2_with fail
                refine (hp1 _).mono ?_
                rintro e9 w1 ⟨rfl, hb1⟩
                have hB1 := HT.out.1.below hb1 HT.out.1.lt
                have HT1 := Lib.hid (And.intro hB1 (HT.out.2.trans (hb1.mono HT.out.2.size)))
                clear x0 x1 x2 x3 hb1 hp1 HT
                have x0 : w1.cell? ⟨b2, 0, none⟩ = some (.int .i64 o) := hB1.cell 0
                have x1 : w1.cell? ⟨b2, 1, none⟩ = some (.int .i64 r) := hB1.cell 1
                have x2 : w1.cell? ⟨b2, 2, none⟩ = some (.int .i64 s) := hB1.cell 2
                have x3 : w1.cell? ⟨b2, 3, none⟩ = some (.int .i64 e) := hB1.cell 3
                clear hB1
                go_wp2_with fail
                refine (hp2 _).mono ?_
                rintro e10 w2 ⟨rfl, hb2⟩
                have hB2 := HT1.out.1.below hb2 HT1.out.1.lt
                have HT2 := Lib.hid (And.intro hB2 (HT1.out.2.trans (hb2.mono HT1.out.2.size)))
                clear x0 x1 x2 x3 hb2 hp2 HT1
                have x0 : w2.cell? ⟨b2, 0, none⟩ = some (.int .i64 o) := hB2.cell 0
                have x1 : w2.cell? ⟨b2, 1, none⟩ = some (.int .i64 r) := hB2.cell 1
                have x2 : w2.cell? ⟨b2, 2, none⟩ = some (.int .i64 s) := hB2.cell 2
                have x3 : w2.cell? ⟨b2, 3, none⟩ = some (.int .i64 e) := hB2.cell 3
                have d0 : w2.drew.cell? ⟨b2, 0, none⟩ = some (.int .i64 o) := x0
                have d1 : w2.drew.cell? ⟨b2, 1, none⟩ = some (.int .i64 r) := x1
                have d2 : w2.drew.cell? ⟨b2, 2, none⟩ = some (.int .i64 s) := x2
                have d3 : w2.drew.cell? ⟨b2, 3, none⟩ = some (.int .i64 e) := x3
                have hf1 := hcf w2.drew
                clear hB2
                go_upto_region 9 with fail
                go_region_held3 (fun w' => w'.cell? ⟨b2, 0, none⟩ = some (.int .i64 o) ∧ w'.cell? ⟨b2, 1, none⟩ = some (.int .i64 r) ∧ w'.cell? ⟨b2, 2, none⟩ = some (.int .i64 s) ∧ w'.cell? ⟨b2, 3, none⟩ = some (.int .i64 e))
                  (first | (with_reducible exact ⟨x0, x1, x2, x3⟩) | (with_reducible exact ⟨d0, d1, d2, d3⟩) | (with_reducible exact ⟨p0, p1, p2, p3⟩) | (with_reducible exact ⟨q0, q1, q2, q3⟩) | fail)
                  (first
                    | (have hz := hf1; clear hz; (with_reducible refine hf1.mono ?_); rintro e11 w3 ⟨rfl, hb3⟩; replace hb3 : Below w2.heap.size w2 w3 := ⟨hb3.os, hb3.tape, hb3.output, hb3.size, hb3.block⟩; have hB3 := HT2.out.1.below hb3 HT2.out.1.lt; have p0 : w3.cell? ⟨b2, 0, none⟩ = some (.int .i64 o) := hB3.cell 0; have p1 : w3.cell? ⟨b2, 1, none⟩ = some (.int .i64 r) := hB3.cell 1; have p2 : w3.cell? ⟨b2, 2, none⟩ = some (.int .i64 s) := hB3.cell 2; have p3 : w3.cell? ⟨b2, 3, none⟩ = some (.int .i64 e) := hB3.cell 3; have HT3 := Lib.hid (And.intro hB3 (HT2.out.2.trans (hb3.mono HT2.out.2.size))); have hf2 := hcf w3; clear hb3 hB3 hf1)
                    | (have hz := hf2; clear hz; (with_reducible refine hf2.mono ?_); rintro e12 w4 ⟨rfl, hb4⟩; have hB4 := HT3.out.1.below hb4 HT3.out.1.lt; have q0 : w4.cell? ⟨b2, 0, none⟩ = some (.int .i64 o) := hB4.cell 0; have q1 : w4.cell? ⟨b2, 1, none⟩ = some (.int .i64 r) := hB4.cell 1; have q2 : w4.cell? ⟨b2, 2, none⟩ = some (.int .i64 s) := hB4.cell 2; have q3 : w4.cell? ⟨b2, 3, none⟩ = some (.int .i64 e) := hB4.cell 3; have HT4 := Lib.hid (And.intro hB4 (HT3.out.2.trans (hb4.mono HT3.out.2.size))); clear hb4 hB4 hf2)
                    | fail)
                clear x0 x1 x2 x3 d0 d1 d2 d3 p0 p1 p2 p3 hcf
                go_wp2_with fail
                refine (hr1 _).mono ?_
                rintro e13 w5 ⟨rfl, hb5⟩
                have hB5 := HT4.out.1.below hb5 HT4.out.1.lt
                have HT5 := Lib.hid (And.intro hB5 (HT4.out.2.trans (hb5.mono HT4.out.2.size)))
                clear q0 q1 q2 q3 hb5 hr1 HT4
                have q0 : w5.cell? ⟨b2, 0, none⟩ = some (.int .i64 o) := hB5.cell 0
                have q1 : w5.cell? ⟨b2, 1, none⟩ = some (.int .i64 r) := hB5.cell 1
                have q2 : w5.cell? ⟨b2, 2, none⟩ = some (.int .i64 s) := hB5.cell 2
                have q3 : w5.cell? ⟨b2, 3, none⟩ = some (.int .i64 e) := hB5.cell 3
                clear hB5
                go_wp2_with fail
                refine (hdr _).mono ?_
                rintro e15 w7 ⟨rfl, hb7⟩
                go_wp2_with fail
                go_ret
                exact ⟨by first | rfl | simp, HT5.out.2.trans (hb7.mono HT5.out.2.size)⟩
          · have hp1 := fun W => CostP_bad o r s e it (fun h => hi h.2) W
            have hib : it < 0 ∨ 1000000 < it := by omega
            by_cases hc : 0 ≤ ce ∧ ce ≤ 10000000000000000
            · have hp2 := fun W => AffordP_ok o r s e ce ho hr hs he hc W
              have hr2 := fun W => AffordOf_any o r s e ce ho hr hs he W
              have qc1 : decide (ce < 0) = false := decide_eq_false (by omega)
              have qc2 : decide (10000000000000000 < ce) = false := decide_eq_false (by omega)
              clear hf hi hc ho hr hs he hic
              rcases (by omega : it < 0 ∨ 1000000 < it) with hlo | hlo
              · have qi1 : decide (it < 0) = true := decide_eq_true hlo
                clear hlo
                go_wp2_with fail
                refine (hp1 _).mono ?_
                rintro e9 w1 ⟨rfl, hb1⟩
                have hB1 := HT.out.1.below hb1 HT.out.1.lt
                have HT1 := Lib.hid (And.intro hB1 (HT.out.2.trans (hb1.mono HT.out.2.size)))
                clear x0 x1 x2 x3 hb1 hp1 HT
                have x0 : w1.cell? ⟨b2, 0, none⟩ = some (.int .i64 o) := hB1.cell 0
                have x1 : w1.cell? ⟨b2, 1, none⟩ = some (.int .i64 r) := hB1.cell 1
                have x2 : w1.cell? ⟨b2, 2, none⟩ = some (.int .i64 s) := hB1.cell 2
                have x3 : w1.cell? ⟨b2, 3, none⟩ = some (.int .i64 e) := hB1.cell 3
                clear hB1
                go_wp2_with fail
                refine (hp2 _).mono ?_
                rintro e10 w2 ⟨L, hL, hres, hb2⟩
                obtain ⟨M, hmx⟩ : ∃ M : Int, max 0 L = M := ⟨_, rfl⟩
                obtain ⟨F, hFx⟩ : ∃ F : Int, (if 0 ≤ L then (0 : Int) else 16) = F := ⟨_, rfl⟩
                rw [hmx, hFx] at hres
                subst hres
                have HMF := Lib.hid (And.intro hmx hFx)
                clear hmx hFx
                have HL := Lib.hid hL
                clear hL
                have hB2 := HT1.out.1.below hb2 HT1.out.1.lt
                have HT2 := Lib.hid (And.intro hB2 (HT1.out.2.trans (hb2.mono HT1.out.2.size)))
                clear x0 x1 x2 x3 hb2 hp2 HT1
                have x0 : w2.cell? ⟨b2, 0, none⟩ = some (.int .i64 o) := hB2.cell 0
                have x1 : w2.cell? ⟨b2, 1, none⟩ = some (.int .i64 r) := hB2.cell 1
                have x2 : w2.cell? ⟨b2, 2, none⟩ = some (.int .i64 s) := hB2.cell 2
                have x3 : w2.cell? ⟨b2, 3, none⟩ = some (.int .i64 e) := hB2.cell 3
                have d0 : w2.drew.cell? ⟨b2, 0, none⟩ = some (.int .i64 o) := x0
                have d1 : w2.drew.cell? ⟨b2, 1, none⟩ = some (.int .i64 r) := x1
                have d2 : w2.drew.cell? ⟨b2, 2, none⟩ = some (.int .i64 s) := x2
                have d3 : w2.drew.cell? ⟨b2, 3, none⟩ = some (.int .i64 e) := x3
                have hf1 := hcf w2.drew
                clear hB2
                go_upto_region 9 with fail
                go_region_held3 (fun w' => w'.cell? ⟨b2, 0, none⟩ = some (.int .i64 o) ∧ w'.cell? ⟨b2, 1, none⟩ = some (.int .i64 r) ∧ w'.cell? ⟨b2, 2, none⟩ = some (.int .i64 s) ∧ w'.cell? ⟨b2, 3, none⟩ = some (.int .i64 e))
                  (first | (with_reducible exact ⟨x0, x1, x2, x3⟩) | (with_reducible exact ⟨d0, d1, d2, d3⟩) | (with_reducible exact ⟨p0, p1, p2, p3⟩) | (with_reducible exact ⟨q0, q1, q2, q3⟩) | fail)
                  (first
                    | (have hz := hf1; clear hz; (with_reducible refine hf1.mono ?_); rintro e11 w3 ⟨rfl, hb3⟩; replace hb3 : Below w2.heap.size w2 w3 := ⟨hb3.os, hb3.tape, hb3.output, hb3.size, hb3.block⟩; have hB3 := HT2.out.1.below hb3 HT2.out.1.lt; have p0 : w3.cell? ⟨b2, 0, none⟩ = some (.int .i64 o) := hB3.cell 0; have p1 : w3.cell? ⟨b2, 1, none⟩ = some (.int .i64 r) := hB3.cell 1; have p2 : w3.cell? ⟨b2, 2, none⟩ = some (.int .i64 s) := hB3.cell 2; have p3 : w3.cell? ⟨b2, 3, none⟩ = some (.int .i64 e) := hB3.cell 3; have HT3 := Lib.hid (And.intro hB3 (HT2.out.2.trans (hb3.mono HT2.out.2.size))); have hf2 := hcf w3; clear hb3 hB3 hf1)
                    | (have hz := hf2; clear hz; (with_reducible refine hf2.mono ?_); rintro e12 w4 ⟨rfl, hb4⟩; have hB4 := HT3.out.1.below hb4 HT3.out.1.lt; have q0 : w4.cell? ⟨b2, 0, none⟩ = some (.int .i64 o) := hB4.cell 0; have q1 : w4.cell? ⟨b2, 1, none⟩ = some (.int .i64 r) := hB4.cell 1; have q2 : w4.cell? ⟨b2, 2, none⟩ = some (.int .i64 s) := hB4.cell 2; have q3 : w4.cell? ⟨b2, 3, none⟩ = some (.int .i64 e) := hB4.cell 3; have HT4 := Lib.hid (And.intro hB4 (HT3.out.2.trans (hb4.mono HT3.out.2.size))); clear hb4 hB4 hf2)
                    | fail)
                clear x0 x1 x2 x3 d0 d1 d2 d3 p0 p1 p2 p3 hcf
                go_wp2_with fail
                refine (hr2 _).mono ?_
                rintro e14 w6 ⟨L2, hL2, hres, hb6⟩
                obtain rfl := Aff.same HL.out hL2
                rw [HMF.out.1] at hres
                subst hres
                have HT6 := Lib.hid (HT4.out.2.trans (hb6.mono HT4.out.2.size))
                clear q0 q1 q2 q3 hb6 hr2 hL2 HL HT4
                by_cases h0 : 0 ≤ L
                · have hdL : decide (0 ≤ L) = true := decide_eq_true h0
                  obtain rfl : F = 0 := by rw [← HMF.out.2, if_pos h0]
                  go_wp2_with fail
                  refine (hdr _).mono ?_
                  rintro e15 w7 ⟨rfl, hb7⟩
                  go_wp2_with fail
                  go_ret
                  exact ⟨by first | rfl | simp, HT6.out.trans (hb7.mono HT6.out.size)⟩
                · have hdL : decide (0 ≤ L) = false := decide_eq_false h0
                  obtain rfl : M = 0 := by have := HMF.out.1; omega
                  obtain rfl : F = 16 := by rw [← HMF.out.2, if_neg h0]
                  go_wp2_with fail
                  refine (hdr _).mono ?_
                  rintro e15 w7 ⟨rfl, hb7⟩
                  go_wp2_with fail
                  go_ret
                  exact ⟨by first | rfl | simp, HT6.out.trans (hb7.mono HT6.out.size)⟩
              · have qi1 : decide (it < 0) = false := decide_eq_false (by omega)
                have qi2 : decide (1000000 < it) = true := decide_eq_true hlo
                clear hlo
                go_wp2_with fail
                refine (hp1 _).mono ?_
                rintro e9 w1 ⟨rfl, hb1⟩
                have hB1 := HT.out.1.below hb1 HT.out.1.lt
                have HT1 := Lib.hid (And.intro hB1 (HT.out.2.trans (hb1.mono HT.out.2.size)))
                clear x0 x1 x2 x3 hb1 hp1 HT
                have x0 : w1.cell? ⟨b2, 0, none⟩ = some (.int .i64 o) := hB1.cell 0
                have x1 : w1.cell? ⟨b2, 1, none⟩ = some (.int .i64 r) := hB1.cell 1
                have x2 : w1.cell? ⟨b2, 2, none⟩ = some (.int .i64 s) := hB1.cell 2
                have x3 : w1.cell? ⟨b2, 3, none⟩ = some (.int .i64 e) := hB1.cell 3
                clear hB1
                go_wp2_with fail
                refine (hp2 _).mono ?_
                rintro e10 w2 ⟨L, hL, hres, hb2⟩
                obtain ⟨M, hmx⟩ : ∃ M : Int, max 0 L = M := ⟨_, rfl⟩
                obtain ⟨F, hFx⟩ : ∃ F : Int, (if 0 ≤ L then (0 : Int) else 16) = F := ⟨_, rfl⟩
                rw [hmx, hFx] at hres
                subst hres
                have HMF := Lib.hid (And.intro hmx hFx)
                clear hmx hFx
                have HL := Lib.hid hL
                clear hL
                have hB2 := HT1.out.1.below hb2 HT1.out.1.lt
                have HT2 := Lib.hid (And.intro hB2 (HT1.out.2.trans (hb2.mono HT1.out.2.size)))
                clear x0 x1 x2 x3 hb2 hp2 HT1
                have x0 : w2.cell? ⟨b2, 0, none⟩ = some (.int .i64 o) := hB2.cell 0
                have x1 : w2.cell? ⟨b2, 1, none⟩ = some (.int .i64 r) := hB2.cell 1
                have x2 : w2.cell? ⟨b2, 2, none⟩ = some (.int .i64 s) := hB2.cell 2
                have x3 : w2.cell? ⟨b2, 3, none⟩ = some (.int .i64 e) := hB2.cell 3
                have d0 : w2.drew.cell? ⟨b2, 0, none⟩ = some (.int .i64 o) := x0
                have d1 : w2.drew.cell? ⟨b2, 1, none⟩ = some (.int .i64 r) := x1
                have d2 : w2.drew.cell? ⟨b2, 2, none⟩ = some (.int .i64 s) := x2
                have d3 : w2.drew.cell? ⟨b2, 3, none⟩ = some (.int .i64 e) := x3
                have hf1 := hcf w2.drew
                clear hB2
                go_upto_region 9 with fail
                go_region_held3 (fun w' => w'.cell? ⟨b2, 0, none⟩ = some (.int .i64 o) ∧ w'.cell? ⟨b2, 1, none⟩ = some (.int .i64 r) ∧ w'.cell? ⟨b2, 2, none⟩ = some (.int .i64 s) ∧ w'.cell? ⟨b2, 3, none⟩ = some (.int .i64 e))
                  (first | (with_reducible exact ⟨x0, x1, x2, x3⟩) | (with_reducible exact ⟨d0, d1, d2, d3⟩) | (with_reducible exact ⟨p0, p1, p2, p3⟩) | (with_reducible exact ⟨q0, q1, q2, q3⟩) | fail)
                  (first
                    | (have hz := hf1; clear hz; (with_reducible refine hf1.mono ?_); rintro e11 w3 ⟨rfl, hb3⟩; replace hb3 : Below w2.heap.size w2 w3 := ⟨hb3.os, hb3.tape, hb3.output, hb3.size, hb3.block⟩; have hB3 := HT2.out.1.below hb3 HT2.out.1.lt; have p0 : w3.cell? ⟨b2, 0, none⟩ = some (.int .i64 o) := hB3.cell 0; have p1 : w3.cell? ⟨b2, 1, none⟩ = some (.int .i64 r) := hB3.cell 1; have p2 : w3.cell? ⟨b2, 2, none⟩ = some (.int .i64 s) := hB3.cell 2; have p3 : w3.cell? ⟨b2, 3, none⟩ = some (.int .i64 e) := hB3.cell 3; have HT3 := Lib.hid (And.intro hB3 (HT2.out.2.trans (hb3.mono HT2.out.2.size))); have hf2 := hcf w3; clear hb3 hB3 hf1)
                    | (have hz := hf2; clear hz; (with_reducible refine hf2.mono ?_); rintro e12 w4 ⟨rfl, hb4⟩; have hB4 := HT3.out.1.below hb4 HT3.out.1.lt; have q0 : w4.cell? ⟨b2, 0, none⟩ = some (.int .i64 o) := hB4.cell 0; have q1 : w4.cell? ⟨b2, 1, none⟩ = some (.int .i64 r) := hB4.cell 1; have q2 : w4.cell? ⟨b2, 2, none⟩ = some (.int .i64 s) := hB4.cell 2; have q3 : w4.cell? ⟨b2, 3, none⟩ = some (.int .i64 e) := hB4.cell 3; have HT4 := Lib.hid (And.intro hB4 (HT3.out.2.trans (hb4.mono HT3.out.2.size))); clear hb4 hB4 hf2)
                    | fail)
                clear x0 x1 x2 x3 d0 d1 d2 d3 p0 p1 p2 p3 hcf
                go_wp2_with fail
                refine (hr2 _).mono ?_
                rintro e14 w6 ⟨L2, hL2, hres, hb6⟩
                obtain rfl := Aff.same HL.out hL2
                rw [HMF.out.1] at hres
                subst hres
                have HT6 := Lib.hid (HT4.out.2.trans (hb6.mono HT4.out.2.size))
                clear q0 q1 q2 q3 hb6 hr2 hL2 HL HT4
                by_cases h0 : 0 ≤ L
                · have hdL : decide (0 ≤ L) = true := decide_eq_true h0
                  obtain rfl : F = 0 := by rw [← HMF.out.2, if_pos h0]
                  go_wp2_with fail
                  refine (hdr _).mono ?_
                  rintro e15 w7 ⟨rfl, hb7⟩
                  go_wp2_with fail
                  go_ret
                  exact ⟨by first | rfl | simp, HT6.out.trans (hb7.mono HT6.out.size)⟩
                · have hdL : decide (0 ≤ L) = false := decide_eq_false h0
                  obtain rfl : M = 0 := by have := HMF.out.1; omega
                  obtain rfl : F = 16 := by rw [← HMF.out.2, if_neg h0]
                  go_wp2_with fail
                  refine (hdr _).mono ?_
                  rintro e15 w7 ⟨rfl, hb7⟩
                  go_wp2_with fail
                  go_ret
                  exact ⟨by first | rfl | simp, HT6.out.trans (hb7.mono HT6.out.size)⟩
            · have hp2 := fun W => AffordP_bad o r s e ce (Or.inr (by omega)) W
              have hcb : ce < 0 ∨ 10000000000000000 < ce := by omega
              clear hf hi hc ho hr hs he hic
              rcases (by omega : it < 0 ∨ 1000000 < it) with hlo | hlo
              · have qi1 : decide (it < 0) = true := decide_eq_true hlo
                clear hlo
                rcases (by omega : ce < 0 ∨ 10000000000000000 < ce) with hlo | hlo
                · have qc1 : decide (ce < 0) = true := decide_eq_true hlo
                  clear hlo
                  go_wp2_with fail
                  refine (hp1 _).mono ?_
                  rintro e9 w1 ⟨rfl, hb1⟩
                  have hB1 := HT.out.1.below hb1 HT.out.1.lt
                  have HT1 := Lib.hid (And.intro hB1 (HT.out.2.trans (hb1.mono HT.out.2.size)))
                  clear x0 x1 x2 x3 hb1 hp1 HT
                  have x0 : w1.cell? ⟨b2, 0, none⟩ = some (.int .i64 o) := hB1.cell 0
                  have x1 : w1.cell? ⟨b2, 1, none⟩ = some (.int .i64 r) := hB1.cell 1
                  have x2 : w1.cell? ⟨b2, 2, none⟩ = some (.int .i64 s) := hB1.cell 2
                  have x3 : w1.cell? ⟨b2, 3, none⟩ = some (.int .i64 e) := hB1.cell 3
                  clear hB1
                  go_wp2_with fail
                  refine (hp2 _).mono ?_
                  rintro e10 w2 ⟨rfl, hb2⟩
                  have hB2 := HT1.out.1.below hb2 HT1.out.1.lt
                  have HT2 := Lib.hid (And.intro hB2 (HT1.out.2.trans (hb2.mono HT1.out.2.size)))
                  clear x0 x1 x2 x3 hb2 hp2 HT1
                  have x0 : w2.cell? ⟨b2, 0, none⟩ = some (.int .i64 o) := hB2.cell 0
                  have x1 : w2.cell? ⟨b2, 1, none⟩ = some (.int .i64 r) := hB2.cell 1
                  have x2 : w2.cell? ⟨b2, 2, none⟩ = some (.int .i64 s) := hB2.cell 2
                  have x3 : w2.cell? ⟨b2, 3, none⟩ = some (.int .i64 e) := hB2.cell 3
                  have d0 : w2.drew.cell? ⟨b2, 0, none⟩ = some (.int .i64 o) := x0
                  have d1 : w2.drew.cell? ⟨b2, 1, none⟩ = some (.int .i64 r) := x1
                  have d2 : w2.drew.cell? ⟨b2, 2, none⟩ = some (.int .i64 s) := x2
                  have d3 : w2.drew.cell? ⟨b2, 3, none⟩ = some (.int .i64 e) := x3
                  have hf1 := hcf w2.drew
                  clear hB2
                  go_upto_region 9 with fail
                  go_region_held3 (fun w' => w'.cell? ⟨b2, 0, none⟩ = some (.int .i64 o) ∧ w'.cell? ⟨b2, 1, none⟩ = some (.int .i64 r) ∧ w'.cell? ⟨b2, 2, none⟩ = some (.int .i64 s) ∧ w'.cell? ⟨b2, 3, none⟩ = some (.int .i64 e))
                    (first | (with_reducible exact ⟨x0, x1, x2, x3⟩) | (with_reducible exact ⟨d0, d1, d2, d3⟩) | (with_reducible exact ⟨p0, p1, p2, p3⟩) | (with_reducible exact ⟨q0, q1, q2, q3⟩) | fail)
                    (first
                      | (have hz := hf1; clear hz; (with_reducible refine hf1.mono ?_); rintro e11 w3 ⟨rfl, hb3⟩; replace hb3 : Below w2.heap.size w2 w3 := ⟨hb3.os, hb3.tape, hb3.output, hb3.size, hb3.block⟩; have hB3 := HT2.out.1.below hb3 HT2.out.1.lt; have p0 : w3.cell? ⟨b2, 0, none⟩ = some (.int .i64 o) := hB3.cell 0; have p1 : w3.cell? ⟨b2, 1, none⟩ = some (.int .i64 r) := hB3.cell 1; have p2 : w3.cell? ⟨b2, 2, none⟩ = some (.int .i64 s) := hB3.cell 2; have p3 : w3.cell? ⟨b2, 3, none⟩ = some (.int .i64 e) := hB3.cell 3; have HT3 := Lib.hid (And.intro hB3 (HT2.out.2.trans (hb3.mono HT2.out.2.size))); have hf2 := hcf w3; clear hb3 hB3 hf1)
                      | (have hz := hf2; clear hz; (with_reducible refine hf2.mono ?_); rintro e12 w4 ⟨rfl, hb4⟩; have hB4 := HT3.out.1.below hb4 HT3.out.1.lt; have q0 : w4.cell? ⟨b2, 0, none⟩ = some (.int .i64 o) := hB4.cell 0; have q1 : w4.cell? ⟨b2, 1, none⟩ = some (.int .i64 r) := hB4.cell 1; have q2 : w4.cell? ⟨b2, 2, none⟩ = some (.int .i64 s) := hB4.cell 2; have q3 : w4.cell? ⟨b2, 3, none⟩ = some (.int .i64 e) := hB4.cell 3; have HT4 := Lib.hid (And.intro hB4 (HT3.out.2.trans (hb4.mono HT3.out.2.size))); clear hb4 hB4 hf2)
                      | fail)
                  clear x0 x1 x2 x3 d0 d1 d2 d3 p0 p1 p2 p3 hcf
                  go_wp2_with fail
                  refine (hdr _).mono ?_
                  rintro e15 w7 ⟨rfl, hb7⟩
                  go_wp2_with fail
                  go_ret
                  exact ⟨by first | rfl | simp, HT4.out.2.trans (hb7.mono HT4.out.2.size)⟩
                · have qc1 : decide (ce < 0) = false := decide_eq_false (by omega)
                  have qc2 : decide (10000000000000000 < ce) = true := decide_eq_true hlo
                  clear hlo
                  go_wp2_with fail
                  refine (hp1 _).mono ?_
                  rintro e9 w1 ⟨rfl, hb1⟩
                  have hB1 := HT.out.1.below hb1 HT.out.1.lt
                  have HT1 := Lib.hid (And.intro hB1 (HT.out.2.trans (hb1.mono HT.out.2.size)))
                  clear x0 x1 x2 x3 hb1 hp1 HT
                  have x0 : w1.cell? ⟨b2, 0, none⟩ = some (.int .i64 o) := hB1.cell 0
                  have x1 : w1.cell? ⟨b2, 1, none⟩ = some (.int .i64 r) := hB1.cell 1
                  have x2 : w1.cell? ⟨b2, 2, none⟩ = some (.int .i64 s) := hB1.cell 2
                  have x3 : w1.cell? ⟨b2, 3, none⟩ = some (.int .i64 e) := hB1.cell 3
                  clear hB1
                  go_wp2_with fail
                  refine (hp2 _).mono ?_
                  rintro e10 w2 ⟨rfl, hb2⟩
                  have hB2 := HT1.out.1.below hb2 HT1.out.1.lt
                  have HT2 := Lib.hid (And.intro hB2 (HT1.out.2.trans (hb2.mono HT1.out.2.size)))
                  clear x0 x1 x2 x3 hb2 hp2 HT1
                  have x0 : w2.cell? ⟨b2, 0, none⟩ = some (.int .i64 o) := hB2.cell 0
                  have x1 : w2.cell? ⟨b2, 1, none⟩ = some (.int .i64 r) := hB2.cell 1
                  have x2 : w2.cell? ⟨b2, 2, none⟩ = some (.int .i64 s) := hB2.cell 2
                  have x3 : w2.cell? ⟨b2, 3, none⟩ = some (.int .i64 e) := hB2.cell 3
                  have d0 : w2.drew.cell? ⟨b2, 0, none⟩ = some (.int .i64 o) := x0
                  have d1 : w2.drew.cell? ⟨b2, 1, none⟩ = some (.int .i64 r) := x1
                  have d2 : w2.drew.cell? ⟨b2, 2, none⟩ = some (.int .i64 s) := x2
                  have d3 : w2.drew.cell? ⟨b2, 3, none⟩ = some (.int .i64 e) := x3
                  have hf1 := hcf w2.drew
                  clear hB2
                  go_upto_region 9 with fail
                  go_region_held3 (fun w' => w'.cell? ⟨b2, 0, none⟩ = some (.int .i64 o) ∧ w'.cell? ⟨b2, 1, none⟩ = some (.int .i64 r) ∧ w'.cell? ⟨b2, 2, none⟩ = some (.int .i64 s) ∧ w'.cell? ⟨b2, 3, none⟩ = some (.int .i64 e))
                    (first | (with_reducible exact ⟨x0, x1, x2, x3⟩) | (with_reducible exact ⟨d0, d1, d2, d3⟩) | (with_reducible exact ⟨p0, p1, p2, p3⟩) | (with_reducible exact ⟨q0, q1, q2, q3⟩) | fail)
                    (first
                      | (have hz := hf1; clear hz; (with_reducible refine hf1.mono ?_); rintro e11 w3 ⟨rfl, hb3⟩; replace hb3 : Below w2.heap.size w2 w3 := ⟨hb3.os, hb3.tape, hb3.output, hb3.size, hb3.block⟩; have hB3 := HT2.out.1.below hb3 HT2.out.1.lt; have p0 : w3.cell? ⟨b2, 0, none⟩ = some (.int .i64 o) := hB3.cell 0; have p1 : w3.cell? ⟨b2, 1, none⟩ = some (.int .i64 r) := hB3.cell 1; have p2 : w3.cell? ⟨b2, 2, none⟩ = some (.int .i64 s) := hB3.cell 2; have p3 : w3.cell? ⟨b2, 3, none⟩ = some (.int .i64 e) := hB3.cell 3; have HT3 := Lib.hid (And.intro hB3 (HT2.out.2.trans (hb3.mono HT2.out.2.size))); have hf2 := hcf w3; clear hb3 hB3 hf1)
                      | (have hz := hf2; clear hz; (with_reducible refine hf2.mono ?_); rintro e12 w4 ⟨rfl, hb4⟩; have hB4 := HT3.out.1.below hb4 HT3.out.1.lt; have q0 : w4.cell? ⟨b2, 0, none⟩ = some (.int .i64 o) := hB4.cell 0; have q1 : w4.cell? ⟨b2, 1, none⟩ = some (.int .i64 r) := hB4.cell 1; have q2 : w4.cell? ⟨b2, 2, none⟩ = some (.int .i64 s) := hB4.cell 2; have q3 : w4.cell? ⟨b2, 3, none⟩ = some (.int .i64 e) := hB4.cell 3; have HT4 := Lib.hid (And.intro hB4 (HT3.out.2.trans (hb4.mono HT3.out.2.size))); clear hb4 hB4 hf2)
                      | fail)
                  clear x0 x1 x2 x3 d0 d1 d2 d3 p0 p1 p2 p3 hcf
                  go_wp2_with fail
                  refine (hdr _).mono ?_
                  rintro e15 w7 ⟨rfl, hb7⟩
                  go_wp2_with fail
                  go_ret
                  exact ⟨by first | rfl | simp, HT4.out.2.trans (hb7.mono HT4.out.2.size)⟩
              · have qi1 : decide (it < 0) = false := decide_eq_false (by omega)
                have qi2 : decide (1000000 < it) = true := decide_eq_true hlo
                clear hlo
                rcases (by omega : ce < 0 ∨ 10000000000000000 < ce) with hlo | hlo
                · have qc1 : decide (ce < 0) = true := decide_eq_true hlo
                  clear hlo
                  go_wp2_with fail
                  refine (hp1 _).mono ?_
                  rintro e9 w1 ⟨rfl, hb1⟩
                  have hB1 := HT.out.1.below hb1 HT.out.1.lt
                  have HT1 := Lib.hid (And.intro hB1 (HT.out.2.trans (hb1.mono HT.out.2.size)))
                  clear x0 x1 x2 x3 hb1 hp1 HT
                  have x0 : w1.cell? ⟨b2, 0, none⟩ = some (.int .i64 o) := hB1.cell 0
                  have x1 : w1.cell? ⟨b2, 1, none⟩ = some (.int .i64 r) := hB1.cell 1
                  have x2 : w1.cell? ⟨b2, 2, none⟩ = some (.int .i64 s) := hB1.cell 2
                  have x3 : w1.cell? ⟨b2, 3, none⟩ = some (.int .i64 e) := hB1.cell 3
                  clear hB1
                  go_wp2_with fail
                  refine (hp2 _).mono ?_
                  rintro e10 w2 ⟨rfl, hb2⟩
                  have hB2 := HT1.out.1.below hb2 HT1.out.1.lt
                  have HT2 := Lib.hid (And.intro hB2 (HT1.out.2.trans (hb2.mono HT1.out.2.size)))
                  clear x0 x1 x2 x3 hb2 hp2 HT1
                  have x0 : w2.cell? ⟨b2, 0, none⟩ = some (.int .i64 o) := hB2.cell 0
                  have x1 : w2.cell? ⟨b2, 1, none⟩ = some (.int .i64 r) := hB2.cell 1
                  have x2 : w2.cell? ⟨b2, 2, none⟩ = some (.int .i64 s) := hB2.cell 2
                  have x3 : w2.cell? ⟨b2, 3, none⟩ = some (.int .i64 e) := hB2.cell 3
                  have d0 : w2.drew.cell? ⟨b2, 0, none⟩ = some (.int .i64 o) := x0
                  have d1 : w2.drew.cell? ⟨b2, 1, none⟩ = some (.int .i64 r) := x1
                  have d2 : w2.drew.cell? ⟨b2, 2, none⟩ = some (.int .i64 s) := x2
                  have d3 : w2.drew.cell? ⟨b2, 3, none⟩ = some (.int .i64 e) := x3
                  have hf1 := hcf w2.drew
                  clear hB2
                  go_upto_region 9 with fail
                  go_region_held3 (fun w' => w'.cell? ⟨b2, 0, none⟩ = some (.int .i64 o) ∧ w'.cell? ⟨b2, 1, none⟩ = some (.int .i64 r) ∧ w'.cell? ⟨b2, 2, none⟩ = some (.int .i64 s) ∧ w'.cell? ⟨b2, 3, none⟩ = some (.int .i64 e))
                    (first | (with_reducible exact ⟨x0, x1, x2, x3⟩) | (with_reducible exact ⟨d0, d1, d2, d3⟩) | (with_reducible exact ⟨p0, p1, p2, p3⟩) | (with_reducible exact ⟨q0, q1, q2, q3⟩) | fail)
                    (first
                      | (have hz := hf1; clear hz; (with_reducible refine hf1.mono ?_); rintro e11 w3 ⟨rfl, hb3⟩; replace hb3 : Below w2.heap.size w2 w3 := ⟨hb3.os, hb3.tape, hb3.output, hb3.size, hb3.block⟩; have hB3 := HT2.out.1.below hb3 HT2.out.1.lt; have p0 : w3.cell? ⟨b2, 0, none⟩ = some (.int .i64 o) := hB3.cell 0; have p1 : w3.cell? ⟨b2, 1, none⟩ = some (.int .i64 r) := hB3.cell 1; have p2 : w3.cell? ⟨b2, 2, none⟩ = some (.int .i64 s) := hB3.cell 2; have p3 : w3.cell? ⟨b2, 3, none⟩ = some (.int .i64 e) := hB3.cell 3; have HT3 := Lib.hid (And.intro hB3 (HT2.out.2.trans (hb3.mono HT2.out.2.size))); have hf2 := hcf w3; clear hb3 hB3 hf1)
                      | (have hz := hf2; clear hz; (with_reducible refine hf2.mono ?_); rintro e12 w4 ⟨rfl, hb4⟩; have hB4 := HT3.out.1.below hb4 HT3.out.1.lt; have q0 : w4.cell? ⟨b2, 0, none⟩ = some (.int .i64 o) := hB4.cell 0; have q1 : w4.cell? ⟨b2, 1, none⟩ = some (.int .i64 r) := hB4.cell 1; have q2 : w4.cell? ⟨b2, 2, none⟩ = some (.int .i64 s) := hB4.cell 2; have q3 : w4.cell? ⟨b2, 3, none⟩ = some (.int .i64 e) := hB4.cell 3; have HT4 := Lib.hid (And.intro hB4 (HT3.out.2.trans (hb4.mono HT3.out.2.size))); clear hb4 hB4 hf2)
                      | fail)
                  clear x0 x1 x2 x3 d0 d1 d2 d3 p0 p1 p2 p3 hcf
                  go_wp2_with fail
                  refine (hdr _).mono ?_
                  rintro e15 w7 ⟨rfl, hb7⟩
                  go_wp2_with fail
                  go_ret
                  exact ⟨by first | rfl | simp, HT4.out.2.trans (hb7.mono HT4.out.2.size)⟩
                · have qc1 : decide (ce < 0) = false := decide_eq_false (by omega)
                  have qc2 : decide (10000000000000000 < ce) = true := decide_eq_true hlo
                  clear hlo
                  go_wp2_with fail
                  refine (hp1 _).mono ?_
                  rintro e9 w1 ⟨rfl, hb1⟩
                  have hB1 := HT.out.1.below hb1 HT.out.1.lt
                  have HT1 := Lib.hid (And.intro hB1 (HT.out.2.trans (hb1.mono HT.out.2.size)))
                  clear x0 x1 x2 x3 hb1 hp1 HT
                  have x0 : w1.cell? ⟨b2, 0, none⟩ = some (.int .i64 o) := hB1.cell 0
                  have x1 : w1.cell? ⟨b2, 1, none⟩ = some (.int .i64 r) := hB1.cell 1
                  have x2 : w1.cell? ⟨b2, 2, none⟩ = some (.int .i64 s) := hB1.cell 2
                  have x3 : w1.cell? ⟨b2, 3, none⟩ = some (.int .i64 e) := hB1.cell 3
                  clear hB1
                  go_wp2_with fail
                  refine (hp2 _).mono ?_
                  rintro e10 w2 ⟨rfl, hb2⟩
                  have hB2 := HT1.out.1.below hb2 HT1.out.1.lt
                  have HT2 := Lib.hid (And.intro hB2 (HT1.out.2.trans (hb2.mono HT1.out.2.size)))
                  clear x0 x1 x2 x3 hb2 hp2 HT1
                  have x0 : w2.cell? ⟨b2, 0, none⟩ = some (.int .i64 o) := hB2.cell 0
                  have x1 : w2.cell? ⟨b2, 1, none⟩ = some (.int .i64 r) := hB2.cell 1
                  have x2 : w2.cell? ⟨b2, 2, none⟩ = some (.int .i64 s) := hB2.cell 2
                  have x3 : w2.cell? ⟨b2, 3, none⟩ = some (.int .i64 e) := hB2.cell 3
                  have d0 : w2.drew.cell? ⟨b2, 0, none⟩ = some (.int .i64 o) := x0
                  have d1 : w2.drew.cell? ⟨b2, 1, none⟩ = some (.int .i64 r) := x1
                  have d2 : w2.drew.cell? ⟨b2, 2, none⟩ = some (.int .i64 s) := x2
                  have d3 : w2.drew.cell? ⟨b2, 3, none⟩ = some (.int .i64 e) := x3
                  have hf1 := hcf w2.drew
                  clear hB2
                  go_upto_region 9 with fail
                  go_region_held3 (fun w' => w'.cell? ⟨b2, 0, none⟩ = some (.int .i64 o) ∧ w'.cell? ⟨b2, 1, none⟩ = some (.int .i64 r) ∧ w'.cell? ⟨b2, 2, none⟩ = some (.int .i64 s) ∧ w'.cell? ⟨b2, 3, none⟩ = some (.int .i64 e))
                    (first | (with_reducible exact ⟨x0, x1, x2, x3⟩) | (with_reducible exact ⟨d0, d1, d2, d3⟩) | (with_reducible exact ⟨p0, p1, p2, p3⟩) | (with_reducible exact ⟨q0, q1, q2, q3⟩) | fail)
                    (first
                      | (have hz := hf1; clear hz; (with_reducible refine hf1.mono ?_); rintro e11 w3 ⟨rfl, hb3⟩; replace hb3 : Below w2.heap.size w2 w3 := ⟨hb3.os, hb3.tape, hb3.output, hb3.size, hb3.block⟩; have hB3 := HT2.out.1.below hb3 HT2.out.1.lt; have p0 : w3.cell? ⟨b2, 0, none⟩ = some (.int .i64 o) := hB3.cell 0; have p1 : w3.cell? ⟨b2, 1, none⟩ = some (.int .i64 r) := hB3.cell 1; have p2 : w3.cell? ⟨b2, 2, none⟩ = some (.int .i64 s) := hB3.cell 2; have p3 : w3.cell? ⟨b2, 3, none⟩ = some (.int .i64 e) := hB3.cell 3; have HT3 := Lib.hid (And.intro hB3 (HT2.out.2.trans (hb3.mono HT2.out.2.size))); have hf2 := hcf w3; clear hb3 hB3 hf1)
                      | (have hz := hf2; clear hz; (with_reducible refine hf2.mono ?_); rintro e12 w4 ⟨rfl, hb4⟩; have hB4 := HT3.out.1.below hb4 HT3.out.1.lt; have q0 : w4.cell? ⟨b2, 0, none⟩ = some (.int .i64 o) := hB4.cell 0; have q1 : w4.cell? ⟨b2, 1, none⟩ = some (.int .i64 r) := hB4.cell 1; have q2 : w4.cell? ⟨b2, 2, none⟩ = some (.int .i64 s) := hB4.cell 2; have q3 : w4.cell? ⟨b2, 3, none⟩ = some (.int .i64 e) := hB4.cell 3; have HT4 := Lib.hid (And.intro hB4 (HT3.out.2.trans (hb4.mono HT3.out.2.size))); clear hb4 hB4 hf2)
                      | fail)
                  clear x0 x1 x2 x3 d0 d1 d2 d3 p0 p1 p2 p3 hcf
                  go_wp2_with fail
                  refine (hdr _).mono ?_
                  rintro e15 w7 ⟨rfl, hb7⟩
                  go_wp2_with fail
                  go_ret
                  exact ⟨by first | rfl | simp, HT4.out.2.trans (hb7.mono HT4.out.2.size)⟩
        · have hf1' : SC.fault o2 r2 s2 e2 = 1 := (fault_two o2 r2 s2 e2).resolve_left hf
          have hcf := fun W => CostsFault_any o2 r2 s2 e2 1 hf1' W
          have hp1 := fun W => CostP_bad o2 r2 s2 e2 it (fun h => hf h.1) W
          have hp2 := fun W => AffordP_bad o2 r2 s2 e2 ce (Or.inl hf) W
          clear hf hf1' hbd hic
          go_wp2_with fail
          refine (hp1 _).mono ?_
          rintro e9 w1 ⟨rfl, hb1⟩
          have hB1 := HT.out.1.below hb1 HT.out.1.lt
          have HT1 := Lib.hid (And.intro hB1 (HT.out.2.trans (hb1.mono HT.out.2.size)))
          clear x0 x1 x2 x3 hb1 hp1 HT
          have x0 : w1.cell? ⟨b2, 0, none⟩ = some (.int .i64 o2) := hB1.cell 0
          have x1 : w1.cell? ⟨b2, 1, none⟩ = some (.int .i64 r2) := hB1.cell 1
          have x2 : w1.cell? ⟨b2, 2, none⟩ = some (.int .i64 s2) := hB1.cell 2
          have x3 : w1.cell? ⟨b2, 3, none⟩ = some (.int .i64 e2) := hB1.cell 3
          clear hB1
          go_wp2_with fail
          refine (hp2 _).mono ?_
          rintro e10 w2 ⟨rfl, hb2⟩
          have hB2 := HT1.out.1.below hb2 HT1.out.1.lt
          have HT2 := Lib.hid (And.intro hB2 (HT1.out.2.trans (hb2.mono HT1.out.2.size)))
          clear x0 x1 x2 x3 hb2 hp2 HT1
          have x0 : w2.cell? ⟨b2, 0, none⟩ = some (.int .i64 o2) := hB2.cell 0
          have x1 : w2.cell? ⟨b2, 1, none⟩ = some (.int .i64 r2) := hB2.cell 1
          have x2 : w2.cell? ⟨b2, 2, none⟩ = some (.int .i64 s2) := hB2.cell 2
          have x3 : w2.cell? ⟨b2, 3, none⟩ = some (.int .i64 e2) := hB2.cell 3
          have d0 : w2.drew.cell? ⟨b2, 0, none⟩ = some (.int .i64 o2) := x0
          have d1 : w2.drew.cell? ⟨b2, 1, none⟩ = some (.int .i64 r2) := x1
          have d2 : w2.drew.cell? ⟨b2, 2, none⟩ = some (.int .i64 s2) := x2
          have d3 : w2.drew.cell? ⟨b2, 3, none⟩ = some (.int .i64 e2) := x3
          have hf1 := hcf w2.drew
          clear hB2
          go_upto_region 9 with fail
          go_region_held3 (fun w' => w'.cell? ⟨b2, 0, none⟩ = some (.int .i64 o2) ∧ w'.cell? ⟨b2, 1, none⟩ = some (.int .i64 r2) ∧ w'.cell? ⟨b2, 2, none⟩ = some (.int .i64 s2) ∧ w'.cell? ⟨b2, 3, none⟩ = some (.int .i64 e2))
            (first | (with_reducible exact ⟨x0, x1, x2, x3⟩) | (with_reducible exact ⟨d0, d1, d2, d3⟩) | (with_reducible exact ⟨p0, p1, p2, p3⟩) | (with_reducible exact ⟨q0, q1, q2, q3⟩) | fail)
            (first
              | (have hz := hf1; clear hz; (with_reducible refine hf1.mono ?_); rintro e11 w3 ⟨rfl, hb3⟩; replace hb3 : Below w2.heap.size w2 w3 := ⟨hb3.os, hb3.tape, hb3.output, hb3.size, hb3.block⟩; have hB3 := HT2.out.1.below hb3 HT2.out.1.lt; have p0 : w3.cell? ⟨b2, 0, none⟩ = some (.int .i64 o2) := hB3.cell 0; have p1 : w3.cell? ⟨b2, 1, none⟩ = some (.int .i64 r2) := hB3.cell 1; have p2 : w3.cell? ⟨b2, 2, none⟩ = some (.int .i64 s2) := hB3.cell 2; have p3 : w3.cell? ⟨b2, 3, none⟩ = some (.int .i64 e2) := hB3.cell 3; have HT3 := Lib.hid (And.intro hB3 (HT2.out.2.trans (hb3.mono HT2.out.2.size))); have hf2 := hcf w3; clear hb3 hB3 hf1)
              | (have hz := hf2; clear hz; (with_reducible refine hf2.mono ?_); rintro e12 w4 ⟨rfl, hb4⟩; have hB4 := HT3.out.1.below hb4 HT3.out.1.lt; have q0 : w4.cell? ⟨b2, 0, none⟩ = some (.int .i64 o2) := hB4.cell 0; have q1 : w4.cell? ⟨b2, 1, none⟩ = some (.int .i64 r2) := hB4.cell 1; have q2 : w4.cell? ⟨b2, 2, none⟩ = some (.int .i64 s2) := hB4.cell 2; have q3 : w4.cell? ⟨b2, 3, none⟩ = some (.int .i64 e2) := hB4.cell 3; have HT4 := Lib.hid (And.intro hB4 (HT3.out.2.trans (hb4.mono HT3.out.2.size))); clear hb4 hB4 hf2)
              | fail)
          clear x0 x1 x2 x3 d0 d1 d2 d3 p0 p1 p2 p3 hcf
          go_wp2_with fail
          refine (hdr _).mono ?_
          rintro e15 w7 ⟨rfl, hb7⟩
          go_wp2_with fail
          go_ret
          exact ⟨by first | rfl | simp, HT4.out.2.trans (hb7.mono HT4.out.2.size)⟩
end Go.Proofs.Ytcpneokkhjffeaa
