/- The walk through the law: it returns true and writes nothing that was there. The function AddPlace answers as its model, for all arguments, leaves the graph as it was, and its answer owns its memory. -/
import Derived.Test.YtphobmddkphofaaRows
import Derived.Test.YtphobmddkphofaaQa1
import Derived.Test.YtphobmddkphofaaQa2
import Derived.Test.YtphobmddkphofaaQa8
import Derived.Test.YtphobmddkphofaaQa52
import Derived.Test.YtphobmddkphofaaQa5
import Derived.WalkKit
import Derived.ProofKit
import Derived.OpenShut
import Derived.ShutString
import Derived.ChangeOld
import Derived.Below
import Derived.Lib.SmallJoins
import Derived.Lib.Hide
import Derived.WalkSmall
import Derived.Deep.Draws
import Derived.Deep.QuietTactic
import Derived.BigQuiet
import Derived.Deep.OwnRows
import Derived.Deep.RegionWith
import Derived.Deep.RegionHeld3
set_option linter.unusedSimpArgs false
set_option linter.unusedVariables false
set_option linter.unusedSectionVars false
namespace Go.Proofs.Ytphobmddkphofaa.fnExactAddPlace
open Go.ChangeShapes Go.WideShapes Go.ChangeAt Go.RowKit
open Go.ChangeMaps (open_string shut_string)
set_option linter.unusedVariables false

theorem keepG {w0 w1 w2 : World} {G X : Nat} {p q r s : Value} (h : w1.cell? ⟨G, 0, none⟩ = some p ∧ w1.cell? ⟨G, 1, none⟩ = some q ∧ w1.cell? ⟨X, 0, none⟩ = some r ∧ w1.cell? ⟨X, 1, none⟩ = some s ∧ Below w0.heap.size w0 w1) (hb : Below w1.heap.size w1 w2) :
    w2.cell? ⟨G, 0, none⟩ = some p ∧ w2.cell? ⟨G, 1, none⟩ = some q ∧ w2.cell? ⟨X, 0, none⟩ = some r ∧ w2.cell? ⟨X, 1, none⟩ = some s ∧ Below w0.heap.size w0 w2 := by
  obtain ⟨h1, h2, h3, h4, h5⟩ := h
  exact ⟨(hb.cell (V.cell_lt h1)).trans h1, (hb.cell (V.cell_lt h2)).trans h2, (hb.cell (V.cell_lt h3)).trans h3, (hb.cell (V.cell_lt h4)).trans h4, h5.trans (hb.mono h5.size)⟩
theorem bt {a b c : World} (h1 : Below a.heap.size a b) (h2 : Below b.heap.size b c) : Below a.heap.size a c := h1.trans (h2.mono h1.size)
theorem gsame {w w' : World} {g : Nat} {x : Int} {a : Option Addr} {n cap : Nat} (h : V.GBox w g x a n cap) (e : w'.heap[g]? = w.heap[g]?) : V.GBox w' g x a n cap :=
  ⟨(World.cell?_of_block (a := ⟨g, 0, none⟩) e).trans h.1, (World.cell?_of_block (a := ⟨g, 1, none⟩) e).trans h.2⟩

set_option maxRecDepth 100000 in
set_option maxHeartbeats 40000000 in
theorem walk (x0 : Int) (a0 : Option Addr) (len0 cap0 : Nat) (l0 : List M.Pc) (a1_0 a1_1 a1_2 a1_3 : Int) (w : World) (wx0 : (Lit.int .i64 x0).wf = true) (w0 : V.Pls w a0 len0 l0) (w1_0 : (Lit.int .i64 a1_0).wf = true) (w1_1 : (Lit.int .i64 a1_1).wf = true) (w1_2 : (Lit.int .i64 a1_2).wf = true) (w1_3 : (Lit.int .i64 a1_3).wf = true) :
    Calls Try.prog 7 #[.agg #[.int .i64 x0, .slice a0 len0 cap0], .agg #[.int .i64 a1_0, .int .i64 a1_1, .int .i64 a1_2, .int .i64 a1_3]] w fun e w' => e = .returned (.bool true) ∧ Below w.heap.size w w' := by
  have HA := Lib.hid w0
  have hlm := w0.2.1
  clear w0
  by_cases hbig : 1048576 < len0
  · go_enter Try.func7, Try.ntmps7
    go_wp2_with fail
    refine (V.szGr_f x0 a0 len0 cap0 _ hbig hlm).mono ?_
    rintro e w1 ⟨rfl, hb1⟩
    have HB1 := Lib.hid ((V.b_alloc2 w (.cells #[.int .i64 x0, .slice a0 len0 cap0] 58) (.cells #[.int .i64 a1_0, .int .i64 a1_1, .int .i64 a1_2, .int .i64 a1_3] 59)).trans (hb1.mono (by simp; omega)))
    clear hb1
    go_wp2
    go_ret
    exact ⟨rfl, HB1.out⟩
  · have hn : len0 ≤ 1048576 := by omega
    obtain ⟨r, hr⟩ : ∃ r, r = (M.addpRes x0 l0 (a1_0, a1_1, a1_2, a1_3)) := ⟨_, rfl⟩
    have hok := M.addpRes_len x0 l0 (a1_0, a1_1, a1_2, a1_3)
    rw [← hr] at hok
    have HSs : Hid (∀ a n cap w, V.Pls w a n l0 → Calls Try.prog 50 #[.agg #[.int .i64 x0, .slice a n cap], .agg #[.int .i64 a1_0, .int .i64 a1_1, .int .i64 a1_2, .int .i64 a1_3]] w (V.GRes r w)) := fun a n cap w h => by rw [hr]; exact V.sAddPlace x0 a n cap l0 a1_0 a1_1 a1_2 a1_3 w h
    unfold V.GRes at HSs
    have HSi : Hid (∀ a n cap w, V.Pls w a n l0 → Calls Try.prog 53 #[.agg #[.int .i64 x0, .slice a n cap], .agg #[.int .i64 a1_0, .int .i64 a1_1, .int .i64 a1_2, .int .i64 a1_3]] w (V.GRes r w)) := fun a n cap w h => by rw [hr]; exact V.addPlace x0 a n cap l0 a1_0 a1_1 a1_2 a1_3 w h
    unfold V.GRes at HSi
    clear hr
    have hb0 := V.b_alloc2 w (.cells #[.int .i64 x0, .slice a0 len0 cap0] 58) (.cells #[.int .i64 a1_0, .int .i64 a1_1, .int .i64 a1_2, .int .i64 a1_3] 59)
    obtain ⟨w_0, hwb⟩ : ∃ z, z = (w.alloc (.cells #[.int .i64 x0, .slice a0 len0 cap0] 58)).alloc (.cells #[.int .i64 a1_0, .int .i64 a1_1, .int .i64 a1_2, .int .i64 a1_3] 59) := ⟨_, rfl⟩
    have hG : V.GBox w_0 w.heap.size x0 a0 len0 cap0 := by rw [hwb]; exact ⟨by simp [go_sem], by simp [go_sem]⟩
    have hP : V.PBox w_0 (w.heap.size + 1) a1_0 a1_1 a1_2 a1_3 := by rw [hwb]; exact ⟨by simp [go_sem], by simp [go_sem], by simp [go_sem], by simp [go_sem]⟩
    rw [← hwb] at hb0
    have HGb := Lib.hid hG
    have HPb := Lib.hid hP
    have HW : Hid (Below w.heap.size w w_0) := hb0
    have zb : w.heap.size < w_0.heap.size := V.cell_lt hG.1
    have zb1 : w.heap.size + 1 < w_0.heap.size := V.cell_lt hP.1
    have HP_0 := Lib.hid (Below.refl w_0.heap.size w_0)
    clear hG hP hb0 hlm hbig
    go_enter Try.func7, Try.ntmps7
    go_wp2_with fail
    rw [← hwb]
    clear hwb
    refine (V.szGr_t x0 a0 len0 cap0 _ hn).mono ?_
    rintro e w_1 ⟨rfl, hb⟩
    have z1 : w_0.heap.size ≤ w_1.heap.size := hb.size
    have HP_1 := Lib.hid (HP_0.out.trans (hb.mono (by omega)))
    clear HP_0
    clear hb
    have hl0 : ¬ (1048576 - (len0 : Int) < 0) := by omega
    have HA1 := Lib.hid (HA.out.below (bt HW.out HP_1.out))
    have HS0 : Hid (∀ w', Below w_1.heap.size w_1 w' → w'.cell? ⟨w.heap.size, 0, none⟩ = some (.int .i64 x0) ∧ w'.cell? ⟨w.heap.size, 1, none⟩ = some (.slice a0 len0 cap0) ∧ w'.cell? ⟨w.heap.size + 1, 0, none⟩ = some (.int .i64 a1_0) ∧ w'.cell? ⟨w.heap.size + 1, 1, none⟩ = some (.int .i64 a1_1) ∧ w'.cell? ⟨w.heap.size + 1, 2, none⟩ = some (.int .i64 a1_2) ∧ w'.cell? ⟨w.heap.size + 1, 3, none⟩ = some (.int .i64 a1_3) ∧ Below w_1.heap.size w_1 w') := fun w' hb' => ⟨((HGb.out.below HP_1.out).below hb').1, ((HGb.out.below HP_1.out).below hb').2, ((HPb.out.below HP_1.out).below hb').1, ((HPb.out.below HP_1.out).below hb').2.1, ((HPb.out.below HP_1.out).below hb').2.2.1, ((HPb.out.below HP_1.out).below hb').2.2.2, hb'⟩
    go_upto_region 5 with fail
    go_cut [6, 7] (fun s6 s7 wx => s7 = .int .i64 r.2.2 ∧ V.SRel w_1 wx s6 r.1 r.2.1)
    case first =>
      refine wp_region_held_drew (S := fun w' => w'.cell? ⟨w.heap.size, 0, none⟩ = some (.int .i64 x0) ∧ w'.cell? ⟨w.heap.size, 1, none⟩ = some (.slice a0 len0 cap0) ∧ w'.cell? ⟨w.heap.size + 1, 0, none⟩ = some (.int .i64 a1_0) ∧ w'.cell? ⟨w.heap.size + 1, 1, none⟩ = some (.int .i64 a1_1) ∧ w'.cell? ⟨w.heap.size + 1, 2, none⟩ = some (.int .i64 a1_2) ∧ w'.cell? ⟨w.heap.size + 1, 3, none⟩ = some (.int .i64 a1_3) ∧ Below w_1.heap.size w_1 w') (by kernel_rfl) ?_ (fun hHeld => ?_)
      · exact HS0.out _ (V.b_draws w_1 1)
      refine wpAnyH_take (i := 0) (v := ?v5_1) rfl (by kernel_rfl) (by kernel_rfl) (by kernel_rfl) (fun _ _ _ h => h) (Or.inl ⟨by rfl, ?hy5_1⟩) (by assumption) ?rest5_1
      case hy5_1 => (intro wy hSw; (try dsimp only at hSw); obtain ⟨s0, s1, s2, s3, s4, s5, s6⟩ := hSw; go_simp; try with_reducible rfl)
      (try simp only [Act.put, List.setIfInBounds_toArray, List.set_cons_zero, List.set_cons_succ])
      refine wpAnyH_take (i := 2) (v := ?v5_2) rfl (by kernel_rfl) (by kernel_rfl) (by kernel_rfl) (fun _ _ _ h => h) (Or.inl ⟨by rfl, ?hy5_2⟩) (by assumption) ?rest5_2
      case hy5_2 => (intro wy hSw; (try dsimp only at hSw); obtain ⟨s0, s1, s2, s3, s4, s5, s6⟩ := hSw; go_simp; try with_reducible rfl)
      (try simp only [Act.put, List.setIfInBounds_toArray, List.set_cons_zero, List.set_cons_succ])
      refine wpAnyH_ready (rs := [1, 8]) (by kernel_rfl) (by simp) (AllReadyH.cons rfl (fun K hK => ?aA5_3) (AllReadyH.cons rfl (fun K hK => ?aD5_3) AllReadyH.nil))
      case aA5_3 =>
        go_simp
        refine (V.toGraph x0 a0 len0 cap0 l0 _ (HA1.out.below (V.b_draws w_1 1)) hn).mono ?_
        rintro e wa1 ⟨b1, rfl, ho, hbk⟩
        have HQA1 := Lib.hid ((V.b_draws w_1 1).trans (hbk.mono (V.b_draws w_1 1).size))
        have HDa := Lib.hid ho.pls
        clear hbk ho
        refine hK.out _ _ (HS0.out _ HQA1.out) (fun hHeld => ?_)
        clear hK K
        (try simp only [Act.put, List.setIfInBounds_toArray, List.set_cons_zero, List.set_cons_succ])
        refine wpAnyH_ready (rs := [3, 8]) (by kernel_rfl) (by simp) (AllReadyH.cons rfl (fun K hK => ?aB5_4) (AllReadyH.cons rfl (fun K hK => ?aD5_4) AllReadyH.nil))
        case aB5_4 =>
          go_simp
          refine (V.toPlace a1_0 a1_1 a1_2 a1_3 _).mono ?_
          rintro e wb2 ⟨rfl, hbk⟩
          have HQB2 := Lib.hid (HQA1.out.trans (hbk.mono HQA1.out.size))
          have HDwb2 := Lib.hid (HDa.out.below hbk)
          clear hbk
          refine hK.out _ _ (HS0.out _ HQB2.out) (fun hHeld => ?_)
          clear hK K
          (try simp only [Act.put, List.setIfInBounds_toArray, List.set_cons_zero, List.set_cons_succ])
          refine wpAnyH_ready (rs := [4, 8]) (by kernel_rfl) (by simp) (AllReadyH.cons rfl (fun K hK => ?aC5_5) (AllReadyH.cons rfl (fun K hK => ?aD5_5) AllReadyH.nil))
          case aC5_5 =>
            go_simp
            refine (HSs.out _ _ _ _ (HDwb2.out)).mono ?_
            rintro e wc3 ⟨ra, rn, rc, rfl, ho, hbk⟩
            have HQC3 := Lib.hid (HQB2.out.trans (hbk.mono HQB2.out.size))
            have HDwc3 := Lib.hid (HDwb2.out.below hbk)
            have HO3 := Lib.hid ho
            have hy4 := Lib.hid hbk.size
            have hCle := Lib.hid (HQB2.out.size)
            clear hbk ho
            refine hK.out _ _ (HS0.out _ HQC3.out) (fun hHeld => ?_)
            clear hK K
            (try simp only [Act.put, List.setIfInBounds_toArray, List.set_cons_zero, List.set_cons_succ])
            refine wpAnyH_take (i := 5) (v := ?v5_6) rfl (by kernel_rfl) (by kernel_rfl) (by kernel_rfl) (fun _ _ _ h => h) (Or.inl ⟨by rfl, ?hy5_6⟩) (by assumption) ?rest5_6
            case hy5_6 => (intro wy hSw; (try dsimp only at hSw); obtain ⟨s0, s1, s2, s3, s4, s5, s6⟩ := hSw; go_simp; try with_reducible rfl)
            (try simp only [Act.put, List.setIfInBounds_toArray, List.set_cons_zero, List.set_cons_succ])
            refine wpAnyH_take (i := 6) (v := ?v5_7) rfl (by kernel_rfl) (by kernel_rfl) (by kernel_rfl) (fun _ _ _ h => h) (Or.inl ⟨by rfl, ?hy5_7⟩) (by assumption) ?rest5_7
            case hy5_7 => (intro wy hSw; (try dsimp only at hSw); obtain ⟨s0, s1, s2, s3, s4, s5, s6⟩ := hSw; go_simp; try with_reducible rfl)
            (try simp only [Act.put, List.setIfInBounds_toArray, List.set_cons_zero, List.set_cons_succ])
            refine wpAnyH_take (i := 7) (v := ?v5_8) rfl (by kernel_rfl) (by kernel_rfl) (by kernel_rfl) (fun _ _ _ h => h) (Or.inl ⟨by rfl, ?hy5_8⟩) (by assumption) ?rest5_8
            case hy5_8 => (intro wy hSw; (try dsimp only at hSw); obtain ⟨s0, s1, s2, s3, s4, s5, s6⟩ := hSw; go_simp; try with_reducible rfl)
            (try simp only [Act.put, List.setIfInBounds_toArray, List.set_cons_zero, List.set_cons_succ])
            refine wpAnyH_ready (rs := [8]) (by kernel_rfl) (by simp) (AllReadyH.cons rfl (fun K hK => ?_) AllReadyH.nil)
            go_simp
            have HQD4 : Hid (Below w_1.heap.size w_1 (wc3.alloc (.cells #[.int .i64 0, .slice none 0 0] 26))) := HQC3.out.trans ((V.b_alloc wc3 _).mono HQC3.out.size)
            have HDd4 := Lib.hid (HDwc3.out.below (V.b_alloc wc3 (.cells #[.int .i64 0, .slice none 0 0] 26)))
            refine hK.out _ _ (HS0.out _ HQD4.out) (fun hHeld => ?_)
            clear hK K
            (try simp only [Act.put, List.setIfInBounds_toArray, List.set_cons_zero, List.set_cons_succ])
            refine wpAnyH_ready (rs := [9]) (by kernel_rfl) (by simp) (AllReadyH.cons rfl (fun K hK => ?_) AllReadyH.nil)
            go_simp
            refine hK.out _ _ (HS0.out _ (HQC3.out.trans ((V.b_alloc wc3 _).mono HQC3.out.size))) (fun hHeld => ?_)
            clear hK K
            (try simp only [Act.put, List.setIfInBounds_toArray, List.set_cons_zero, List.set_cons_succ])
            refine wpAnyH_ready (rs := [10]) (by kernel_rfl) (by simp) (AllReadyH.cons rfl (fun K hK => ?_) AllReadyH.nil)
            go_simp
            refine hK.out _ _ (HS0.out _ (HQC3.out.trans ((V.b_alloc wc3 _).mono HQC3.out.size))) (fun hHeld => ?_)
            clear hK K
            (try simp only [Act.put, List.setIfInBounds_toArray, List.set_cons_zero, List.set_cons_succ])
            refine wpAnyH_done (by kernel_rfl) ?_ _
            go_wp2_with fail
            go_meet
            exact ⟨rfl, V.sRel_new HO3.out hCle.out hy4.out HQC3.out⟩
          case aD5_5 =>
            go_simp
            have HQD3 : Hid (Below w_1.heap.size w_1 (wb2.alloc (.cells #[.int .i64 0, .slice none 0 0] 26))) := HQB2.out.trans ((V.b_alloc wb2 _).mono HQB2.out.size)
            have HRes3 : Hid (V.ResG (wb2.alloc (.cells #[.int .i64 0, .slice none 0 0] 26)) wb2.heap.size) := V.resG_new wb2 26
            have HDd3 := Lib.hid (HDwb2.out.below (V.b_alloc wb2 (.cells #[.int .i64 0, .slice none 0 0] 26)))
            refine hK.out _ _ (HS0.out _ HQD3.out) (fun hHeld => ?_)
            clear hK K
            (try simp only [Act.put, List.setIfInBounds_toArray, List.set_cons_zero, List.set_cons_succ])
            refine wpAnyH_ready (rs := [4]) (by kernel_rfl) (by simp) (AllReadyH.cons rfl (fun K hK => ?_) AllReadyH.nil)
            go_simp
            refine (HSs.out _ _ _ _ (HDd3.out)).mono ?_
            rintro e wc4 ⟨ra, rn, rc, rfl, ho, hbk⟩
            have HQC4 := Lib.hid (HQD3.out.trans (hbk.mono HQD3.out.size))
            have HDwc4 := Lib.hid (HDd3.out.below hbk)
            have HRwc4 := Lib.hid (HRes3.out.below hbk)
            have HO3 := Lib.hid ho
            have hy4 := Lib.hid hbk.size
            have hCle := Lib.hid (HQD3.out.size)
            have hblt : Hid (wb2.heap.size < ((wb2.alloc (.cells #[.int .i64 0, .slice none 0 0] 26))).heap.size) := V.cell_lt HRes3.out.1
            clear hbk ho
            refine hK.out _ _ (HS0.out _ HQC4.out) (fun hHeld => ?_)
            clear hK K
            (try simp only [Act.put, List.setIfInBounds_toArray, List.set_cons_zero, List.set_cons_succ])
            refine wpAnyH_take (i := 5) (v := ?v5_11) rfl (by kernel_rfl) (by kernel_rfl) (by kernel_rfl) (fun _ _ _ h => h) (Or.inl ⟨by rfl, ?hy5_11⟩) (by assumption) ?rest5_11
            case hy5_11 => (intro wy hSw; (try dsimp only at hSw); obtain ⟨s0, s1, s2, s3, s4, s5, s6⟩ := hSw; go_simp; try with_reducible rfl)
            (try simp only [Act.put, List.setIfInBounds_toArray, List.set_cons_zero, List.set_cons_succ])
            refine wpAnyH_take (i := 6) (v := ?v5_12) rfl (by kernel_rfl) (by kernel_rfl) (by kernel_rfl) (fun _ _ _ h => h) (Or.inl ⟨by rfl, ?hy5_12⟩) (by assumption) ?rest5_12
            case hy5_12 => (intro wy hSw; (try dsimp only at hSw); obtain ⟨s0, s1, s2, s3, s4, s5, s6⟩ := hSw; go_simp; try with_reducible rfl)
            (try simp only [Act.put, List.setIfInBounds_toArray, List.set_cons_zero, List.set_cons_succ])
            refine wpAnyH_take (i := 7) (v := ?v5_13) rfl (by kernel_rfl) (by kernel_rfl) (by kernel_rfl) (fun _ _ _ h => h) (Or.inl ⟨by rfl, ?hy5_13⟩) (by assumption) ?rest5_13
            case hy5_13 => (intro wy hSw; (try dsimp only at hSw); obtain ⟨s0, s1, s2, s3, s4, s5, s6⟩ := hSw; go_simp; try with_reducible rfl)
            (try simp only [Act.put, List.setIfInBounds_toArray, List.set_cons_zero, List.set_cons_succ])
            obtain ⟨kd0, kd1, kd2, kd3⟩ := HRwc4.out
            refine wpAnyH_ready (rs := [9]) (by kernel_rfl) (by simp) (AllReadyH.cons rfl (fun K hK => ?_) AllReadyH.nil)
            go_simp
            refine hK.out _ _ (HS0.out _ ((HQC4.out.setCell (p := ⟨wb2.heap.size, 0, none⟩) HQB2.out.size _).setCell (p := ⟨wb2.heap.size, 1, none⟩) HQB2.out.size _)) (fun hHeld => ?_)
            clear hK K
            (try simp only [Act.put, List.setIfInBounds_toArray, List.set_cons_zero, List.set_cons_succ])
            refine wpAnyH_ready (rs := [10]) (by kernel_rfl) (by simp) (AllReadyH.cons rfl (fun K hK => ?_) AllReadyH.nil)
            go_simp
            refine hK.out _ _ (HS0.out _ ((HQC4.out.setCell (p := ⟨wb2.heap.size, 0, none⟩) HQB2.out.size _).setCell (p := ⟨wb2.heap.size, 1, none⟩) HQB2.out.size _)) (fun hHeld => ?_)
            clear hK K
            (try simp only [Act.put, List.setIfInBounds_toArray, List.set_cons_zero, List.set_cons_succ])
            refine wpAnyH_done (by kernel_rfl) ?_ _
            go_wp2_with fail
            go_meet
            exact ⟨rfl, V.sRel_old HRwc4.out HQB2.out.size hblt.out hy4.out HO3.out HQC4.out⟩
        case aD5_4 =>
          go_simp
          have HQD2 : Hid (Below w_1.heap.size w_1 (wa1.alloc (.cells #[.int .i64 0, .slice none 0 0] 26))) := HQA1.out.trans ((V.b_alloc wa1 _).mono HQA1.out.size)
          have HRes2 : Hid (V.ResG (wa1.alloc (.cells #[.int .i64 0, .slice none 0 0] 26)) wa1.heap.size) := V.resG_new wa1 26
          have HDd2 := Lib.hid (HDa.out.below (V.b_alloc wa1 (.cells #[.int .i64 0, .slice none 0 0] 26)))
          refine hK.out _ _ (HS0.out _ HQD2.out) (fun hHeld => ?_)
          clear hK K
          (try simp only [Act.put, List.setIfInBounds_toArray, List.set_cons_zero, List.set_cons_succ])
          refine wpAnyH_ready (rs := [3]) (by kernel_rfl) (by simp) (AllReadyH.cons rfl (fun K hK => ?_) AllReadyH.nil)
          go_simp
          refine (V.toPlace a1_0 a1_1 a1_2 a1_3 _).mono ?_
          rintro e wb3 ⟨rfl, hbk⟩
          have HQB3 := Lib.hid (HQD2.out.trans (hbk.mono HQD2.out.size))
          have HDwb3 := Lib.hid (HDd2.out.below hbk)
          have HRwb3 := Lib.hid (HRes2.out.below hbk)
          clear hbk
          refine hK.out _ _ (HS0.out _ HQB3.out) (fun hHeld => ?_)
          clear hK K
          (try simp only [Act.put, List.setIfInBounds_toArray, List.set_cons_zero, List.set_cons_succ])
          refine wpAnyH_ready (rs := [4]) (by kernel_rfl) (by simp) (AllReadyH.cons rfl (fun K hK => ?_) AllReadyH.nil)
          go_simp
          refine (HSs.out _ _ _ _ (HDwb3.out)).mono ?_
          rintro e wc4 ⟨ra, rn, rc, rfl, ho, hbk⟩
          have HQC4 := Lib.hid (HQB3.out.trans (hbk.mono HQB3.out.size))
          have HDwc4 := Lib.hid (HDwb3.out.below hbk)
          have HRwc4 := Lib.hid (HRwb3.out.below hbk)
          have HO3 := Lib.hid ho
          have hy4 := Lib.hid hbk.size
          have hCle := Lib.hid (HQB3.out.size)
          have hblt : Hid (wa1.heap.size < (wb3).heap.size) := V.cell_lt HRwb3.out.1
          clear hbk ho
          refine hK.out _ _ (HS0.out _ HQC4.out) (fun hHeld => ?_)
          clear hK K
          (try simp only [Act.put, List.setIfInBounds_toArray, List.set_cons_zero, List.set_cons_succ])
          refine wpAnyH_take (i := 5) (v := ?v5_16) rfl (by kernel_rfl) (by kernel_rfl) (by kernel_rfl) (fun _ _ _ h => h) (Or.inl ⟨by rfl, ?hy5_16⟩) (by assumption) ?rest5_16
          case hy5_16 => (intro wy hSw; (try dsimp only at hSw); obtain ⟨s0, s1, s2, s3, s4, s5, s6⟩ := hSw; go_simp; try with_reducible rfl)
          (try simp only [Act.put, List.setIfInBounds_toArray, List.set_cons_zero, List.set_cons_succ])
          refine wpAnyH_take (i := 6) (v := ?v5_17) rfl (by kernel_rfl) (by kernel_rfl) (by kernel_rfl) (fun _ _ _ h => h) (Or.inl ⟨by rfl, ?hy5_17⟩) (by assumption) ?rest5_17
          case hy5_17 => (intro wy hSw; (try dsimp only at hSw); obtain ⟨s0, s1, s2, s3, s4, s5, s6⟩ := hSw; go_simp; try with_reducible rfl)
          (try simp only [Act.put, List.setIfInBounds_toArray, List.set_cons_zero, List.set_cons_succ])
          refine wpAnyH_take (i := 7) (v := ?v5_18) rfl (by kernel_rfl) (by kernel_rfl) (by kernel_rfl) (fun _ _ _ h => h) (Or.inl ⟨by rfl, ?hy5_18⟩) (by assumption) ?rest5_18
          case hy5_18 => (intro wy hSw; (try dsimp only at hSw); obtain ⟨s0, s1, s2, s3, s4, s5, s6⟩ := hSw; go_simp; try with_reducible rfl)
          (try simp only [Act.put, List.setIfInBounds_toArray, List.set_cons_zero, List.set_cons_succ])
          obtain ⟨kd0, kd1, kd2, kd3⟩ := HRwc4.out
          refine wpAnyH_ready (rs := [9]) (by kernel_rfl) (by simp) (AllReadyH.cons rfl (fun K hK => ?_) AllReadyH.nil)
          go_simp
          refine hK.out _ _ (HS0.out _ ((HQC4.out.setCell (p := ⟨wa1.heap.size, 0, none⟩) HQA1.out.size _).setCell (p := ⟨wa1.heap.size, 1, none⟩) HQA1.out.size _)) (fun hHeld => ?_)
          clear hK K
          (try simp only [Act.put, List.setIfInBounds_toArray, List.set_cons_zero, List.set_cons_succ])
          refine wpAnyH_ready (rs := [10]) (by kernel_rfl) (by simp) (AllReadyH.cons rfl (fun K hK => ?_) AllReadyH.nil)
          go_simp
          refine hK.out _ _ (HS0.out _ ((HQC4.out.setCell (p := ⟨wa1.heap.size, 0, none⟩) HQA1.out.size _).setCell (p := ⟨wa1.heap.size, 1, none⟩) HQA1.out.size _)) (fun hHeld => ?_)
          clear hK K
          (try simp only [Act.put, List.setIfInBounds_toArray, List.set_cons_zero, List.set_cons_succ])
          refine wpAnyH_done (by kernel_rfl) ?_ _
          go_wp2_with fail
          go_meet
          exact ⟨rfl, V.sRel_old HRwc4.out HQA1.out.size hblt.out hy4.out HO3.out HQC4.out⟩
      case aD5_3 =>
        go_simp
        have HQD1 : Hid (Below w_1.heap.size w_1 (w_1.drew.alloc (.cells #[.int .i64 0, .slice none 0 0] 26))) := (V.b_draws w_1 1).trans ((V.b_alloc w_1.drew _).mono (V.b_draws w_1 1).size)
        have HRes1 : Hid (V.ResG (w_1.drew.alloc (.cells #[.int .i64 0, .slice none 0 0] 26)) w_1.heap.size) := V.resG_new w_1.drew 26
        refine hK.out _ _ (HS0.out _ HQD1.out) (fun hHeld => ?_)
        clear hK K
        (try simp only [Act.put, List.setIfInBounds_toArray, List.set_cons_zero, List.set_cons_succ])
        refine wpAnyH_ready (rs := [1]) (by kernel_rfl) (by simp) (AllReadyH.cons rfl (fun K hK => ?_) AllReadyH.nil)
        go_simp
        refine (V.toGraph x0 a0 len0 cap0 l0 _ (HA1.out.below HQD1.out) hn).mono ?_
        rintro e wa2 ⟨b1, rfl, ho, hbk⟩
        have HQA2 := Lib.hid (HQD1.out.trans (hbk.mono HQD1.out.size))
        have HDa := Lib.hid ho.pls
        have HRwa2 := Lib.hid (HRes1.out.below hbk)
        clear hbk ho
        refine hK.out _ _ (HS0.out _ HQA2.out) (fun hHeld => ?_)
        clear hK K
        (try simp only [Act.put, List.setIfInBounds_toArray, List.set_cons_zero, List.set_cons_succ])
        refine wpAnyH_ready (rs := [3]) (by kernel_rfl) (by simp) (AllReadyH.cons rfl (fun K hK => ?_) AllReadyH.nil)
        go_simp
        refine (V.toPlace a1_0 a1_1 a1_2 a1_3 _).mono ?_
        rintro e wb3 ⟨rfl, hbk⟩
        have HQB3 := Lib.hid (HQA2.out.trans (hbk.mono HQA2.out.size))
        have HDwb3 := Lib.hid (HDa.out.below hbk)
        have HRwb3 := Lib.hid (HRwa2.out.below hbk)
        clear hbk
        refine hK.out _ _ (HS0.out _ HQB3.out) (fun hHeld => ?_)
        clear hK K
        (try simp only [Act.put, List.setIfInBounds_toArray, List.set_cons_zero, List.set_cons_succ])
        refine wpAnyH_ready (rs := [4]) (by kernel_rfl) (by simp) (AllReadyH.cons rfl (fun K hK => ?_) AllReadyH.nil)
        go_simp
        refine (HSs.out _ _ _ _ (HDwb3.out)).mono ?_
        rintro e wc4 ⟨ra, rn, rc, rfl, ho, hbk⟩
        have HQC4 := Lib.hid (HQB3.out.trans (hbk.mono HQB3.out.size))
        have HDwc4 := Lib.hid (HDwb3.out.below hbk)
        have HRwc4 := Lib.hid (HRwb3.out.below hbk)
        have HO3 := Lib.hid ho
        have hy4 := Lib.hid hbk.size
        have hCle := Lib.hid (HQB3.out.size)
        have hblt : Hid (w_1.heap.size < (wb3).heap.size) := V.cell_lt HRwb3.out.1
        clear hbk ho
        refine hK.out _ _ (HS0.out _ HQC4.out) (fun hHeld => ?_)
        clear hK K
        (try simp only [Act.put, List.setIfInBounds_toArray, List.set_cons_zero, List.set_cons_succ])
        refine wpAnyH_take (i := 5) (v := ?v5_22) rfl (by kernel_rfl) (by kernel_rfl) (by kernel_rfl) (fun _ _ _ h => h) (Or.inl ⟨by rfl, ?hy5_22⟩) (by assumption) ?rest5_22
        case hy5_22 => (intro wy hSw; (try dsimp only at hSw); obtain ⟨s0, s1, s2, s3, s4, s5, s6⟩ := hSw; go_simp; try with_reducible rfl)
        (try simp only [Act.put, List.setIfInBounds_toArray, List.set_cons_zero, List.set_cons_succ])
        refine wpAnyH_take (i := 6) (v := ?v5_23) rfl (by kernel_rfl) (by kernel_rfl) (by kernel_rfl) (fun _ _ _ h => h) (Or.inl ⟨by rfl, ?hy5_23⟩) (by assumption) ?rest5_23
        case hy5_23 => (intro wy hSw; (try dsimp only at hSw); obtain ⟨s0, s1, s2, s3, s4, s5, s6⟩ := hSw; go_simp; try with_reducible rfl)
        (try simp only [Act.put, List.setIfInBounds_toArray, List.set_cons_zero, List.set_cons_succ])
        refine wpAnyH_take (i := 7) (v := ?v5_24) rfl (by kernel_rfl) (by kernel_rfl) (by kernel_rfl) (fun _ _ _ h => h) (Or.inl ⟨by rfl, ?hy5_24⟩) (by assumption) ?rest5_24
        case hy5_24 => (intro wy hSw; (try dsimp only at hSw); obtain ⟨s0, s1, s2, s3, s4, s5, s6⟩ := hSw; go_simp; try with_reducible rfl)
        (try simp only [Act.put, List.setIfInBounds_toArray, List.set_cons_zero, List.set_cons_succ])
        obtain ⟨kd0, kd1, kd2, kd3⟩ := HRwc4.out
        refine wpAnyH_ready (rs := [9]) (by kernel_rfl) (by simp) (AllReadyH.cons rfl (fun K hK => ?_) AllReadyH.nil)
        go_simp
        refine hK.out _ _ (HS0.out _ ((HQC4.out.setCell (p := ⟨w_1.heap.size, 0, none⟩) (Nat.le_refl _) _).setCell (p := ⟨w_1.heap.size, 1, none⟩) (Nat.le_refl _) _)) (fun hHeld => ?_)
        clear hK K
        (try simp only [Act.put, List.setIfInBounds_toArray, List.set_cons_zero, List.set_cons_succ])
        refine wpAnyH_ready (rs := [10]) (by kernel_rfl) (by simp) (AllReadyH.cons rfl (fun K hK => ?_) AllReadyH.nil)
        go_simp
        refine hK.out _ _ (HS0.out _ ((HQC4.out.setCell (p := ⟨w_1.heap.size, 0, none⟩) (Nat.le_refl _) _).setCell (p := ⟨w_1.heap.size, 1, none⟩) (Nat.le_refl _) _)) (fun hHeld => ?_)
        clear hK K
        (try simp only [Act.put, List.setIfInBounds_toArray, List.set_cons_zero, List.set_cons_succ])
        refine wpAnyH_done (by kernel_rfl) ?_ _
        go_wp2_with fail
        go_meet
        exact ⟨rfl, V.sRel_old HRwc4.out (Nat.le_refl _) hblt.out hy4.out HO3.out HQC4.out⟩
    case rest =>
      obtain ⟨w_2, hw_2⟩ : ∃ z, z = wc := ⟨_, rfl⟩
      subst hw_2
      obtain ⟨rfl, hS⟩ := hcut
      clear HS0
      clear HA1
      clear HSs
      obtain ⟨sb, sa, sn, sc, sB, sw, rfl, hbx, hs1, hB, hB2, hO, hz, hSm, hnb, hb⟩ := hS
      have z2 : w_1.heap.size ≤ w_2.heap.size := hb.size
      have HP_2 := Lib.hid (HP_1.out.trans (hb.mono (by omega)))
      clear HP_1
      have HOs := Lib.hid ((hO.keep hSm).mono hB)
      have HOS := Lib.hid hbx
      have zxS := V.cell_lt hbx.1
      have hsS := hs1
      clear hO hSm hB hB2 hz hnb hb hbx hs1
      have Ss_2 : Hid (V.Same w_1.heap.size w_2.heap.size w_2 w_2) := V.Same.refl _ _ _
      have SS_2 : Hid (V.Same w_1.heap.size w_2.heap.size w_2 w_2) := V.Same.refl _ _ _
      obtain ⟨g0, g1⟩ := HGb.out.below HP_2.out
      go_wp2_with fail
      clear g0 g1
      refine (V.toGraph x0 a0 len0 cap0 l0 _ (HA.out.below (bt HW.out HP_2.out)) hn).mono ?_
      rintro e w_3 ⟨bx, rfl, ho, hb⟩
      have z3 : w_2.heap.size ≤ w_3.heap.size := hb.size
      have HP_3 := Lib.hid (HP_2.out.trans (hb.mono (by omega)))
      have Ss_3 : Hid (V.Same w_1.heap.size w_2.heap.size w_2 w_3) := Ss_2.out.below hb (by omega)
      have SS_3 : Hid (V.Same w_1.heap.size w_2.heap.size w_2 w_3) := SS_2.out.below hb (by omega)
      clear HP_2 Ss_2 SS_2
      have HOx := Lib.hid ho
      clear ho hb
      have Sx_3 : Hid (V.Same w_2.heap.size w_3.heap.size w_3 w_3) := V.Same.refl _ _ _
      have hXb := V.gBox_new w_3 x0 bx len0 len0 26
      have hb : Below w_3.heap.size w_3 (w_3.alloc (.cells #[.int .i64 x0, .slice bx len0 len0] 26)) := V.b_alloc w_3 _
      obtain ⟨w_4, hwx⟩ : ∃ z, z = (w_3.alloc (.cells #[.int .i64 x0, .slice bx len0 len0] 26)) := ⟨_, rfl⟩
      rw [← hwx] at hXb hb
      have zxX : w_3.heap.size < w_4.heap.size := V.cell_lt hXb.1
      have z4 : w_3.heap.size ≤ w_4.heap.size := hb.size
      have HP_4 := Lib.hid (HP_3.out.trans (hb.mono (by omega)))
      have Ss_4 : Hid (V.Same w_1.heap.size w_2.heap.size w_2 w_4) := Ss_3.out.below hb (by omega)
      have SS_4 : Hid (V.Same w_1.heap.size w_2.heap.size w_2 w_4) := SS_3.out.below hb (by omega)
      have Sx_4 : Hid (V.Same w_2.heap.size w_3.heap.size w_3 w_4) := Sx_3.out.below hb (by omega)
      clear HP_3 Ss_3 SS_3 Sx_3
      have HOX := Lib.hid hXb
      clear hXb hb
      have SX_4 : Hid (V.Same w_3.heap.size w_4.heap.size w_4 w_4) := V.Same.refl _ _ _
      obtain ⟨kX0, kX1⟩ := gsame HOX.out (SX_4.out w_3.heap.size (by omega) (by omega))
      have HXb : Hid (V.GBox w_4 w_3.heap.size x0 bx len0 len0) := ⟨kX0, kX1⟩
      have HA1 := Lib.hid ((HOx.out.keep Sx_4.out).pls)
      have HS0 : Hid (∀ w', Below w_4.heap.size w_4 w' → w'.cell? ⟨w_3.heap.size, 0, none⟩ = some (.int .i64 x0) ∧ w'.cell? ⟨w_3.heap.size, 1, none⟩ = some (.slice bx len0 len0) ∧ w'.cell? ⟨w.heap.size + 1, 0, none⟩ = some (.int .i64 a1_0) ∧ w'.cell? ⟨w.heap.size + 1, 1, none⟩ = some (.int .i64 a1_1) ∧ w'.cell? ⟨w.heap.size + 1, 2, none⟩ = some (.int .i64 a1_2) ∧ w'.cell? ⟨w.heap.size + 1, 3, none⟩ = some (.int .i64 a1_3) ∧ Below w_4.heap.size w_4 w') := fun w' hb' => ⟨(HXb.out.below hb').1, (HXb.out.below hb').2, ((HPb.out.below HP_4.out).below hb').1, ((HPb.out.below HP_4.out).below hb').2.1, ((HPb.out.below HP_4.out).below hb').2.2.1, ((HPb.out.below HP_4.out).below hb').2.2.2, hb'⟩
      go_upto_region 7 with fail
      rw [← hwx]
      clear hwx
      go_cut [9, 10] (fun s6 s7 wx => s7 = .int .i64 r.2.2 ∧ V.SRel w_4 wx s6 r.1 r.2.1)
      case first =>
        refine wp_region_held_drew (S := fun w' => w'.cell? ⟨w_3.heap.size, 0, none⟩ = some (.int .i64 x0) ∧ w'.cell? ⟨w_3.heap.size, 1, none⟩ = some (.slice bx len0 len0) ∧ w'.cell? ⟨w.heap.size + 1, 0, none⟩ = some (.int .i64 a1_0) ∧ w'.cell? ⟨w.heap.size + 1, 1, none⟩ = some (.int .i64 a1_1) ∧ w'.cell? ⟨w.heap.size + 1, 2, none⟩ = some (.int .i64 a1_2) ∧ w'.cell? ⟨w.heap.size + 1, 3, none⟩ = some (.int .i64 a1_3) ∧ Below w_4.heap.size w_4 w') (by kernel_rfl) ?_ (fun hHeld => ?_)
        · exact HS0.out _ (V.b_draws w_4 1)
        refine wpAnyH_take (i := 0) (v := ?v7_1) rfl (by kernel_rfl) (by kernel_rfl) (by kernel_rfl) (fun _ _ _ h => h) (Or.inl ⟨by rfl, ?hy7_1⟩) (by assumption) ?rest7_1
        case hy7_1 => (intro wy hSw; (try dsimp only at hSw); obtain ⟨s0, s1, s2, s3, s4, s5, s6⟩ := hSw; go_simp; try with_reducible rfl)
        (try simp only [Act.put, List.setIfInBounds_toArray, List.set_cons_zero, List.set_cons_succ])
        refine wpAnyH_take (i := 1) (v := ?v7_2) rfl (by kernel_rfl) (by kernel_rfl) (by kernel_rfl) (fun _ _ _ h => h) (Or.inl ⟨by rfl, ?hy7_2⟩) (by assumption) ?rest7_2
        case hy7_2 => (intro wy hSw; (try dsimp only at hSw); obtain ⟨s0, s1, s2, s3, s4, s5, s6⟩ := hSw; go_simp; try with_reducible rfl)
        (try simp only [Act.put, List.setIfInBounds_toArray, List.set_cons_zero, List.set_cons_succ])
        refine wpAnyH_ready (rs := [2, 7]) (by kernel_rfl) (by simp) (AllReadyH.cons rfl (fun K hK => ?aB7_3) (AllReadyH.cons rfl (fun K hK => ?aD7_3) AllReadyH.nil))
        case aB7_3 =>
          go_simp
          refine (V.toPlace a1_0 a1_1 a1_2 a1_3 _).mono ?_
          rintro e wb1 ⟨rfl, hbk⟩
          have HQB1 := Lib.hid ((V.b_draws w_4 1).trans (hbk.mono (V.b_draws w_4 1).size))
          clear hbk
          refine hK.out _ _ (HS0.out _ HQB1.out) (fun hHeld => ?_)
          clear hK K
          (try simp only [Act.put, List.setIfInBounds_toArray, List.set_cons_zero, List.set_cons_succ])
          refine wpAnyH_ready (rs := [3, 7]) (by kernel_rfl) (by simp) (AllReadyH.cons rfl (fun K hK => ?aC7_4) (AllReadyH.cons rfl (fun K hK => ?aD7_4) AllReadyH.nil))
          case aC7_4 =>
            go_simp
            refine (HSi.out _ _ _ _ (HA1.out.below HQB1.out)).mono ?_
            rintro e wc2 ⟨ra, rn, rc, rfl, ho, hbk⟩
            have HQC2 := Lib.hid (HQB1.out.trans (hbk.mono HQB1.out.size))
            have HO3 := Lib.hid ho
            have hy4 := Lib.hid hbk.size
            have hCle := Lib.hid (HQB1.out.size)
            clear hbk ho
            refine hK.out _ _ (HS0.out _ HQC2.out) (fun hHeld => ?_)
            clear hK K
            (try simp only [Act.put, List.setIfInBounds_toArray, List.set_cons_zero, List.set_cons_succ])
            refine wpAnyH_take (i := 4) (v := ?v7_5) rfl (by kernel_rfl) (by kernel_rfl) (by kernel_rfl) (fun _ _ _ h => h) (Or.inl ⟨by rfl, ?hy7_5⟩) (by assumption) ?rest7_5
            case hy7_5 => (intro wy hSw; (try dsimp only at hSw); obtain ⟨s0, s1, s2, s3, s4, s5, s6⟩ := hSw; go_simp; try with_reducible rfl)
            (try simp only [Act.put, List.setIfInBounds_toArray, List.set_cons_zero, List.set_cons_succ])
            refine wpAnyH_take (i := 5) (v := ?v7_6) rfl (by kernel_rfl) (by kernel_rfl) (by kernel_rfl) (fun _ _ _ h => h) (Or.inl ⟨by rfl, ?hy7_6⟩) (by assumption) ?rest7_6
            case hy7_6 => (intro wy hSw; (try dsimp only at hSw); obtain ⟨s0, s1, s2, s3, s4, s5, s6⟩ := hSw; go_simp; try with_reducible rfl)
            (try simp only [Act.put, List.setIfInBounds_toArray, List.set_cons_zero, List.set_cons_succ])
            refine wpAnyH_take (i := 6) (v := ?v7_7) rfl (by kernel_rfl) (by kernel_rfl) (by kernel_rfl) (fun _ _ _ h => h) (Or.inl ⟨by rfl, ?hy7_7⟩) (by assumption) ?rest7_7
            case hy7_7 => (intro wy hSw; (try dsimp only at hSw); obtain ⟨s0, s1, s2, s3, s4, s5, s6⟩ := hSw; go_simp; try with_reducible rfl)
            (try simp only [Act.put, List.setIfInBounds_toArray, List.set_cons_zero, List.set_cons_succ])
            refine wpAnyH_ready (rs := [7]) (by kernel_rfl) (by simp) (AllReadyH.cons rfl (fun K hK => ?_) AllReadyH.nil)
            go_simp
            have HQD3 : Hid (Below w_4.heap.size w_4 (wc2.alloc (.cells #[.int .i64 0, .slice none 0 0] 26))) := HQC2.out.trans ((V.b_alloc wc2 _).mono HQC2.out.size)
            refine hK.out _ _ (HS0.out _ HQD3.out) (fun hHeld => ?_)
            clear hK K
            (try simp only [Act.put, List.setIfInBounds_toArray, List.set_cons_zero, List.set_cons_succ])
            refine wpAnyH_ready (rs := [8]) (by kernel_rfl) (by simp) (AllReadyH.cons rfl (fun K hK => ?_) AllReadyH.nil)
            go_simp
            refine hK.out _ _ (HS0.out _ (HQC2.out.trans ((V.b_alloc wc2 _).mono HQC2.out.size))) (fun hHeld => ?_)
            clear hK K
            (try simp only [Act.put, List.setIfInBounds_toArray, List.set_cons_zero, List.set_cons_succ])
            refine wpAnyH_ready (rs := [9]) (by kernel_rfl) (by simp) (AllReadyH.cons rfl (fun K hK => ?_) AllReadyH.nil)
            go_simp
            refine hK.out _ _ (HS0.out _ (HQC2.out.trans ((V.b_alloc wc2 _).mono HQC2.out.size))) (fun hHeld => ?_)
            clear hK K
            (try simp only [Act.put, List.setIfInBounds_toArray, List.set_cons_zero, List.set_cons_succ])
            refine wpAnyH_done (by kernel_rfl) ?_ _
            go_wp2_with fail
            go_meet
            exact ⟨rfl, V.sRel_new HO3.out hCle.out hy4.out HQC2.out⟩
          case aD7_4 =>
            go_simp
            have HQD2 : Hid (Below w_4.heap.size w_4 (wb1.alloc (.cells #[.int .i64 0, .slice none 0 0] 26))) := HQB1.out.trans ((V.b_alloc wb1 _).mono HQB1.out.size)
            have HRes2 : Hid (V.ResG (wb1.alloc (.cells #[.int .i64 0, .slice none 0 0] 26)) wb1.heap.size) := V.resG_new wb1 26
            refine hK.out _ _ (HS0.out _ HQD2.out) (fun hHeld => ?_)
            clear hK K
            (try simp only [Act.put, List.setIfInBounds_toArray, List.set_cons_zero, List.set_cons_succ])
            refine wpAnyH_ready (rs := [3]) (by kernel_rfl) (by simp) (AllReadyH.cons rfl (fun K hK => ?_) AllReadyH.nil)
            go_simp
            refine (HSi.out _ _ _ _ (HA1.out.below HQD2.out)).mono ?_
            rintro e wc3 ⟨ra, rn, rc, rfl, ho, hbk⟩
            have HQC3 := Lib.hid (HQD2.out.trans (hbk.mono HQD2.out.size))
            have HRwc3 := Lib.hid (HRes2.out.below hbk)
            have HO3 := Lib.hid ho
            have hy4 := Lib.hid hbk.size
            have hCle := Lib.hid (HQD2.out.size)
            have hblt : Hid (wb1.heap.size < ((wb1.alloc (.cells #[.int .i64 0, .slice none 0 0] 26))).heap.size) := V.cell_lt HRes2.out.1
            clear hbk ho
            refine hK.out _ _ (HS0.out _ HQC3.out) (fun hHeld => ?_)
            clear hK K
            (try simp only [Act.put, List.setIfInBounds_toArray, List.set_cons_zero, List.set_cons_succ])
            refine wpAnyH_take (i := 4) (v := ?v7_10) rfl (by kernel_rfl) (by kernel_rfl) (by kernel_rfl) (fun _ _ _ h => h) (Or.inl ⟨by rfl, ?hy7_10⟩) (by assumption) ?rest7_10
            case hy7_10 => (intro wy hSw; (try dsimp only at hSw); obtain ⟨s0, s1, s2, s3, s4, s5, s6⟩ := hSw; go_simp; try with_reducible rfl)
            (try simp only [Act.put, List.setIfInBounds_toArray, List.set_cons_zero, List.set_cons_succ])
            refine wpAnyH_take (i := 5) (v := ?v7_11) rfl (by kernel_rfl) (by kernel_rfl) (by kernel_rfl) (fun _ _ _ h => h) (Or.inl ⟨by rfl, ?hy7_11⟩) (by assumption) ?rest7_11
            case hy7_11 => (intro wy hSw; (try dsimp only at hSw); obtain ⟨s0, s1, s2, s3, s4, s5, s6⟩ := hSw; go_simp; try with_reducible rfl)
            (try simp only [Act.put, List.setIfInBounds_toArray, List.set_cons_zero, List.set_cons_succ])
            refine wpAnyH_take (i := 6) (v := ?v7_12) rfl (by kernel_rfl) (by kernel_rfl) (by kernel_rfl) (fun _ _ _ h => h) (Or.inl ⟨by rfl, ?hy7_12⟩) (by assumption) ?rest7_12
            case hy7_12 => (intro wy hSw; (try dsimp only at hSw); obtain ⟨s0, s1, s2, s3, s4, s5, s6⟩ := hSw; go_simp; try with_reducible rfl)
            (try simp only [Act.put, List.setIfInBounds_toArray, List.set_cons_zero, List.set_cons_succ])
            obtain ⟨kd0, kd1, kd2, kd3⟩ := HRwc3.out
            refine wpAnyH_ready (rs := [8]) (by kernel_rfl) (by simp) (AllReadyH.cons rfl (fun K hK => ?_) AllReadyH.nil)
            go_simp
            refine hK.out _ _ (HS0.out _ ((HQC3.out.setCell (p := ⟨wb1.heap.size, 0, none⟩) HQB1.out.size _).setCell (p := ⟨wb1.heap.size, 1, none⟩) HQB1.out.size _)) (fun hHeld => ?_)
            clear hK K
            (try simp only [Act.put, List.setIfInBounds_toArray, List.set_cons_zero, List.set_cons_succ])
            refine wpAnyH_ready (rs := [9]) (by kernel_rfl) (by simp) (AllReadyH.cons rfl (fun K hK => ?_) AllReadyH.nil)
            go_simp
            refine hK.out _ _ (HS0.out _ ((HQC3.out.setCell (p := ⟨wb1.heap.size, 0, none⟩) HQB1.out.size _).setCell (p := ⟨wb1.heap.size, 1, none⟩) HQB1.out.size _)) (fun hHeld => ?_)
            clear hK K
            (try simp only [Act.put, List.setIfInBounds_toArray, List.set_cons_zero, List.set_cons_succ])
            refine wpAnyH_done (by kernel_rfl) ?_ _
            go_wp2_with fail
            go_meet
            exact ⟨rfl, V.sRel_old HRwc3.out HQB1.out.size hblt.out hy4.out HO3.out HQC3.out⟩
        case aD7_3 =>
          go_simp
          have HQD1 : Hid (Below w_4.heap.size w_4 (w_4.drew.alloc (.cells #[.int .i64 0, .slice none 0 0] 26))) := (V.b_draws w_4 1).trans ((V.b_alloc w_4.drew _).mono (V.b_draws w_4 1).size)
          have HRes1 : Hid (V.ResG (w_4.drew.alloc (.cells #[.int .i64 0, .slice none 0 0] 26)) w_4.heap.size) := V.resG_new w_4.drew 26
          refine hK.out _ _ (HS0.out _ HQD1.out) (fun hHeld => ?_)
          clear hK K
          (try simp only [Act.put, List.setIfInBounds_toArray, List.set_cons_zero, List.set_cons_succ])
          refine wpAnyH_ready (rs := [2]) (by kernel_rfl) (by simp) (AllReadyH.cons rfl (fun K hK => ?_) AllReadyH.nil)
          go_simp
          refine (V.toPlace a1_0 a1_1 a1_2 a1_3 _).mono ?_
          rintro e wb2 ⟨rfl, hbk⟩
          have HQB2 := Lib.hid (HQD1.out.trans (hbk.mono HQD1.out.size))
          have HRwb2 := Lib.hid (HRes1.out.below hbk)
          clear hbk
          refine hK.out _ _ (HS0.out _ HQB2.out) (fun hHeld => ?_)
          clear hK K
          (try simp only [Act.put, List.setIfInBounds_toArray, List.set_cons_zero, List.set_cons_succ])
          refine wpAnyH_ready (rs := [3]) (by kernel_rfl) (by simp) (AllReadyH.cons rfl (fun K hK => ?_) AllReadyH.nil)
          go_simp
          refine (HSi.out _ _ _ _ (HA1.out.below HQB2.out)).mono ?_
          rintro e wc3 ⟨ra, rn, rc, rfl, ho, hbk⟩
          have HQC3 := Lib.hid (HQB2.out.trans (hbk.mono HQB2.out.size))
          have HRwc3 := Lib.hid (HRwb2.out.below hbk)
          have HO3 := Lib.hid ho
          have hy4 := Lib.hid hbk.size
          have hCle := Lib.hid (HQB2.out.size)
          have hblt : Hid (w_4.heap.size < (wb2).heap.size) := V.cell_lt HRwb2.out.1
          clear hbk ho
          refine hK.out _ _ (HS0.out _ HQC3.out) (fun hHeld => ?_)
          clear hK K
          (try simp only [Act.put, List.setIfInBounds_toArray, List.set_cons_zero, List.set_cons_succ])
          refine wpAnyH_take (i := 4) (v := ?v7_15) rfl (by kernel_rfl) (by kernel_rfl) (by kernel_rfl) (fun _ _ _ h => h) (Or.inl ⟨by rfl, ?hy7_15⟩) (by assumption) ?rest7_15
          case hy7_15 => (intro wy hSw; (try dsimp only at hSw); obtain ⟨s0, s1, s2, s3, s4, s5, s6⟩ := hSw; go_simp; try with_reducible rfl)
          (try simp only [Act.put, List.setIfInBounds_toArray, List.set_cons_zero, List.set_cons_succ])
          refine wpAnyH_take (i := 5) (v := ?v7_16) rfl (by kernel_rfl) (by kernel_rfl) (by kernel_rfl) (fun _ _ _ h => h) (Or.inl ⟨by rfl, ?hy7_16⟩) (by assumption) ?rest7_16
          case hy7_16 => (intro wy hSw; (try dsimp only at hSw); obtain ⟨s0, s1, s2, s3, s4, s5, s6⟩ := hSw; go_simp; try with_reducible rfl)
          (try simp only [Act.put, List.setIfInBounds_toArray, List.set_cons_zero, List.set_cons_succ])
          refine wpAnyH_take (i := 6) (v := ?v7_17) rfl (by kernel_rfl) (by kernel_rfl) (by kernel_rfl) (fun _ _ _ h => h) (Or.inl ⟨by rfl, ?hy7_17⟩) (by assumption) ?rest7_17
          case hy7_17 => (intro wy hSw; (try dsimp only at hSw); obtain ⟨s0, s1, s2, s3, s4, s5, s6⟩ := hSw; go_simp; try with_reducible rfl)
          (try simp only [Act.put, List.setIfInBounds_toArray, List.set_cons_zero, List.set_cons_succ])
          obtain ⟨kd0, kd1, kd2, kd3⟩ := HRwc3.out
          refine wpAnyH_ready (rs := [8]) (by kernel_rfl) (by simp) (AllReadyH.cons rfl (fun K hK => ?_) AllReadyH.nil)
          go_simp
          refine hK.out _ _ (HS0.out _ ((HQC3.out.setCell (p := ⟨w_4.heap.size, 0, none⟩) (Nat.le_refl _) _).setCell (p := ⟨w_4.heap.size, 1, none⟩) (Nat.le_refl _) _)) (fun hHeld => ?_)
          clear hK K
          (try simp only [Act.put, List.setIfInBounds_toArray, List.set_cons_zero, List.set_cons_succ])
          refine wpAnyH_ready (rs := [9]) (by kernel_rfl) (by simp) (AllReadyH.cons rfl (fun K hK => ?_) AllReadyH.nil)
          go_simp
          refine hK.out _ _ (HS0.out _ ((HQC3.out.setCell (p := ⟨w_4.heap.size, 0, none⟩) (Nat.le_refl _) _).setCell (p := ⟨w_4.heap.size, 1, none⟩) (Nat.le_refl _) _)) (fun hHeld => ?_)
          clear hK K
          (try simp only [Act.put, List.setIfInBounds_toArray, List.set_cons_zero, List.set_cons_succ])
          refine wpAnyH_done (by kernel_rfl) ?_ _
          go_wp2_with fail
          go_meet
          exact ⟨rfl, V.sRel_old HRwc3.out (Nat.le_refl _) hblt.out hy4.out HO3.out HQC3.out⟩
      case rest =>
        obtain ⟨w_5, hw_5⟩ : ∃ z, z = wc := ⟨_, rfl⟩
        subst hw_5
        obtain ⟨rfl, hS⟩ := hcut
        clear HS0 HXb
        clear HA1
        clear kX0 kX1
        obtain ⟨gb, ga, gn, gc, gB, gw, rfl, hbx, hsG, hgB, hgB2, hO, hgz, hSm, hnb, hb⟩ := hS
        have z5 : w_4.heap.size ≤ w_5.heap.size := hb.size
        have HP_5 := Lib.hid (HP_4.out.trans (hb.mono (by omega)))
        have Ss_5 : Hid (V.Same w_1.heap.size w_2.heap.size w_2 w_5) := Ss_4.out.below hb (by omega)
        have SS_5 : Hid (V.Same w_1.heap.size w_2.heap.size w_2 w_5) := SS_4.out.below hb (by omega)
        have Sx_5 : Hid (V.Same w_2.heap.size w_3.heap.size w_3 w_5) := Sx_4.out.below hb (by omega)
        have SX_5 : Hid (V.Same w_3.heap.size w_4.heap.size w_4 w_5) := SX_4.out.below hb (by omega)
        clear HP_4 Ss_4 SS_4 Sx_4 SX_4
        have HOg := Lib.hid hO
        have HOG := Lib.hid hbx
        have zxG := V.cell_lt hbx.1
        have Sg_5 : Hid (V.Same gB gw.heap.size gw w_5) := hSm
        clear hO hSm hb hbx
        have SG_5 : Hid (V.Same gb (gb + 1) w_5 w_5) := V.Same.refl _ _ _
        have hgn : gn ≤ 30 := by have := HOg.out.len; omega
        obtain ⟨kG0, kG1⟩ := gsame HOG.out (SG_5.out gb (by omega) (by omega))
        obtain ⟨kS0, kS1⟩ := gsame HOS.out (SS_5.out sb (by omega) (by omega))
        go_wp2_with fail
        clear kG0 kG1 kS0 kS1
        refine (V.eqGraph r.1 _ _ _ _ _ _ _ _ ((HOg.out.keep Sg_5.out).pls) ((HOs.out.keep Ss_5.out).pls)).mono ?_
        rintro e w_6 ⟨rfl, hb⟩
        have z6 : w_5.heap.size ≤ w_6.heap.size := hb.size
        have HP_6 := Lib.hid (HP_5.out.trans (hb.mono (by omega)))
        have Ss_6 : Hid (V.Same w_1.heap.size w_2.heap.size w_2 w_6) := Ss_5.out.below hb (by omega)
        have SS_6 : Hid (V.Same w_1.heap.size w_2.heap.size w_2 w_6) := SS_5.out.below hb (by omega)
        have Sx_6 : Hid (V.Same w_2.heap.size w_3.heap.size w_3 w_6) := Sx_5.out.below hb (by omega)
        have SX_6 : Hid (V.Same w_3.heap.size w_4.heap.size w_4 w_6) := SX_5.out.below hb (by omega)
        have Sg_6 : Hid (V.Same gB gw.heap.size gw w_6) := Sg_5.out.below hb (by omega)
        have SG_6 : Hid (V.Same gb (gb + 1) w_5 w_6) := SG_5.out.below hb (by omega)
        clear HP_5 Ss_5 SS_5 Sx_5 SX_5 Sg_5 SG_5
        clear hb
        obtain ⟨g0, g1⟩ := HGb.out.below HP_6.out
        obtain ⟨k0, k1⟩ := gsame HOX.out (SX_6.out w_3.heap.size (by omega) (by omega))
        go_wp2
        go_region_held3 (fun w' => w'.cell? ⟨w.heap.size, 0, none⟩ = some (.int .i64 x0) ∧ w'.cell? ⟨w.heap.size, 1, none⟩ = some (.slice a0 len0 cap0) ∧ w'.cell? ⟨w_3.heap.size, 0, none⟩ = some (.int .i64 x0) ∧ w'.cell? ⟨w_3.heap.size, 1, none⟩ = some (.slice bx len0 len0) ∧ Below w_6.heap.size w_6 w')
          (first | exact ⟨g0, g1, k0, k1, (Below.refl _ _).drew⟩ | exact keepG ‹_ ∧ _ ∧ _ ∧ _ ∧ Below _ _ _› hb)
          (first
            | (go_at_call 51; refine (V.toGraph x0 a0 len0 cap0 l0 _ ?hp hn).mono ?_; (case hp => exact HA.out.below (bt (bt HW.out HP_6.out) (‹_ ∧ _ ∧ _ ∧ _ ∧ Below _ _ _›).2.2.2.2)); rintro e wy ⟨b7, rfl, ho7, hb⟩; have HD := Lib.hid ho7.pls; have HBw := Lib.hid (bt (‹_ ∧ _ ∧ _ ∧ _ ∧ Below _ _ _›).2.2.2.2 hb); clear ho7)
            | (go_at_call 54; refine (V.eqGraph x0 _ _ _ _ _ _ l0 _ ?h1 ?h2).mono ?_; (case h1 => exact ((HOx.out.keep Sx_6.out).pls).below HBw.out); (case h2 => exact HD.out); rintro e w_7 ⟨rfl, hb⟩; have HBz := Lib.hid (bt HBw.out hb)))
        all_goals
          have z7 : w_6.heap.size ≤ w_7.heap.size := HBz.out.size
          have HP_7 := Lib.hid (HP_6.out.trans (HBz.out.mono (by omega)))
          have Ss_7 : Hid (V.Same w_1.heap.size w_2.heap.size w_2 w_7) := Ss_6.out.below HBz.out (by omega)
          have SS_7 : Hid (V.Same w_1.heap.size w_2.heap.size w_2 w_7) := SS_6.out.below HBz.out (by omega)
          have Sx_7 : Hid (V.Same w_2.heap.size w_3.heap.size w_3 w_7) := Sx_6.out.below HBz.out (by omega)
          have SX_7 : Hid (V.Same w_3.heap.size w_4.heap.size w_4 w_7) := SX_6.out.below HBz.out (by omega)
          have Sg_7 : Hid (V.Same gB gw.heap.size gw w_7) := Sg_6.out.below HBz.out (by omega)
          have SG_7 : Hid (V.Same gb (gb + 1) w_5 w_7) := SG_6.out.below HBz.out (by omega)
          clear HP_6 Ss_6 SS_6 Sx_6 SX_6 Sg_6 SG_6
          obtain ⟨kX0, kX1⟩ := gsame HOX.out (SX_7.out w_3.heap.size (by omega) (by omega))
          go_wp2_with fail
          clear kX0 kX1
          refine (V.markGraph x0 _ _ _ w_2.heap.size l0 1 w_3 w_7 HOx.out Sx_7.out (by omega) (by omega) (by omega) (by omega)).mono ?_
          rintro e w_8 ⟨y, rfl, hy, HY, ho, hk, hsz, hBl⟩
          have hBl := hBl (by omega)
          have z8 := hsz
          have HP_8 := Lib.hid (HP_7.out.trans (hBl.mono (by omega)))
          have Ss_8 : Hid (V.Same w_1.heap.size w_2.heap.size w_2 w_8) := fun k q1 q2 => (hk k (by omega) (by omega)).trans (Ss_7.out k q1 q2)
          have SS_8 : Hid (V.Same w_1.heap.size w_2.heap.size w_2 w_8) := fun k q1 q2 => (hk k (by omega) (by omega)).trans (SS_7.out k q1 q2)
          have SX_8 : Hid (V.Same w_3.heap.size w_4.heap.size w_4 w_8) := fun k q1 q2 => (hk k (by omega) (by omega)).trans (SX_7.out k q1 q2)
          have Sg_8 : Hid (V.Same gB gw.heap.size gw w_8) := fun k q1 q2 => (hk k (by omega) (by omega)).trans (Sg_7.out k q1 q2)
          have SG_8 : Hid (V.Same gb (gb + 1) w_5 w_8) := fun k q1 q2 => (hk k (by omega) (by omega)).trans (SG_7.out k q1 q2)
          have HOm := Lib.hid ho
          clear HP_7 hk hsz hBl ho HOx Ss_7 SS_7 Sx_7 SX_7 Sg_7 SG_7
          clear HOm
          clear SX_8 HOX
          obtain ⟨kG0, kG1⟩ := gsame HOG.out (SG_8.out gb (by omega) (by omega))
          obtain ⟨kS0, kS1⟩ := gsame HOS.out (SS_8.out sb (by omega) (by omega))
          go_wp2_with fail
          clear kG0 kG1 kS0 kS1
          refine (V.eqGraph r.1 _ _ _ _ _ _ _ _ ((HOg.out.keep Sg_8.out).pls) ((HOs.out.keep Ss_8.out).pls)).mono ?_
          rintro e w_9 ⟨rfl, hb⟩
          have z9 : w_8.heap.size ≤ w_9.heap.size := hb.size
          have HP_9 := Lib.hid (HP_8.out.trans (hb.mono (by omega)))
          have Ss_9 : Hid (V.Same w_1.heap.size w_2.heap.size w_2 w_9) := Ss_8.out.below hb (by omega)
          have SS_9 : Hid (V.Same w_1.heap.size w_2.heap.size w_2 w_9) := SS_8.out.below hb (by omega)
          have Sg_9 : Hid (V.Same gB gw.heap.size gw w_9) := Sg_8.out.below hb (by omega)
          have SG_9 : Hid (V.Same gb (gb + 1) w_5 w_9) := SG_8.out.below hb (by omega)
          clear HP_8 Ss_8 SS_8 Sg_8 SG_8
          clear hb
          obtain ⟨kG0, kG1⟩ := gsame HOG.out (SG_9.out gb (by omega) (by omega))
          go_wp2_with fail
          clear kG0 kG1
          refine (V.markGraph r.1 _ _ _ gB r.2.1 1 gw w_9 HOg.out Sg_9.out (by omega) (by omega) (by omega) (by omega)).mono ?_
          rintro e w_10 ⟨m, rfl, hm, HM, ho, hk, hsz, hBl⟩
          have hBl := hBl (by omega)
          have z10 := hsz
          have HP_10 := Lib.hid (HP_9.out.trans (hBl.mono (by omega)))
          have Ss_10 : Hid (V.Same w_1.heap.size w_2.heap.size w_2 w_10) := fun k q1 q2 => (hk k (by omega) (by omega)).trans (Ss_9.out k q1 q2)
          have SS_10 : Hid (V.Same w_1.heap.size w_2.heap.size w_2 w_10) := fun k q1 q2 => (hk k (by omega) (by omega)).trans (SS_9.out k q1 q2)
          have SG_10 : Hid (V.Same gb (gb + 1) w_5 w_10) := fun k q1 q2 => (hk k (by omega) (by omega)).trans (SG_9.out k q1 q2)
          have HOm := Lib.hid ho
          clear HP_9 hk hsz hBl ho HOg Ss_9 SS_9 Sg_9 SG_9
          have HOg := HOm
          clear HOm
          have Sg_10 : Hid (V.Same gB w_10.heap.size w_10 w_10) := V.Same.refl _ _ _
          have hmb : m ≤ 200 := by have := HM.out; omega
          obtain ⟨kG0, kG1⟩ := gsame HOG.out (SG_10.out gb (by omega) (by omega))
          go_wp2_with fail
          clear kG0 kG1
          refine (V.heldGraph r.1 _ _ _ 1 m _ ((HOg.out.keep Sg_10.out).pls) (by omega) (by omega) (by omega) HM.out).mono ?_
          rintro e w_11 ⟨rfl, hb⟩
          have z11 : w_10.heap.size ≤ w_11.heap.size := hb.size
          have HP_11 := Lib.hid (HP_10.out.trans (hb.mono (by omega)))
          have Ss_11 : Hid (V.Same w_1.heap.size w_2.heap.size w_2 w_11) := Ss_10.out.below hb (by omega)
          have SS_11 : Hid (V.Same w_1.heap.size w_2.heap.size w_2 w_11) := SS_10.out.below hb (by omega)
          have SG_11 : Hid (V.Same gb (gb + 1) w_5 w_11) := SG_10.out.below hb (by omega)
          have Sg_11 : Hid (V.Same gB w_10.heap.size w_10 w_11) := Sg_10.out.below hb (by omega)
          clear HP_10 Ss_10 SS_10 SG_10 Sg_10
          clear hb
          have HA1 := Lib.hid (HA.out.below (bt HW.out HP_11.out))
          have HS0 : Hid (∀ w', Below w_11.heap.size w_11 w' → w'.cell? ⟨w.heap.size, 0, none⟩ = some (.int .i64 x0) ∧ w'.cell? ⟨w.heap.size, 1, none⟩ = some (.slice a0 len0 cap0) ∧ w'.cell? ⟨w.heap.size + 1, 0, none⟩ = some (.int .i64 a1_0) ∧ w'.cell? ⟨w.heap.size + 1, 1, none⟩ = some (.int .i64 a1_1) ∧ w'.cell? ⟨w.heap.size + 1, 2, none⟩ = some (.int .i64 a1_2) ∧ w'.cell? ⟨w.heap.size + 1, 3, none⟩ = some (.int .i64 a1_3) ∧ Below w_11.heap.size w_11 w') := fun w' hb' => ⟨((HGb.out.below HP_11.out).below hb').1, ((HGb.out.below HP_11.out).below hb').2, ((HPb.out.below HP_11.out).below hb').1, ((HPb.out.below HP_11.out).below hb').2.1, ((HPb.out.below HP_11.out).below hb').2.2.1, ((HPb.out.below HP_11.out).below hb').2.2.2, hb'⟩
          go_upto_region 24 with fail
          go_cut [14, 15] (fun s6 s7 wx => s7 = .int .i64 r.2.2 ∧ V.SRel w_11 wx s6 r.1 r.2.1)
          case first =>
            refine wp_region_held_drew (S := fun w' => w'.cell? ⟨w.heap.size, 0, none⟩ = some (.int .i64 x0) ∧ w'.cell? ⟨w.heap.size, 1, none⟩ = some (.slice a0 len0 cap0) ∧ w'.cell? ⟨w.heap.size + 1, 0, none⟩ = some (.int .i64 a1_0) ∧ w'.cell? ⟨w.heap.size + 1, 1, none⟩ = some (.int .i64 a1_1) ∧ w'.cell? ⟨w.heap.size + 1, 2, none⟩ = some (.int .i64 a1_2) ∧ w'.cell? ⟨w.heap.size + 1, 3, none⟩ = some (.int .i64 a1_3) ∧ Below w_11.heap.size w_11 w') (by kernel_rfl) ?_ (fun hHeld => ?_)
            · exact HS0.out _ (V.b_draws w_11 1)
            refine wpAnyH_take (i := 0) (v := ?v24_1) rfl (by kernel_rfl) (by kernel_rfl) (by kernel_rfl) (fun _ _ _ h => h) (Or.inl ⟨by rfl, ?hy24_1⟩) (by assumption) ?rest24_1
            case hy24_1 => (intro wy hSw; (try dsimp only at hSw); obtain ⟨s0, s1, s2, s3, s4, s5, s6⟩ := hSw; go_simp; try with_reducible rfl)
            (try simp only [Act.put, List.setIfInBounds_toArray, List.set_cons_zero, List.set_cons_succ])
            refine wpAnyH_take (i := 2) (v := ?v24_2) rfl (by kernel_rfl) (by kernel_rfl) (by kernel_rfl) (fun _ _ _ h => h) (Or.inl ⟨by rfl, ?hy24_2⟩) (by assumption) ?rest24_2
            case hy24_2 => (intro wy hSw; (try dsimp only at hSw); obtain ⟨s0, s1, s2, s3, s4, s5, s6⟩ := hSw; go_simp; try with_reducible rfl)
            (try simp only [Act.put, List.setIfInBounds_toArray, List.set_cons_zero, List.set_cons_succ])
            refine wpAnyH_ready (rs := [1, 8]) (by kernel_rfl) (by simp) (AllReadyH.cons rfl (fun K hK => ?aA24_3) (AllReadyH.cons rfl (fun K hK => ?aD24_3) AllReadyH.nil))
            case aA24_3 =>
              go_simp
              refine (V.toGraph x0 a0 len0 cap0 l0 _ (HA1.out.below (V.b_draws w_11 1)) hn).mono ?_
              rintro e wa1 ⟨b1, rfl, ho, hbk⟩
              have HQA1 := Lib.hid ((V.b_draws w_11 1).trans (hbk.mono (V.b_draws w_11 1).size))
              have HDa := Lib.hid ho.pls
              clear hbk ho
              refine hK.out _ _ (HS0.out _ HQA1.out) (fun hHeld => ?_)
              clear hK K
              (try simp only [Act.put, List.setIfInBounds_toArray, List.set_cons_zero, List.set_cons_succ])
              refine wpAnyH_ready (rs := [3, 8]) (by kernel_rfl) (by simp) (AllReadyH.cons rfl (fun K hK => ?aB24_4) (AllReadyH.cons rfl (fun K hK => ?aD24_4) AllReadyH.nil))
              case aB24_4 =>
                go_simp
                refine (V.toPlace a1_0 a1_1 a1_2 a1_3 _).mono ?_
                rintro e wb2 ⟨rfl, hbk⟩
                have HQB2 := Lib.hid (HQA1.out.trans (hbk.mono HQA1.out.size))
                have HDwb2 := Lib.hid (HDa.out.below hbk)
                clear hbk
                refine hK.out _ _ (HS0.out _ HQB2.out) (fun hHeld => ?_)
                clear hK K
                (try simp only [Act.put, List.setIfInBounds_toArray, List.set_cons_zero, List.set_cons_succ])
                refine wpAnyH_ready (rs := [4, 8]) (by kernel_rfl) (by simp) (AllReadyH.cons rfl (fun K hK => ?aC24_5) (AllReadyH.cons rfl (fun K hK => ?aD24_5) AllReadyH.nil))
                case aC24_5 =>
                  go_simp
                  refine (HSi.out _ _ _ _ (HDwb2.out)).mono ?_
                  rintro e wc3 ⟨ra, rn, rc, rfl, ho, hbk⟩
                  have HQC3 := Lib.hid (HQB2.out.trans (hbk.mono HQB2.out.size))
                  have HDwc3 := Lib.hid (HDwb2.out.below hbk)
                  have HO3 := Lib.hid ho
                  have hy4 := Lib.hid hbk.size
                  have hCle := Lib.hid (HQB2.out.size)
                  clear hbk ho
                  refine hK.out _ _ (HS0.out _ HQC3.out) (fun hHeld => ?_)
                  clear hK K
                  (try simp only [Act.put, List.setIfInBounds_toArray, List.set_cons_zero, List.set_cons_succ])
                  refine wpAnyH_take (i := 5) (v := ?v24_6) rfl (by kernel_rfl) (by kernel_rfl) (by kernel_rfl) (fun _ _ _ h => h) (Or.inl ⟨by rfl, ?hy24_6⟩) (by assumption) ?rest24_6
                  case hy24_6 => (intro wy hSw; (try dsimp only at hSw); obtain ⟨s0, s1, s2, s3, s4, s5, s6⟩ := hSw; go_simp; try with_reducible rfl)
                  (try simp only [Act.put, List.setIfInBounds_toArray, List.set_cons_zero, List.set_cons_succ])
                  refine wpAnyH_take (i := 6) (v := ?v24_7) rfl (by kernel_rfl) (by kernel_rfl) (by kernel_rfl) (fun _ _ _ h => h) (Or.inl ⟨by rfl, ?hy24_7⟩) (by assumption) ?rest24_7
                  case hy24_7 => (intro wy hSw; (try dsimp only at hSw); obtain ⟨s0, s1, s2, s3, s4, s5, s6⟩ := hSw; go_simp; try with_reducible rfl)
                  (try simp only [Act.put, List.setIfInBounds_toArray, List.set_cons_zero, List.set_cons_succ])
                  refine wpAnyH_take (i := 7) (v := ?v24_8) rfl (by kernel_rfl) (by kernel_rfl) (by kernel_rfl) (fun _ _ _ h => h) (Or.inl ⟨by rfl, ?hy24_8⟩) (by assumption) ?rest24_8
                  case hy24_8 => (intro wy hSw; (try dsimp only at hSw); obtain ⟨s0, s1, s2, s3, s4, s5, s6⟩ := hSw; go_simp; try with_reducible rfl)
                  (try simp only [Act.put, List.setIfInBounds_toArray, List.set_cons_zero, List.set_cons_succ])
                  refine wpAnyH_ready (rs := [8]) (by kernel_rfl) (by simp) (AllReadyH.cons rfl (fun K hK => ?_) AllReadyH.nil)
                  go_simp
                  have HQD4 : Hid (Below w_11.heap.size w_11 (wc3.alloc (.cells #[.int .i64 0, .slice none 0 0] 26))) := HQC3.out.trans ((V.b_alloc wc3 _).mono HQC3.out.size)
                  have HDd4 := Lib.hid (HDwc3.out.below (V.b_alloc wc3 (.cells #[.int .i64 0, .slice none 0 0] 26)))
                  refine hK.out _ _ (HS0.out _ HQD4.out) (fun hHeld => ?_)
                  clear hK K
                  (try simp only [Act.put, List.setIfInBounds_toArray, List.set_cons_zero, List.set_cons_succ])
                  refine wpAnyH_ready (rs := [9]) (by kernel_rfl) (by simp) (AllReadyH.cons rfl (fun K hK => ?_) AllReadyH.nil)
                  go_simp
                  refine hK.out _ _ (HS0.out _ (HQC3.out.trans ((V.b_alloc wc3 _).mono HQC3.out.size))) (fun hHeld => ?_)
                  clear hK K
                  (try simp only [Act.put, List.setIfInBounds_toArray, List.set_cons_zero, List.set_cons_succ])
                  refine wpAnyH_ready (rs := [10]) (by kernel_rfl) (by simp) (AllReadyH.cons rfl (fun K hK => ?_) AllReadyH.nil)
                  go_simp
                  refine hK.out _ _ (HS0.out _ (HQC3.out.trans ((V.b_alloc wc3 _).mono HQC3.out.size))) (fun hHeld => ?_)
                  clear hK K
                  (try simp only [Act.put, List.setIfInBounds_toArray, List.set_cons_zero, List.set_cons_succ])
                  refine wpAnyH_done (by kernel_rfl) ?_ _
                  go_wp2_with fail
                  go_meet
                  exact ⟨rfl, V.sRel_new HO3.out hCle.out hy4.out HQC3.out⟩
                case aD24_5 =>
                  go_simp
                  have HQD3 : Hid (Below w_11.heap.size w_11 (wb2.alloc (.cells #[.int .i64 0, .slice none 0 0] 26))) := HQB2.out.trans ((V.b_alloc wb2 _).mono HQB2.out.size)
                  have HRes3 : Hid (V.ResG (wb2.alloc (.cells #[.int .i64 0, .slice none 0 0] 26)) wb2.heap.size) := V.resG_new wb2 26
                  have HDd3 := Lib.hid (HDwb2.out.below (V.b_alloc wb2 (.cells #[.int .i64 0, .slice none 0 0] 26)))
                  refine hK.out _ _ (HS0.out _ HQD3.out) (fun hHeld => ?_)
                  clear hK K
                  (try simp only [Act.put, List.setIfInBounds_toArray, List.set_cons_zero, List.set_cons_succ])
                  refine wpAnyH_ready (rs := [4]) (by kernel_rfl) (by simp) (AllReadyH.cons rfl (fun K hK => ?_) AllReadyH.nil)
                  go_simp
                  refine (HSi.out _ _ _ _ (HDd3.out)).mono ?_
                  rintro e wc4 ⟨ra, rn, rc, rfl, ho, hbk⟩
                  have HQC4 := Lib.hid (HQD3.out.trans (hbk.mono HQD3.out.size))
                  have HDwc4 := Lib.hid (HDd3.out.below hbk)
                  have HRwc4 := Lib.hid (HRes3.out.below hbk)
                  have HO3 := Lib.hid ho
                  have hy4 := Lib.hid hbk.size
                  have hCle := Lib.hid (HQD3.out.size)
                  have hblt : Hid (wb2.heap.size < ((wb2.alloc (.cells #[.int .i64 0, .slice none 0 0] 26))).heap.size) := V.cell_lt HRes3.out.1
                  clear hbk ho
                  refine hK.out _ _ (HS0.out _ HQC4.out) (fun hHeld => ?_)
                  clear hK K
                  (try simp only [Act.put, List.setIfInBounds_toArray, List.set_cons_zero, List.set_cons_succ])
                  refine wpAnyH_take (i := 5) (v := ?v24_11) rfl (by kernel_rfl) (by kernel_rfl) (by kernel_rfl) (fun _ _ _ h => h) (Or.inl ⟨by rfl, ?hy24_11⟩) (by assumption) ?rest24_11
                  case hy24_11 => (intro wy hSw; (try dsimp only at hSw); obtain ⟨s0, s1, s2, s3, s4, s5, s6⟩ := hSw; go_simp; try with_reducible rfl)
                  (try simp only [Act.put, List.setIfInBounds_toArray, List.set_cons_zero, List.set_cons_succ])
                  refine wpAnyH_take (i := 6) (v := ?v24_12) rfl (by kernel_rfl) (by kernel_rfl) (by kernel_rfl) (fun _ _ _ h => h) (Or.inl ⟨by rfl, ?hy24_12⟩) (by assumption) ?rest24_12
                  case hy24_12 => (intro wy hSw; (try dsimp only at hSw); obtain ⟨s0, s1, s2, s3, s4, s5, s6⟩ := hSw; go_simp; try with_reducible rfl)
                  (try simp only [Act.put, List.setIfInBounds_toArray, List.set_cons_zero, List.set_cons_succ])
                  refine wpAnyH_take (i := 7) (v := ?v24_13) rfl (by kernel_rfl) (by kernel_rfl) (by kernel_rfl) (fun _ _ _ h => h) (Or.inl ⟨by rfl, ?hy24_13⟩) (by assumption) ?rest24_13
                  case hy24_13 => (intro wy hSw; (try dsimp only at hSw); obtain ⟨s0, s1, s2, s3, s4, s5, s6⟩ := hSw; go_simp; try with_reducible rfl)
                  (try simp only [Act.put, List.setIfInBounds_toArray, List.set_cons_zero, List.set_cons_succ])
                  obtain ⟨kd0, kd1, kd2, kd3⟩ := HRwc4.out
                  refine wpAnyH_ready (rs := [9]) (by kernel_rfl) (by simp) (AllReadyH.cons rfl (fun K hK => ?_) AllReadyH.nil)
                  go_simp
                  refine hK.out _ _ (HS0.out _ ((HQC4.out.setCell (p := ⟨wb2.heap.size, 0, none⟩) HQB2.out.size _).setCell (p := ⟨wb2.heap.size, 1, none⟩) HQB2.out.size _)) (fun hHeld => ?_)
                  clear hK K
                  (try simp only [Act.put, List.setIfInBounds_toArray, List.set_cons_zero, List.set_cons_succ])
                  refine wpAnyH_ready (rs := [10]) (by kernel_rfl) (by simp) (AllReadyH.cons rfl (fun K hK => ?_) AllReadyH.nil)
                  go_simp
                  refine hK.out _ _ (HS0.out _ ((HQC4.out.setCell (p := ⟨wb2.heap.size, 0, none⟩) HQB2.out.size _).setCell (p := ⟨wb2.heap.size, 1, none⟩) HQB2.out.size _)) (fun hHeld => ?_)
                  clear hK K
                  (try simp only [Act.put, List.setIfInBounds_toArray, List.set_cons_zero, List.set_cons_succ])
                  refine wpAnyH_done (by kernel_rfl) ?_ _
                  go_wp2_with fail
                  go_meet
                  exact ⟨rfl, V.sRel_old HRwc4.out HQB2.out.size hblt.out hy4.out HO3.out HQC4.out⟩
              case aD24_4 =>
                go_simp
                have HQD2 : Hid (Below w_11.heap.size w_11 (wa1.alloc (.cells #[.int .i64 0, .slice none 0 0] 26))) := HQA1.out.trans ((V.b_alloc wa1 _).mono HQA1.out.size)
                have HRes2 : Hid (V.ResG (wa1.alloc (.cells #[.int .i64 0, .slice none 0 0] 26)) wa1.heap.size) := V.resG_new wa1 26
                have HDd2 := Lib.hid (HDa.out.below (V.b_alloc wa1 (.cells #[.int .i64 0, .slice none 0 0] 26)))
                refine hK.out _ _ (HS0.out _ HQD2.out) (fun hHeld => ?_)
                clear hK K
                (try simp only [Act.put, List.setIfInBounds_toArray, List.set_cons_zero, List.set_cons_succ])
                refine wpAnyH_ready (rs := [3]) (by kernel_rfl) (by simp) (AllReadyH.cons rfl (fun K hK => ?_) AllReadyH.nil)
                go_simp
                refine (V.toPlace a1_0 a1_1 a1_2 a1_3 _).mono ?_
                rintro e wb3 ⟨rfl, hbk⟩
                have HQB3 := Lib.hid (HQD2.out.trans (hbk.mono HQD2.out.size))
                have HDwb3 := Lib.hid (HDd2.out.below hbk)
                have HRwb3 := Lib.hid (HRes2.out.below hbk)
                clear hbk
                refine hK.out _ _ (HS0.out _ HQB3.out) (fun hHeld => ?_)
                clear hK K
                (try simp only [Act.put, List.setIfInBounds_toArray, List.set_cons_zero, List.set_cons_succ])
                refine wpAnyH_ready (rs := [4]) (by kernel_rfl) (by simp) (AllReadyH.cons rfl (fun K hK => ?_) AllReadyH.nil)
                go_simp
                refine (HSi.out _ _ _ _ (HDwb3.out)).mono ?_
                rintro e wc4 ⟨ra, rn, rc, rfl, ho, hbk⟩
                have HQC4 := Lib.hid (HQB3.out.trans (hbk.mono HQB3.out.size))
                have HDwc4 := Lib.hid (HDwb3.out.below hbk)
                have HRwc4 := Lib.hid (HRwb3.out.below hbk)
                have HO3 := Lib.hid ho
                have hy4 := Lib.hid hbk.size
                have hCle := Lib.hid (HQB3.out.size)
                have hblt : Hid (wa1.heap.size < (wb3).heap.size) := V.cell_lt HRwb3.out.1
                clear hbk ho
                refine hK.out _ _ (HS0.out _ HQC4.out) (fun hHeld => ?_)
                clear hK K
                (try simp only [Act.put, List.setIfInBounds_toArray, List.set_cons_zero, List.set_cons_succ])
                refine wpAnyH_take (i := 5) (v := ?v24_16) rfl (by kernel_rfl) (by kernel_rfl) (by kernel_rfl) (fun _ _ _ h => h) (Or.inl ⟨by rfl, ?hy24_16⟩) (by assumption) ?rest24_16
                case hy24_16 => (intro wy hSw; (try dsimp only at hSw); obtain ⟨s0, s1, s2, s3, s4, s5, s6⟩ := hSw; go_simp; try with_reducible rfl)
                (try simp only [Act.put, List.setIfInBounds_toArray, List.set_cons_zero, List.set_cons_succ])
                refine wpAnyH_take (i := 6) (v := ?v24_17) rfl (by kernel_rfl) (by kernel_rfl) (by kernel_rfl) (fun _ _ _ h => h) (Or.inl ⟨by rfl, ?hy24_17⟩) (by assumption) ?rest24_17
                case hy24_17 => (intro wy hSw; (try dsimp only at hSw); obtain ⟨s0, s1, s2, s3, s4, s5, s6⟩ := hSw; go_simp; try with_reducible rfl)
                (try simp only [Act.put, List.setIfInBounds_toArray, List.set_cons_zero, List.set_cons_succ])
                refine wpAnyH_take (i := 7) (v := ?v24_18) rfl (by kernel_rfl) (by kernel_rfl) (by kernel_rfl) (fun _ _ _ h => h) (Or.inl ⟨by rfl, ?hy24_18⟩) (by assumption) ?rest24_18
                case hy24_18 => (intro wy hSw; (try dsimp only at hSw); obtain ⟨s0, s1, s2, s3, s4, s5, s6⟩ := hSw; go_simp; try with_reducible rfl)
                (try simp only [Act.put, List.setIfInBounds_toArray, List.set_cons_zero, List.set_cons_succ])
                obtain ⟨kd0, kd1, kd2, kd3⟩ := HRwc4.out
                refine wpAnyH_ready (rs := [9]) (by kernel_rfl) (by simp) (AllReadyH.cons rfl (fun K hK => ?_) AllReadyH.nil)
                go_simp
                refine hK.out _ _ (HS0.out _ ((HQC4.out.setCell (p := ⟨wa1.heap.size, 0, none⟩) HQA1.out.size _).setCell (p := ⟨wa1.heap.size, 1, none⟩) HQA1.out.size _)) (fun hHeld => ?_)
                clear hK K
                (try simp only [Act.put, List.setIfInBounds_toArray, List.set_cons_zero, List.set_cons_succ])
                refine wpAnyH_ready (rs := [10]) (by kernel_rfl) (by simp) (AllReadyH.cons rfl (fun K hK => ?_) AllReadyH.nil)
                go_simp
                refine hK.out _ _ (HS0.out _ ((HQC4.out.setCell (p := ⟨wa1.heap.size, 0, none⟩) HQA1.out.size _).setCell (p := ⟨wa1.heap.size, 1, none⟩) HQA1.out.size _)) (fun hHeld => ?_)
                clear hK K
                (try simp only [Act.put, List.setIfInBounds_toArray, List.set_cons_zero, List.set_cons_succ])
                refine wpAnyH_done (by kernel_rfl) ?_ _
                go_wp2_with fail
                go_meet
                exact ⟨rfl, V.sRel_old HRwc4.out HQA1.out.size hblt.out hy4.out HO3.out HQC4.out⟩
            case aD24_3 =>
              go_simp
              have HQD1 : Hid (Below w_11.heap.size w_11 (w_11.drew.alloc (.cells #[.int .i64 0, .slice none 0 0] 26))) := (V.b_draws w_11 1).trans ((V.b_alloc w_11.drew _).mono (V.b_draws w_11 1).size)
              have HRes1 : Hid (V.ResG (w_11.drew.alloc (.cells #[.int .i64 0, .slice none 0 0] 26)) w_11.heap.size) := V.resG_new w_11.drew 26
              refine hK.out _ _ (HS0.out _ HQD1.out) (fun hHeld => ?_)
              clear hK K
              (try simp only [Act.put, List.setIfInBounds_toArray, List.set_cons_zero, List.set_cons_succ])
              refine wpAnyH_ready (rs := [1]) (by kernel_rfl) (by simp) (AllReadyH.cons rfl (fun K hK => ?_) AllReadyH.nil)
              go_simp
              refine (V.toGraph x0 a0 len0 cap0 l0 _ (HA1.out.below HQD1.out) hn).mono ?_
              rintro e wa2 ⟨b1, rfl, ho, hbk⟩
              have HQA2 := Lib.hid (HQD1.out.trans (hbk.mono HQD1.out.size))
              have HDa := Lib.hid ho.pls
              have HRwa2 := Lib.hid (HRes1.out.below hbk)
              clear hbk ho
              refine hK.out _ _ (HS0.out _ HQA2.out) (fun hHeld => ?_)
              clear hK K
              (try simp only [Act.put, List.setIfInBounds_toArray, List.set_cons_zero, List.set_cons_succ])
              refine wpAnyH_ready (rs := [3]) (by kernel_rfl) (by simp) (AllReadyH.cons rfl (fun K hK => ?_) AllReadyH.nil)
              go_simp
              refine (V.toPlace a1_0 a1_1 a1_2 a1_3 _).mono ?_
              rintro e wb3 ⟨rfl, hbk⟩
              have HQB3 := Lib.hid (HQA2.out.trans (hbk.mono HQA2.out.size))
              have HDwb3 := Lib.hid (HDa.out.below hbk)
              have HRwb3 := Lib.hid (HRwa2.out.below hbk)
              clear hbk
              refine hK.out _ _ (HS0.out _ HQB3.out) (fun hHeld => ?_)
              clear hK K
              (try simp only [Act.put, List.setIfInBounds_toArray, List.set_cons_zero, List.set_cons_succ])
              refine wpAnyH_ready (rs := [4]) (by kernel_rfl) (by simp) (AllReadyH.cons rfl (fun K hK => ?_) AllReadyH.nil)
              go_simp
              refine (HSi.out _ _ _ _ (HDwb3.out)).mono ?_
              rintro e wc4 ⟨ra, rn, rc, rfl, ho, hbk⟩
              have HQC4 := Lib.hid (HQB3.out.trans (hbk.mono HQB3.out.size))
              have HDwc4 := Lib.hid (HDwb3.out.below hbk)
              have HRwc4 := Lib.hid (HRwb3.out.below hbk)
              have HO3 := Lib.hid ho
              have hy4 := Lib.hid hbk.size
              have hCle := Lib.hid (HQB3.out.size)
              have hblt : Hid (w_11.heap.size < (wb3).heap.size) := V.cell_lt HRwb3.out.1
              clear hbk ho
              refine hK.out _ _ (HS0.out _ HQC4.out) (fun hHeld => ?_)
              clear hK K
              (try simp only [Act.put, List.setIfInBounds_toArray, List.set_cons_zero, List.set_cons_succ])
              refine wpAnyH_take (i := 5) (v := ?v24_22) rfl (by kernel_rfl) (by kernel_rfl) (by kernel_rfl) (fun _ _ _ h => h) (Or.inl ⟨by rfl, ?hy24_22⟩) (by assumption) ?rest24_22
              case hy24_22 => (intro wy hSw; (try dsimp only at hSw); obtain ⟨s0, s1, s2, s3, s4, s5, s6⟩ := hSw; go_simp; try with_reducible rfl)
              (try simp only [Act.put, List.setIfInBounds_toArray, List.set_cons_zero, List.set_cons_succ])
              refine wpAnyH_take (i := 6) (v := ?v24_23) rfl (by kernel_rfl) (by kernel_rfl) (by kernel_rfl) (fun _ _ _ h => h) (Or.inl ⟨by rfl, ?hy24_23⟩) (by assumption) ?rest24_23
              case hy24_23 => (intro wy hSw; (try dsimp only at hSw); obtain ⟨s0, s1, s2, s3, s4, s5, s6⟩ := hSw; go_simp; try with_reducible rfl)
              (try simp only [Act.put, List.setIfInBounds_toArray, List.set_cons_zero, List.set_cons_succ])
              refine wpAnyH_take (i := 7) (v := ?v24_24) rfl (by kernel_rfl) (by kernel_rfl) (by kernel_rfl) (fun _ _ _ h => h) (Or.inl ⟨by rfl, ?hy24_24⟩) (by assumption) ?rest24_24
              case hy24_24 => (intro wy hSw; (try dsimp only at hSw); obtain ⟨s0, s1, s2, s3, s4, s5, s6⟩ := hSw; go_simp; try with_reducible rfl)
              (try simp only [Act.put, List.setIfInBounds_toArray, List.set_cons_zero, List.set_cons_succ])
              obtain ⟨kd0, kd1, kd2, kd3⟩ := HRwc4.out
              refine wpAnyH_ready (rs := [9]) (by kernel_rfl) (by simp) (AllReadyH.cons rfl (fun K hK => ?_) AllReadyH.nil)
              go_simp
              refine hK.out _ _ (HS0.out _ ((HQC4.out.setCell (p := ⟨w_11.heap.size, 0, none⟩) (Nat.le_refl _) _).setCell (p := ⟨w_11.heap.size, 1, none⟩) (Nat.le_refl _) _)) (fun hHeld => ?_)
              clear hK K
              (try simp only [Act.put, List.setIfInBounds_toArray, List.set_cons_zero, List.set_cons_succ])
              refine wpAnyH_ready (rs := [10]) (by kernel_rfl) (by simp) (AllReadyH.cons rfl (fun K hK => ?_) AllReadyH.nil)
              go_simp
              refine hK.out _ _ (HS0.out _ ((HQC4.out.setCell (p := ⟨w_11.heap.size, 0, none⟩) (Nat.le_refl _) _).setCell (p := ⟨w_11.heap.size, 1, none⟩) (Nat.le_refl _) _)) (fun hHeld => ?_)
              clear hK K
              (try simp only [Act.put, List.setIfInBounds_toArray, List.set_cons_zero, List.set_cons_succ])
              refine wpAnyH_done (by kernel_rfl) ?_ _
              go_wp2_with fail
              go_meet
              exact ⟨rfl, V.sRel_old HRwc4.out (Nat.le_refl _) hblt.out hy4.out HO3.out HQC4.out⟩
          case rest =>
            obtain ⟨w_12, hw_12⟩ : ∃ z, z = wc := ⟨_, rfl⟩
            subst hw_12
            obtain ⟨rfl, hS⟩ := hcut
            clear HS0
            clear HA1
            obtain ⟨hb, ha, hn1, hc, hB, hw, rfl, hbx, hs1, hB, hB2, hO, hz, hSm, hnb, hb⟩ := hS
            have z12 : w_11.heap.size ≤ w_12.heap.size := hb.size
            have HP_12 := Lib.hid (HP_11.out.trans (hb.mono (by omega)))
            have Ss_12 : Hid (V.Same w_1.heap.size w_2.heap.size w_2 w_12) := Ss_11.out.below hb (by omega)
            have SS_12 : Hid (V.Same w_1.heap.size w_2.heap.size w_2 w_12) := SS_11.out.below hb (by omega)
            have SG_12 : Hid (V.Same gb (gb + 1) w_5 w_12) := SG_11.out.below hb (by omega)
            have Sg_12 : Hid (V.Same gB w_10.heap.size w_10 w_12) := Sg_11.out.below hb (by omega)
            clear HP_11 Ss_11 SS_11 SG_11 Sg_11
            have HOh := Lib.hid ((hO.keep hSm).mono hB)
            have HOH := Lib.hid hbx
            have zxH := V.cell_lt hbx.1
            have hsH := hs1
            clear hO hSm hB hB2 hz hnb hb hbx hs1
            have Sh_12 : Hid (V.Same w_11.heap.size w_12.heap.size w_12 w_12) := V.Same.refl _ _ _
            have SH_12 : Hid (V.Same w_11.heap.size w_12.heap.size w_12 w_12) := V.Same.refl _ _ _
            obtain ⟨kH0, kH1⟩ := gsame HOH.out (SH_12.out hb (by omega) (by omega))
            obtain ⟨kS0, kS1⟩ := gsame HOS.out (SS_12.out sb (by omega) (by omega))
            go_wp2_with fail
            clear kH0 kH1 kS0 kS1
            refine (V.eqGraph r.1 _ _ _ _ _ _ _ _ ((HOh.out.keep Sh_12.out).pls) ((HOs.out.keep Ss_12.out).pls)).mono ?_
            rintro e w_13 ⟨rfl, hb⟩
            have z13 : w_12.heap.size ≤ w_13.heap.size := hb.size
            have HP_13 := Lib.hid (HP_12.out.trans (hb.mono (by omega)))
            have Ss_13 : Hid (V.Same w_1.heap.size w_2.heap.size w_2 w_13) := Ss_12.out.below hb (by omega)
            have SS_13 : Hid (V.Same w_1.heap.size w_2.heap.size w_2 w_13) := SS_12.out.below hb (by omega)
            have SG_13 : Hid (V.Same gb (gb + 1) w_5 w_13) := SG_12.out.below hb (by omega)
            have Sg_13 : Hid (V.Same gB w_10.heap.size w_10 w_13) := Sg_12.out.below hb (by omega)
            have Sh_13 : Hid (V.Same w_11.heap.size w_12.heap.size w_12 w_13) := Sh_12.out.below hb (by omega)
            have SH_13 : Hid (V.Same w_11.heap.size w_12.heap.size w_12 w_13) := SH_12.out.below hb (by omega)
            clear HP_12 Ss_12 SS_12 SG_12 Sg_12 Sh_12 SH_12
            clear hb
            obtain ⟨kG0, kG1⟩ := gsame HOG.out (SG_13.out gb (by omega) (by omega))
            go_wp2_with fail
            clear kG0 kG1
            refine (V.heldGraph r.1 _ _ _ 1 m _ ((HOg.out.keep Sg_13.out).pls) (by omega) (by omega) (by omega) HM.out).mono ?_
            rintro e w_14 ⟨rfl, hb⟩
            have z14 : w_13.heap.size ≤ w_14.heap.size := hb.size
            have HP_14 := Lib.hid (HP_13.out.trans (hb.mono (by omega)))
            have Ss_14 : Hid (V.Same w_1.heap.size w_2.heap.size w_2 w_14) := Ss_13.out.below hb (by omega)
            have SS_14 : Hid (V.Same w_1.heap.size w_2.heap.size w_2 w_14) := SS_13.out.below hb (by omega)
            have SG_14 : Hid (V.Same gb (gb + 1) w_5 w_14) := SG_13.out.below hb (by omega)
            have Sg_14 : Hid (V.Same gB w_10.heap.size w_10 w_14) := Sg_13.out.below hb (by omega)
            have Sh_14 : Hid (V.Same w_11.heap.size w_12.heap.size w_12 w_14) := Sh_13.out.below hb (by omega)
            have SH_14 : Hid (V.Same w_11.heap.size w_12.heap.size w_12 w_14) := SH_13.out.below hb (by omega)
            clear HP_13 Ss_13 SS_13 SG_13 Sg_13 Sh_13 SH_13
            clear hb
            go_wp2
            go_ret
            exact ⟨rfl, bt HW.out HP_14.out⟩
end Go.Proofs.Ytphobmddkphofaa.fnExactAddPlace
