/- Texts laid together: Cpi, Repeat, IBot, Hv1, Clp. -/
import Derived.Test.YtmcihaihbnnblaaGreatQz21
import Derived.Test.YtmcihaihbnnblaaGreatQz17
import Derived.Test.YtmcihaihbnnblaaGreatQz22
import Derived.Test.YtmcihaihbnnblaaGreatQz7
import Derived.Test.YtmcihaihbnnblaaGreatRows
import Derived.Test.YtmcihaihbnnblaaGreatQz1
import Derived.Test.YtmcihaihbnnblaaGreatQz2
import Derived.WalkKit
import Derived.ProofKit
import Derived.WalkSmall
import Derived.Deep.QuietTactic
import Derived.BigQuiet
import Derived.BigRegion
import Derived.Deep.Draws
import Derived.Lib.Hide
import Derived.OpenShut
import Derived.Deep.OwnRows
import Derived.Laws.CopyOwn
import Derived.Deep.RegionLaw
import Derived.IntWalk
import Derived.Maps.AppendAt
import Derived.StillTailTactics
import Derived.Deep.RegionHeld3
import Derived.Test.YtmcihaihbnnblaaGreatQz4
import Derived.Test.YtmcihaihbnnblaaGreatQz5
import Derived.Test.YtmcihaihbnnblaaGreatQz16
import Derived.Test.YtmcihaihbnnblaaGreatQz13
import Derived.Test.YtmcihaihbnnblaaGreatQz6
import Derived.Test.YtmcihaihbnnblaaGreatQz10
import Derived.Test.YtmcihaihbnnblaaGreatQz20
import Derived.Test.YtmcihaihbnnblaaGreatQz18
set_option linter.unusedSimpArgs false
set_option linter.unusedVariables false
set_option linter.unusedSectionVars false
namespace Go.Proofs.YtmcihaihbnnblaaGreat
namespace M
theorem kept_ids (L : List (List Int)) (p : List Int → Bool) (k : Nat) : kept (fun i => p (L.getD i [])) k = idsK L p k := rfl
theorem cut_crM {R : List (List Int)} {n : Nat} (hn : R.length = n) : mk n n (cutF (ent R) (crB R)) = crM R := by subst hn; rfl
theorem comps_one {A : Nat → Nat → Int} {n : Nat} (h : 1 ≤ n) : 1 ≤ (compsL A n).length := by
  obtain ⟨L, e, -⟩ := compsL_first (A := A) h
  rw [e]; simp
end M
namespace V
set_option maxRecDepth 100000
open Go.RowKit
set_option maxRecDepth 100000 in
set_option maxHeartbeats 1000000 in
theorem compDel (nb : Nat) (b3 : Option Addr) (N c3 : Nat) (ns : List Int) (ra : Option Addr) (m rc : Nat) (l : List Int) (t : Bool) (w : World) (hc : w.cell? ⟨nb, 0, none⟩ = some (.slice b3 N c3)) (hns : Ints .i64 w b3 N ns) (hl : Ints .i64 w ra m l) (hm : 1 ≤ m) (ht : M.hasB ns (l.getD 0 0) = t) :
    Calls Tryz.prog 170 #[.slice ra m rc, .pointer (some ⟨nb, 0, none⟩)] w fun e w' => e = .returned (.bool (!t)) ∧ ∃ q, w' = w.drewN q := by
  obtain ⟨q, qo, x0, hra, -, hx0, cx0⟩ := hl.at 0 (by omega)
  subst hra
  rw [Nat.add_zero] at cx0
  rw [← hx0] at ht
  have HC : Hid (∀ q, Calls Tryz.prog 108 #[.slice b3 N c3, .int .i64 x0] (w.drewN q) fun e w' => e = .returned (.bool t) ∧ (w.drewN q) = w') := fun q => containsI b3 N c3 ns x0 t _ (hns.below (b_draws _ _)) (by rw [← ht]; exact M.hasB_iff)
  have hm0 : (0 : Int) < (m : Int) := by omega
  clear hns hl hx0 ht
  go_enter Tryz.func170, Tryz.ntmps170
  go_wp2
  go_quiet ((go_at_call 108; exact q_one_s (HC.out _)))
  go_wp2
  go_ret
  exact ⟨rfl, _, rfl⟩
set_option maxRecDepth 100000 in
set_option maxHeartbeats 4000000 in
theorem criticalComponents (a : Option Addr) (n cap : Nat) (R : List (List Int)) (bm m : Nat) (w : World) (h : Mat w a n R) (hs : M.sqB R = true) (hI : IsArcs w bm n m (M.crB R)) (hm : m ≤ 100) :
    Calls Tryz.prog 91 #[.slice a n cap, .map (some bm)] w fun e w' => ∃ b mm c, e = .returned (.slice b mm c) ∧ OwnM w' w.heap.size (.slice b mm c) (M.crComps R) ∧ Below w.heap.size w w' := by
  have HA := Lib.hid h
  have HRn := Lib.hid h.1
  have HI := Lib.hid hI
  have hbl := hI.lt
  obtain ⟨hr, n1, n2, -⟩ := sq_parts h hs
  have HR := Lib.hid hr
  have HSm := Lib.hid (M.crM_sm hs h.1)
  have HRc : Hid (Rect (M.crM R) n n) := by show Rect _ _ _; rw [← h.1]; exact rect_mk _ _ _
  have HCut := Lib.hid (M.cut_crM h.1)
  clear h hs hr hI
  go_enter Tryz.func91, Tryz.ntmps91
  go_wp2_with fail
  refine (criticalNodes n m bm _ _ HI.out n2 hm).mono ?_
  rintro e w1 ⟨b1, c1, l, rfl, ho, ⟨ss, hl, hss⟩, hb⟩
  have hN : l = M.nodesL R := by rw [hl]; exact M.srt_nodes fun x => by rw [HRn.out]; exact hss x
  subst hN
  clear hl hss
  have HO1 := Lib.hid ho
  have HB1 := Lib.hid hb
  have hz1 := hb.size
  clear ho hb
  obtain ⟨wb, hwb⟩ : ∃ x, x = w1.alloc (.cells #[.slice b1 (M.nodesL R).length c1] 34) := ⟨_, rfl⟩
  have HX : Hid (wb.cell? ⟨w1.heap.size, 0, none⟩ = some (.slice b1 (M.nodesL R).length c1) ∧ wb.heap.size = w1.heap.size + 1 ∧ Below w1.heap.size w1 wb) := by
    show _ ∧ _
    rw [hwb]
    exact ⟨by simp [go_sem], by simp, b_alloc _ _⟩
  have HBb := Lib.hid (HB1.out.trans (HX.out.2.2.mono hz1))
  have hzb : w.heap.size ≤ wb.heap.size := HBb.out.size
  go_wp2_with fail
  rw [← hwb]
  clear hwb
  refine (criticalPart _ _ _ R bm m _ _ (HA.out.below HBb.out) HR.out n1 n2 (HI.out.below HBb.out hbl)).mono ?_
  rintro e w2 ⟨b2, c2, rfl, ho, hb⟩
  rw [HCut.out] at ho
  have HQ2 : Hid (Sq w2 b2 n (M.crM R)) := ⟨ho.mat, HRc.out, fun i j hi hj => M.sm_wide (HSm.out i j hi hj), n1, n2⟩
  have HB2 := Lib.hid hb
  have hz2 : wb.heap.size ≤ w2.heap.size := hb.size
  clear ho hb
  go_wp2_with fail
  refine (componentsOf _ _ _ (M.crM R) _ HQ2.out).mono ?_
  rintro e w3 ⟨b3, m3, c3, rfl, ho, hb⟩
  have hm3 := ho.len
  have hone := M.comps_one (A := M.ent (M.crM R)) n1
  have hln : (M.compsL (M.ent (M.crM R)) n).length ≤ n := M.compsP_len _ _ _
  have HRow := Lib.hid (fun k (hk : k < (M.compsL (M.ent (M.crM R)) n).length) => M.crRow HRn.out hk)
  have HEnd := Lib.hid (M.crComps_ids HRn.out)
  have HB3 := Lib.hid hb
  have hz3 : w2.heap.size ≤ w3.heap.size := hb.size
  obtain ⟨V, hV⟩ := ho
  have hcap : (M.compsL (M.ent (M.crM R)) n).length ≤ c3 := by
    obtain ⟨a', c', hv, hc, -⟩ := own_form hV.2.1
    injection hv with e1 e2 e3
    omega
  generalize M.compsL (M.ent (M.crM R)) n = L at *
  subst hm3
  obtain ⟨g, -, -, hg3, -⟩ := hV.cell 0 (by omega)
  subst hg3
  have hgB := own_lt hV.2.1 (k := g) rfl
  have HV := Lib.hid hV
  have HNd : Hid (Own w3 w.heap.size (.slice b1 (M.nodesL R).length c1) (M.nodesL R)) := by
    show Own _ _ _ _
    exact ((HO1.out.below HX.out.2.2).below (HB2.out)).below (HB3.out)
  have hcell3 : w3.cell? ⟨w1.heap.size, 0, none⟩ = some (.slice b1 (M.nodesL R).length c1) := by
    have hx2 := HX.out.2.1
    rw [HB3.out.cell (p := ⟨w1.heap.size, 0, none⟩) (by show w1.heap.size < _; omega), HB2.out.cell (p := ⟨w1.heap.size, 0, none⟩) (by show w1.heap.size < _; omega)]
    exact HX.out.1
  have HD := Lib.hid (deleteF w2.heap.size g L.length c3 (.pointer (some ⟨w1.heap.size, 0, none⟩)) V (fun i => M.crPick R (L.getD i [])) w3 (by omega) hV.2.1 hcap (fun k hk => by
      obtain ⟨g', ra, rc, -, hv, -⟩ := hV.cell k hk
      exact ⟨ra, _, rc, hv⟩) (fun W k hk hc => by
      obtain ⟨g', ra, rc, -, hv, -⟩ := hV.cell k hk
      have hro : Own W w2.heap.size (.slice ra (L.getD k []).length rc) (L.getD k []) := by
        rw [← hv]
        exact (hV.2.2.1 k hk).chg hc fun kk e1 e2 => hV.2.2.2.1 k hk kk e1 (by rw [e2]; rfl)
      have hno : Own W w.heap.size (.slice b1 (M.nodesL R).length c1) (M.nodesL R) := HNd.out.chg hc fun kk e1 e2 => by
        have h1 := own_lt HO1.out e1
        have hx2 := HX.out.2.1
        have e3 : kk = g := e2
        omega
      rw [hv]
      obtain ⟨r1, r2⟩ := HRow.out k hk
      refine compDel w1.heap.size b1 _ c1 (M.nodesL R) ra _ rc (L.getD k []) _ W ?_ hno.ints' hro.ints' r1 r2
      rw [← hcell3]
      have hx2 := HX.out.2.1
      exact World.cell?_of_block (hc.other w1.heap.size (by omega))))
  clear hV hcell3
  have hb3 : Below wb.heap.size wb w3 := HB2.out.trans (HB3.out.mono hz2)
  have HBz := Lib.hid (HBb.out.trans (hb3.mono hzb))
  clear hb3
  go_wp2_with fail
  refine (HD.out).mono ?_
  rintro e w4 ⟨rfl, ho, hc⟩
  rw [M.kept_ids] at ho ⊢
  have HP : Hid (OwnM w4 w.heap.size (.slice (some ⟨g, 0, none⟩) (M.idsK L (M.crPick R) L.length).length c3) (M.crComps R)) := by
    show OwnM _ _ _ _
    rw [← HEnd.out]
    refine OwnM.mono (B := w2.heap.size) ⟨_, OwnV.pick HV.out _ (M.idsK_up _ _ _) (fun i hi => M.idsK_lt hi) ho fun i kk hi e => ?_⟩ (by omega)
    have hlt := own_lt (HV.out.2.2.1 i hi) e
    have hne := HV.out.2.2.2.1 i hi kk e
    exact ⟨hc.other kk fun e2 => hne (by rw [e2]; rfl), hlt.1, hne⟩
  have HB4 := Lib.hid (HBz.out.trans (hc.below (B := w.heap.size) fun k hk => by have e3 : k = g := hk; omega))
  clear ho hc
  generalize (M.idsK L (M.crPick R) L.length).length = mm at *
  go_wp2
  go_ret
  exact ⟨_, _, _, rfl, HP.out, HB4.out⟩
set_option maxRecDepth 100000 in
set_option maxHeartbeats 1000000 in
theorem criticalComponentsX (a : Option Addr) (n cap : Nat) (R : List (List Int)) (w : World) (h : Mat w a n R) :
    Calls Tryz.prog 17 #[.slice a n cap] w (MRes (M.compRes R) w) := by
  have HA := Lib.hid h
  by_cases hc : M.crCode R = 0
  · obtain ⟨h1, h2⟩ := M.cr_code hc
    have H1 := Lib.hid h1
    have H2 := Lib.hid h2
    have HE : Hid (M.compRes R = (M.crComps R, 0)) := by show _ = _; unfold M.compRes; rw [if_pos hc]
    clear h hc h1 h2
    go_enter Tryz.func17, Tryz.ntmps17
    go_wp2_with fail
    refine (criticalArcs _ _ _ R _ HA.out H1.out H2.out).mono ?_
    rintro e w1 ⟨b1, m1, rfl, -, hm1, hI, hb⟩
    have HI := Lib.hid hI
    have HB := Lib.hid hb
    clear hI hb
    go_wp2_with fail
    refine (criticalComponents _ _ _ R _ _ _ (HA.out.below HB.out) H1.out HI.out hm1).mono ?_
    rintro e w2 ⟨b2, m2, c2, rfl, ho, hb⟩
    have HO := Lib.hid (ho.mono HB.out.size)
    have HB2 := Lib.hid (HB.out.trans (hb.mono HB.out.size))
    clear ho hb
    go_wp2
    go_ret2
    rw [HE.out]
    exact ⟨_, _, _, rfl, HO.out, HB2.out⟩
  · have HC := Lib.hid hc
    obtain ⟨k, hk⟩ : ∃ k, k = M.crCode R := ⟨_, rfl⟩
    have HE : Hid (M.compRes R = ([], k)) := by show _ = _; unfold M.compRes; rw [if_neg hc, hk]
    have HK := Lib.hid hk
    have hk0 : (k != 0) = true := by rw [hk]; simpa using hc
    clear h hc hk
    go_enter Tryz.func17, Tryz.ntmps17
    go_wp2_with fail
    refine (criticalArcs_no _ _ _ R _ HA.out HC.out).mono ?_
    rintro e w1 ⟨rfl, hb⟩
    rw [← HK.out]
    have HB := Lib.hid hb
    clear hb
    go_wp2
    go_ret2
    exact MRes.nil HE.out HB.out
end V
end Go.Proofs.YtmcihaihbnnblaaGreat

namespace Go.Proofs.YtmcihaihbnnblaaGreat.V
open Go.RowKit

set_option maxRecDepth 100000 in
set_option maxHeartbeats 1000000 in
theorem mul64 (n : Nat) (w : World) (h1 : 1 ≤ n) (h2 : n ≤ 10) : Calls Tryz.prog 257 #[.int .u64 1, .int .u64 n] w fun e w' => e = .returned (.tuple #[.int .u64 0, .int .u64 n]) ∧ w = w' := by
  have hn : n = 1 ∨ n = 2 ∨ n = 3 ∨ n = 4 ∨ n = 5 ∨ n = 6 ∨ n = 7 ∨ n = 8 ∨ n = 9 ∨ n = 10 := by omega
  clear h1 h2
  rcases hn with rfl | rfl | rfl | rfl | rfl | rfl | rfl | rfl | rfl | rfl
  all_goals
    go_enter Tryz.func257, Tryz.ntmps257
    go_wp2
    go_ret2
    exact ⟨rfl, rfl⟩

set_option maxRecDepth 100000 in
set_option maxHeartbeats 1000000 in
theorem mulU (n : Nat) (w : World) (h1 : 1 ≤ n) (h2 : n ≤ 10) : Calls Tryz.prog 253 #[.int .u64 1, .int .u64 n] w fun e w' => e = .returned (.tuple #[.int .u64 0, .int .u64 n]) ∧ w = w' := by
  go_enter Tryz.func253, Tryz.ntmps253
  go_wp2_with (first | (go_at_call 257; refine (mul64 _ _ h1 h2).mono ?_; rintro e w' ⟨rfl, rfl⟩))
  go_ret2
  exact ⟨rfl, rfl⟩

/-- A row of n integers of which the first k are x. -/
def repL (x : Int) (k n : Nat) : List Value := List.replicate k (.int .i64 x) ++ List.replicate (n - k) (.int .i64 0)
theorem repL_splice (x : Int) (k n m : Nat) (hk : k ≤ n) (hm : k + m ≤ n) : splice (repL x k n) k (List.replicate m (.int .i64 x)) = repL x (k + m) n := by
  unfold splice repL
  rw [List.take_left' (by simp), List.drop_append, List.length_replicate, List.length_replicate]
  have e1 : List.drop (k + m) (List.replicate k (Value.int IntKind.i64 x)) = [] := by simp
  rw [e1, List.nil_append, List.drop_replicate, ← List.append_assoc, List.replicate_append_replicate]
  congr 2
  omega
theorem repL_made (x : Int) (n : Nat) : (madeCells #[.int .i64 0] n) = (repL x 0 n).toArray := by
  apply Array.ext'
  rw [toList_madeCells_one]
  simp [repL]
theorem own_repL (w : World) (B g n : Nat) (x : Int) (hg : w.heap[g]? = some (.cells (repL x n n).toArray 2 (0, 0))) (hB : B ≤ g) (hn : n ≤ maxLen) : Own w B (.slice (some ⟨g, 0, none⟩) n n) ((List.range n).map fun _ => x) := by
  refine ⟨by simp, .inr ⟨g, n, _, by simp, hB, hg, by simp, hn, by simp [repL], ?_⟩⟩
  simp [repL]
  apply List.ext_getElem
  · simp
  · intro i h1 h2; simp

theorem one_cell {w : World} {a : Addr} {u : Value} (h : w.cell? a = some u) : ∀ j v, [u][j]? = some v → w.cell? (a.add j) = some v := by
  intro j v hj
  match j, hj with
  | 0, hj =>
    simp at hj
    subst hj
    simpa [Addr.add] using h
theorem one_one {x : Int} : ∀ v ∈ [Value.int IntKind.i64 x], v.oneCell' = true := by
  intro v hv; simp at hv; subst hv; rfl

theorem one_lit (w : World) (x : Int) : (w.alloc (.cells #[.int .i64 x] 2)).cell? ⟨w.heap.size, 0, none⟩ = some (.int .i64 x) := cell_one_new w (.int .i64 x) _ 0 _ rfl
theorem rep_one {x : Int} {m : Nat} : ∀ v ∈ List.replicate m (Value.int IntKind.i64 x), v.oneCell' = true := by
  intro v hv; rw [List.mem_replicate] at hv; rw [hv.2]; rfl
theorem rep_cells {w : World} {g k n m : Nat} {x : Int} {T : TypeId} (h : w.heap[g]? = some (.cells (repL x k n).toArray T (0, 0))) (hk : k ≤ n) (hm : m ≤ k) : ∀ j v, (List.replicate m (Value.int IntKind.i64 x))[j]? = some v → w.cell? ((⟨g, 0, none⟩ : Addr).add j) = some v := by
  intro j v hj
  rw [List.getElem?_replicate] at hj
  split at hj
  · next hlt =>
    injection hj with hj
    subst hj
    have e : (⟨g, 0, none⟩ : Addr).add j = ⟨g, j, none⟩ := by cases j <;> simp [Addr.add]
    rw [e]
    simp only [World.cell?, h]
    simp [repL, List.getElem?_append, show j < k by omega]
  · cases hj

set_option maxRecDepth 100000 in
set_option maxHeartbeats 1000000 in
theorem repeat1 (g n cap : Nat) (x : Int) (w : World) (h1 : 1 ≤ n) (h2 : n ≤ 10) (hc : w.cell? ⟨g, 0, none⟩ = some (.int .i64 x)) (hg : g < w.heap.size) :
    Calls Tryz.prog 243 #[.slice (some ⟨g, 0, none⟩) 1 cap, .int .i64 n] w fun e w' => e = .returned (.slice (some ⟨w.heap.size, 0, none⟩) n n) ∧ Own w' w.heap.size (.slice (some ⟨w.heap.size, 0, none⟩) n n) ((List.range n).map fun _ => x) ∧ Below w.heap.size w w' := by
  have hmk := run_make_row' (P := Tryz.prog) 34 2 (.int .i64 0) 8 Tryz.underlying34 info64 rfl .i64 .i64 n (by omega) (by omega)
  have HC := Lib.hid hc
  have hsz : (Tryz.prog.info? 2).map (·.size) = some 1 := by kernel_rfl
  have HS := Lib.hid hsz
  clear hc hsz
  go_enter Tryz.func243, Tryz.ntmps243
  go_wp2_with fail
  refine (mulU n _ h1 h2).mono ?_
  rintro e w' ⟨rfl, rfl⟩
  have hW1 : Hid ((w.alloc (.cells (madeCells #[.int .i64 0] n) 2)).heap[w.heap.size]? = some (.cells (repL x 0 n).toArray 2 (0, 0))) := by
    show _ = _
    rw [repL_made x n]
    show (w.heap.push _)[w.heap.size]? = _
    simp
  have hcell : Hid ((w.alloc (.cells (madeCells #[.int .i64 0] n) 2)).cell? ⟨g, 0, none⟩ = some (.int .i64 x)) := by
    show _ = _
    rw [(b_alloc w _).cell (p := ⟨g, 0, none⟩) hg]; exact HC.out
  go_wp2_with (with_reducible refine wpList_copy_splice rfl (.tmp 31) (.tmp 32) 34 34 rfl 2 Tryz.underlying34 HS.out (some ⟨w.heap.size, 0, none⟩) (some ⟨g, 0, none⟩) n n 1 cap rfl rfl w.heap.size 0 (repL x 0 n) 2 hW1.out [.int .i64 x] ?hn ?hpos ?hfit ?hone w.heap.size w (b_alloc w _) (Nat.le_refl _) ?_)
  case hn => exact (Nat.min_eq_left h1).symm
  case hpos =>
    intro j v hj
    match j, hj with
    | 0, hj =>
      simp at hj
      subst hj
      exact HC.out
  case hfit => simp [repL]; omega
  case hone => exact one_one
  intro w1 hg1 hb1
  have HG1 : Hid (w1.heap[w.heap.size]? = some (.cells (repL x 1 n).toArray 2 (0, 0))) := by
    have := hg1.out
    rw [show [Value.int .i64 x] = List.replicate 1 (.int .i64 x) from rfl, repL_splice x 0 n 1 (by omega) (by omega)] at this
    exact this
  have HB1 := Lib.hid hb1
  clear hg1 hb1 hW1 hcell
  go_wp2
  go_loopw [8] (fun i wr => ∃ k : Nat, 1 ≤ k ∧ k ≤ n ∧ i = .int .i64 k ∧ Hid (wr.heap[w.heap.size]? = some (.cells (repL x k n).toArray 2 (0, 0))) ∧ Below w.heap.size w wr) (fun i _ => n - (intOf i).toNat)
  case atStart => exact ⟨1, Nat.le_refl _, h1, rfl, HG1, HB1.out⟩
  case round =>
    obtain ⟨k, hk1, hk, rfl, HG, hb⟩ := hrel
    have HB := Lib.hid hb
    clear hb
    by_cases hlt : k < n
    · have hne : ¬ n = k := by omega
      have hki : (k : Int) < (n : Int) := by omega
      have hkn : k ≤ n := by omega
      go_wp2
      obtain ⟨m, hm⟩ : ∃ m, m = min k (n - k) := ⟨_, rfl⟩
      have hm1 : 1 ≤ m := by omega
      have hm2 : m ≤ k := by omega
      have hm3 : k + m ≤ n := by omega
      have HM := Lib.hid (rep_cells (x := x) HG.out hkn hm2)
      have HMm := Lib.hid hm
      have HN := Lib.hid (repL_splice x k n m hkn hm3)
      clear hm
      have hw : IntKind.i64.wrap ((k : Int) + (m : Int)) = (k : Int) + (m : Int) := IntWalk.i64_in _ (by omega)
      go_region_law (refine step_copy_splice rfl (.tmp 41) (.tmp 44) 34 34 rfl 2 Tryz.underlying34 HS.out (some ⟨w.heap.size, k, none⟩) (some ⟨w.heap.size, 0, none⟩) (n - k) (n - k) k n (by go_simp) (by go_simp) w.heap.size k (repL x k n) 2 HG.out (List.replicate m (.int .i64 x)) (by rw [List.length_replicate]; exact HMm.out) (fun _ => ⟨rfl, _, rfl, HM.out⟩) (by simp [repL]; omega) rep_one w.heap.size w HB.out.drew (Nat.le_refl _) ?_; intro w4 hg4 hb4)
      have HG4 : Hid (w4.heap[w.heap.size]? = some (.cells (repL x (k + m) n).toArray 2 (0, 0))) := by
        have := hg4.out
        rw [HN.out] at this
        exact this
      have HB4 := Lib.hid hb4
      clear hg4 hb4 hw
      go_simp
      go_wp2
      go_roundw
      case rel => exact ⟨k + m, by omega, by omega, vi (by omega), HG4, HB4.out⟩
      case measure => simp [intOf]; omega
    · obtain rfl : k = n := by omega
      go_wp2
      go_ret
      exact ⟨rfl, own_repL _ _ _ _ _ HG.out (Nat.le_refl _) (by unfold maxLen; omega), HB.out⟩
end Go.Proofs.YtmcihaihbnnblaaGreat.V

namespace Go.Proofs.YtmcihaihbnnblaaGreat.V
open Go.RowKit

set_option maxRecDepth 100000 in
set_option maxHeartbeats 1000000 in
theorem filled (m n : Nat) (x : Int) (w : World) (m1 : 1 ≤ m) (hm : m ≤ 10) (n1 : 1 ≤ n) (hn : n ≤ 10) :
    Calls Tryz.prog 215 #[.int .i64 m, .int .i64 n, .int .i64 x] w (MPost m (M.mk m n fun _ _ => x) w) := by
  have hmk := run_make_row' (P := Tryz.prog) 24 34 (.slice none 0 0) 24 Tryz.underlying24 infoS64 rfl .i64 .i64 m (by omega) (by omega)
  have hO0 : Hid (OwnM (w.alloc (.cells (madeCells #[.slice none 0 0] m) 34)) w.heap.size (.slice (some ⟨w.heap.size, 0, none⟩) m m) (List.replicate m [])) := ownM_made w _ m (Nat.le_refl _) (by unfold maxLen; omega)
  go_enter Tryz.func215, Tryz.ntmps215
  go_wp2
  clear hmk
  go_loopw [8, 13] (fun _ i wr => ∃ k : Nat, k ≤ m ∧ i = .int .i64 k ∧ OwnM wr w.heap.size (.slice (some ⟨w.heap.size, 0, none⟩) m m) ((List.range m).map fun j => if j < k then (List.range n).map (fun _ => x) else []) ∧ Below w.heap.size w wr) (fun _ i _ => m - (intOf i).toNat)
  case atStart =>
    refine ⟨0, Nat.zero_le _, rfl, (congrArg (OwnM _ _ _) ?_).mp hO0.out, b_alloc _ _⟩
    apply List.ext_getElem
    · simp
    · intro i h1 h2; simp
  case round =>
    obtain ⟨k, hk, rfl, hO, hb⟩ := hrel
    have HO := Lib.hid hO
    have HB := Lib.hid hb
    clear hO hb hO0
    by_cases hlt : k < m
    · have hki : (k : Int) < (m : Int) := by omega
      have hg := HO.out.lt rfl
      have hlit := one_lit wr x
      go_wp2_with fail
      refine (repeat1 wr.heap.size n 1 x _ n1 hn hlit (by simp)).mono ?_
      rintro e w1 ⟨rfl, ho1, hb1⟩
      have hb1' : Below wr.heap.size wr w1 := (b_alloc wr _).trans (hb1.mono (by simp))
      rw [show (wr.alloc (.cells #[.int .i64 x] 2)).heap.size = wr.heap.size + 1 by simp] at ho1
      have ho1' := ho1.mono (Nat.le_succ _)
      have hst : ∃ v, w1.cell? ⟨w.heap.size, k, none⟩ = some v := by
        obtain ⟨v, hv⟩ := HO.out.outer k hlt
        exact ⟨v, by rw [hb1'.cell (p := ⟨w.heap.size, k, none⟩) hg]; exact hv⟩
      obtain ⟨v, hst⟩ := hst
      have hfz : w1.frozen? ⟨w.heap.size, k, none⟩ = false := by rw [hb1'.frozen (p := ⟨w.heap.size, k, none⟩) hg]; exact HO.out.outerFz k
      have HN := Lib.hid (HO.out.setRow hb1' HB.out.size ho1' k hlt)
      have HB1 := Lib.hid (bnext HB.out hb1')
      clear ho1 hb1 hg hlit hb1' ho1'
      go_wp2
      go_roundw
      case rel =>
        refine ⟨k + 1, by omega, by go_num, ?_, HB1.out.setCell (Nat.le_refl _) _⟩
        refine (congrArg (OwnM _ _ _) ?_).mp HN.out
        apply List.ext_getElem
        · simp
        · intro j h1 h2
          simp only [List.length_map, List.length_range] at h2
          rw [List.getElem_set]
          simp only [List.getElem_map, List.getElem_range]
          by_cases e : k = j
          · subst e; rw [if_pos rfl, if_pos (by omega)]
          · rw [if_neg e]
            by_cases e2 : j < k
            · rw [if_pos e2, if_pos (by omega)]
            · rw [if_neg e2, if_neg (by omega)]
      case measure => simp [intOf]; omega
    · have hkn : k = m := by omega
      subst hkn
      go_wp2
      go_ret
      refine ⟨_, _, rfl, (congrArg (OwnM _ _ _) ?_).mp HO.out, HB.out⟩
      unfold M.mk
      exact List.map_congr_left fun j hj => by rw [if_pos (List.mem_range.1 hj)]

end Go.Proofs.YtmcihaihbnnblaaGreat.V

namespace Go.Proofs.YtmcihaihbnnblaaGreat.V
open Go.RowKit

theorem OwnM.caps {w : World} {B n cap : Nat} {a : Option Addr} {R : List (List Int)} (h : OwnM w B (.slice a n cap) R) : n ≤ cap ∧ cap ≤ maxLen := by
  obtain ⟨V, h1, h2, _⟩ := h
  obtain ⟨a', c', hv, k1, k2, _⟩ := own_form h2
  injection hv with e1 e2 e3
  subst e2 e3
  exact ⟨k1, k2⟩
/-- One row of an owned matrix, as a list of its own. -/
theorem OwnM.row {w : World} {B n cap : Nat} {a : Option Addr} {R : List (List Int)} (h : OwnM w B (.slice a n cap) R) (i : Nat) (hi : i < n) :
    ∃ g ra rc, a = some ⟨g, 0, none⟩ ∧ w.cell? ⟨g, i, none⟩ = some (.slice ra (R.getD i []).length rc) ∧ Own w B (.slice ra (R.getD i []).length rc) (R.getD i []) := by
  have hl := h.len
  obtain ⟨V, h1, h2, h3, h4, h5⟩ := h
  obtain ⟨a', c', hv, hc, hm, hg⟩ := own_form h2
  injection hv with e1 e2 e3
  subst e1 e2 e3
  obtain ⟨g, rfl, hB, hlt⟩ := hg (by omega)
  have hr := h3 i (by omega)
  obtain ⟨ra, rc, hrv, _⟩ := own_form hr
  rw [hrv] at hr
  refine ⟨g, ra, rc, rfl, ?_, hr⟩
  rw [World.ownsRow.cellAt h2 i (by omega), ← hrv]
  simp [show i < V.length by omega]
theorem ownM_lit1 (w : World) (B : Nat) (hB : B ≤ w.heap.size) {rv : Value} {l : List Int} (ho : Own w B rv l) : OwnM (w.alloc (.cells #[rv] 34)) B (.slice (some ⟨w.heap.size, 0, none⟩) 1 1) [l] := by
  refine ⟨[rv], rfl, World.ownsRow_lit w #[rv] 1 hB (by decide) rfl, fun i hi => ?_, fun i hi k hk => ?_, fun i j hi hj hne => ?_⟩
  · obtain rfl : i = 0 := by simp at hi; omega
    exact ho.below (b_alloc w _)
  · obtain rfl : i = 0 := by simp at hi; omega
    have := (own_lt ho hk).2
    intro e
    simp only [Value.ownBlock, Option.some.injEq] at e
    omega
  · simp at hi hj; omega
/-- A part of one row. -/
theorem mat_sub {w : World} {b off n : Nat} {R : List (List Int)} (h : Mat w (some ⟨b, off, none⟩) n R) (k : Nat) (hk : k < n) : Mat w (some ⟨b, off + k, none⟩) 1 [R.getD k []] := by
  obtain ⟨h1, h2, h3⟩ := h
  refine ⟨rfl, by decide, .inr ?_⟩
  rcases h3 with h3 | ⟨b', off', e, hlt, hc⟩
  · omega
  · injection e with e
    injection e with e1 e2
    subst e1 e2
    refine ⟨b, off + k, rfl, hlt, fun i hi => ?_⟩
    obtain rfl : i = 0 := by omega
    obtain ⟨ra, rc, hr, hI⟩ := hc k hk
    exact ⟨ra, rc, hr, hI⟩
/-- The weights to a node, one row for each number of arcs. -/
def M.wtM (A : Nat → Nat → Int) (n t k : Nat) : List (List Int) := M.mk k n fun s j => M.cpw A n s t j
theorem M.wt_row (A : Nat → Nat → Int) (n t k s : Nat) (h : s < k) : (M.wtM A n t k).getD s [] = (List.range n).map fun j => M.cpw A n s t j := M.mk_row _ _ _ _ h
theorem M.wt_next (R : List (List Int)) (n t s : Nat) : (M.mk 1 n (fun i j => M.dot [(List.range n).map fun j => M.cpw (M.ent R) n s t j] R i j n)).getD 0 [] = (List.range n).map fun j => M.cpw (M.ent R) n (s + 1) t j := by
  rw [M.mk_row _ _ _ _ (by omega)]
  refine List.map_congr_left fun j _ => ?_
  unfold M.dot
  refine M.sumN_congr fun u hu => ?_
  congr 1
  unfold M.ent
  simp [hu]


end Go.Proofs.YtmcihaihbnnblaaGreat.V

namespace Go.Proofs.YtmcihaihbnnblaaGreat
namespace V
set_option maxRecDepth 100000
open Go.RowKit
theorem row_nil (w : World) (B : Nat) : w.ownsRow B 34 1 (.slice none 0 0) 0 [] := ⟨rfl, .inl ⟨rfl, rfl⟩⟩
set_option maxRecDepth 100000 in
set_option maxHeartbeats 1000000 in
theorem eigenColumns (a : Option Addr) (n cap : Nat) (R : List (List Int)) (w : World) (h : Mat w a n R) :
    Calls Tryz.prog 14 #[.slice a n cap] w (MRes (M.colsRes R) w) := by
  have HA := Lib.hid h
  by_cases hk : M.crCode R = 0
  · obtain ⟨hs, hc⟩ := M.cr_code hk
    have hRn : R.length = n := h.1
    have HRn := Lib.hid hRn
    have HQ := Lib.hid (sq_of h hs)
    have HCr : Hid (M.compRes R = (M.crComps R, 0)) := by show _ = _; unfold M.compRes; rw [if_pos hk]
    have HE : Hid (M.colsRes R = if (M.colsL R).all M.isVec then (M.colsL R, 0) else ([], 3)) := by show _ = _; unfold M.colsRes; rw [if_pos hk]
    obtain ⟨hr, n1, n2, hsm⟩ := sq_parts h hs
    have HR := Lib.hid hr
    have HSm := Lib.hid hsm
    obtain ⟨hnear, -, hp⟩ := M.cr_t hs hc
    have hS : M.crS R = M.shf (M.ent R) (M.bestR (M.ent R) n).1 (M.bestR (M.ent R) n).2 := by
      funext i j; unfold M.crS; rw [hRn]
    have HCol := Lib.hid (fun k (hk : k < (M.crComps R).length) => M.col_at hRn hk)
    have HCl := Lib.hid (M.colsL_len R)
    have HCm : Hid ((M.crComps R).length ≤ n) := by show _; rw [← hRn]; exact M.crComps_len R
    have HMt := Lib.hid (M.cols_mat hs hc)
    have HUp := Lib.hid (M.colIds_up R)
    have HLt : Hid (∀ i, i ∈ M.colIds R → i < n) := fun i hi => by rw [← hRn]; exact M.colIds_lt hi
    have HCd : Hid (M.colsL R = (M.colIds R).map fun i => (M.stcM (M.crS R) n).getD i []) := by show _ = _; unfold M.colsL; rw [hRn]
    have HIl : Hid ((M.colIds R).length = (M.crComps R).length) := by show _ = _; unfold M.colIds; simp
    rw [hRn] at hc hnear hp
    obtain ⟨r, hrr⟩ : ∃ r, r = M.bestR (M.ent R) n := ⟨_, rfl⟩
    rw [← hrr] at hnear hS
    rw [hS] at hp
    have HSe := Lib.hid hS
    have HNear := Lib.hid hnear
    have HP := Lib.hid hp
    have HRr := Lib.hid hrr
    have HCy := Lib.hid hc
    obtain ⟨r1, r2⟩ := r
    clear h hk hs hr hsm hc hnear hp hrr hS hRn
    go_enter Tryz.func14, Tryz.ntmps14
    go_wp2_with fail
    refine (criticalComponentsX _ _ _ R _ HA.out).mono ?_
    rintro e w1 ⟨b1, m1, c1, rfl, ho, hb⟩
    rw [HCr.out] at ho ⊢
    have HM1 : Hid (m1 = (M.crComps R).length) := ho.len
    have HL1 : Hid (Mat w1 b1 m1 (M.crComps R)) := ho.mat
    have HB1 := Lib.hid hb
    clear ho hb
    go_wp2_with fail
    refine (powerMean _ _ _ R _ ⟨HA.out.below HB1.out, HQ.out.2.1, HQ.out.2.2.1, n1, n2⟩ HSm.out HCy.out).mono ?_
    rintro e w2 ⟨rfl, hb⟩
    rw [← HRr.out]
    have HL2 := Lib.hid (HL1.out.below hb)
    have HB2 := Lib.hid (HB1.out.trans (hb.mono HB1.out.size))
    clear hb HL1
    go_wp2_with fail
    refine (starColumns _ _ _ R r1 r2 _ (HA.out.below HB2.out) HR.out n1 n2 HSm.out HNear.out HP.out).mono ?_
    rintro e w3 ⟨b3, c3, rfl, ho, hb⟩
    rw [← HSe.out] at ho
    obtain ⟨g3, ra3, rc3, rfl, -⟩ := ho.row 0 (by omega)
    obtain ⟨V, hV⟩ := ho
    have hVl : (M.stcM (M.crS R) n).length = n := (M.rect_stc _ _).1
    have HTl : Hid (∀ c, c < n → ((M.stcM (M.crS R) n).getD c []).length = n) := fun c hc => (M.rect_stc _ _).2 c hc
    have HV3 := Lib.hid hV
    have HL3 := Lib.hid (HL2.out.below hb)
    have HB3 := Lib.hid (HB2.out.trans (hb.mono HB2.out.size))
    have hz2 := HB2.out.size
    have hcl := HCl.out
    have hcm := HCm.out
    have hil := HIl.out
    clear hb hV HL2
    rw [← HM1.out] at hcl hcm hil
    have HIm := Lib.hid hil
    clear hcl hil
    generalize M.stcM (M.crS R) n = T at *
    generalize M.crComps R = LC at *
    generalize hLn : M.colsL R = LN at *
    clear hLn
    generalize hids : M.colIds R = ids at *
    clear hids
    go_wp2
    go_loopw [7, 9, 25] (fun o _ kv wr => ∃ (k : Nat) (b : Option Addr) (c : Nat), k ≤ m1 ∧ kv = .int .i64 k ∧ o = .slice b k c ∧ Hid (wr.ownsRow w3.heap.size 34 1 (.slice b k c) k ((ids.take k).map fun i => V.getD i (.slice none 0 0))) ∧ Hid (Below w3.heap.size w3 wr)) (fun _ _ kv _ => m1 - (intOf kv).toNat)
    case atStart => exact ⟨0, none, 0, Nat.zero_le _, rfl, rfl, row_nil _ _, Below.refl _ _⟩
    case round =>
      obtain ⟨k, b, c, hk, rfl, rfl, HO, HB⟩ := hrel
      obtain ⟨wo, rfl⟩ : ∃ x, x = wr := ⟨_, rfl⟩
      by_cases hkl : k < m1
      · have hki : (k : Int) < (m1 : Int) := by omega
        obtain ⟨cc, hcc, hlen, hfst, -, hids⟩ := HCol.out k (by have := HM1.out; omega)
        obtain ⟨gb, go_, rb, ro, L7, rc7, x7, hb6, hL7, hx7, q1, q2⟩ := (HL3.out.below HB.out).ent k 0 hkl (by omega)
        subst hb6
        rw [Nat.add_zero] at q2
        have hx8 : x7 = (cc : Int) := by rw [hx7]; exact hfst
        subst hx8
        obtain ⟨g7, ra7, rc8, hgg, hvv, hcr, -⟩ := (HV3.out.below HB.out).cell cc hcc
        injection hgg with hgg
        injection hgg with hgg
        subst hgg
        rw [HTl.out cc hcc] at hvv hcr
        have HVv := Lib.hid hvv
        have HIx := Lib.hid hids
        have hci : (cc : Int) < (n : Int) := by omega
        have hL0 : (0 : Int) < (L7 : Int) := by omega
        clear hx7 hfst hL7 hids hvv hlen
        go_wp2_with (at_builtin; refine appendVal wo rfl (.tmp 29) (.tmp 36) rfl w3.heap.size _ _ ra7 n rc8 _ rfl HO.out rfl (by omega) HB.out.size ?_)
        intro b4 c4 w8 hO4 hb4 _
        have HO8 := Lib.hid hO4
        have HB8 := Lib.hid (HB.out.trans hb4)
        clear hO4 hb4
        go_wp2
        go_roundw
        case rel => exact ⟨k + 1, b4, c4, by omega, by go_num, rfl, by show World.ownsRow _ _ _ _ _ _ _; rw [HIx.out, List.map_append]; have := HO8.out; rw [← HVv.out] at this; (try rw [← List.map_take] at this); exact this, HB8⟩
        case measure => simp [intOf]; omega
      · obtain rfl : k = m1 := by omega
        have hta : ids.take k = ids := List.take_of_length_le (by have := HIm.out; omega)
        have HOf : Hid (OwnM wo w2.heap.size (.slice b k c) LN) := by
          show OwnM _ _ _ _
          rw [HCd.out]
          have ho := HO.out
          rw [hta] at ho
          refine ⟨_, OwnV.pick HV3.out _ HUp.out (fun i hi => by rw [hVl]; exact HLt.out i hi) (by rw [HIm.out]; exact World.ownsRow.mono ho (by have h1 := own_lt HV3.out.2.1 (k := g3) rfl; omega)) fun i kk hi e => ?_⟩
          have hlt := own_lt (HV3.out.2.2.1 i hi) e
          refine ⟨HB.out.block kk (by omega), by omega, fun e2 => ?_⟩
          have := own_lt ho e2
          omega
        obtain ⟨bv, hbv⟩ : ∃ x, x = LN.all M.isVec := ⟨_, rfl⟩
        have HBv := Lib.hid hbv
        have HMb : Hid (M.isMat LN = bv) := HMt.out.trans hbv.symm
        clear hta hbv HO
        have HBf := Lib.hid (HB3.out.trans (HB.out.mono HB3.out.size))
        cases bv with
        | false =>
          have HCi : Hid (Calls Tryz.prog 80 #[.slice b k c] wo fun e w' => e = .returned (.bool false) ∧ wo = w') := isMatrix_b _ _ _ LN _ false HMb.out HOf.out.mat
          go_wp2_with fail
          refine (HCi.out).mono ?_
          rintro e w' ⟨rfl, rfl⟩
          go_wp2
          go_ret2
          exact MRes.nil (by rw [HE.out, ← HBv.out]; rfl) HBf.out
        | true =>
          have HCi : Hid (Calls Tryz.prog 80 #[.slice b k c] wo fun e w' => e = .returned (.bool true) ∧ wo = w') := isMatrix_b _ _ _ LN _ true HMb.out HOf.out.mat
          go_wp2_with fail
          refine (HCi.out).mono ?_
          rintro e w' ⟨rfl, rfl⟩
          go_wp2
          go_ret2
          rw [HE.out, ← HBv.out]
          exact ⟨_, _, _, rfl, HOf.out.mono hz2, HBf.out⟩
  · obtain ⟨k, hkk⟩ : ∃ k, k = M.crCode R := ⟨_, rfl⟩
    have HE : Hid (M.colsRes R = ([], k)) := by show _ = _; unfold M.colsRes; rw [if_neg hk, hkk]
    have HCr : Hid (M.compRes R = ([], k)) := by show _ = _; unfold M.compRes; rw [if_neg hk, hkk]
    have hk0 : (k != 0) = true := by rw [hkk]; simpa using hk
    clear h hk hkk
    go_enter Tryz.func14, Tryz.ntmps14
    go_wp2_with fail
    refine (criticalComponentsX _ _ _ R _ HA.out).mono ?_
    rintro e w1 ⟨b1, m1, c1, rfl, ho, hb⟩
    rw [HCr.out]
    have HB := Lib.hid hb
    clear ho hb
    go_wp2
    go_ret2
    exact MRes.nil HE.out HB.out
end V
end Go.Proofs.YtmcihaihbnnblaaGreat
