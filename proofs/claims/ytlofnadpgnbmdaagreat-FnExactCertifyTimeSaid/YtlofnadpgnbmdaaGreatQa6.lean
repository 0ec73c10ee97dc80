/- Texts laid together: Apply. -/
import Derived.Test.YtlofnadpgnbmdaaGreatRows
import Derived.Test.YtlofnadpgnbmdaaGreatQa1
import Derived.Test.YtlofnadpgnbmdaaGreatQa2
import Derived.WalkKit
import Derived.ProofKit
import Derived.WalkSmall
import Derived.Deep.QuietTactic
import Derived.BigQuiet
import Derived.BigRegion
import Derived.Deep.Draws
import Derived.Lib.Hide
import Derived.OpenShut
import Derived.Deep.OwnRows
import Derived.Test.YtlofnadpgnbmdaaGreatQa3
import Derived.Test.YtlofnadpgnbmdaaGreatQa4
import Derived.Test.YtlofnadpgnbmdaaGreatQa5
import Derived.StillTailTactics
set_option linter.unusedSimpArgs false
set_option linter.unusedVariables false
set_option linter.unusedSectionVars false
namespace Go.Proofs.YtlofnadpgnbmdaaGreat.V
open Go.RowKit

/-- A new vector and a code. -/
def VRes (r : List Int × Int) (w : World) (e : Ending) (w' : World) : Prop :=
  ∃ a n cap, e = .returned (.tuple #[.slice a n cap, .int .i64 r.2]) ∧ Own w' w.heap.size (.slice a n cap) r.1 ∧ Below w.heap.size w w'
theorem VRes.nil {r : List Int × Int} {c : Int} {w w' : World} (hr : r = ([], c)) (hb : Below w.heap.size w w') : VRes r w (.returned (.tuple #[.slice none 0 0, .int .i64 c])) w' := by
  subst hr
  exact ⟨none, 0, 0, rfl, own_nil _ _, hb⟩

theorem ints_vec {w : World} {a : Option Addr} {n : Nat} {l : List Int} (h : Ints .i64 w a n l) (hv : M.isVec l = true) : 1 ≤ n ∧ n ≤ 10 := by
  obtain ⟨h1, h2, -⟩ := M.isVec_t hv
  rw [h.1] at h1 h2
  exact ⟨h1, h2⟩
theorem isVector_b (a : Option Addr) (n cap : Nat) (l : List Int) (w : World) (b : Bool) (hb : M.isVec l = b) (h : Ints .i64 w a n l) :
    Calls Tryz.prog 105 #[.slice a n cap] w fun e w' => e = .returned (.bool b) ∧ w = w' := by
  subst hb
  exact isVector _ _ _ _ _ h
theorem checkedVector_t (a : Option Addr) (n cap : Nat) (l : List Int) (w : World) (hb : M.isVec l = true) (h : Ints .i64 w a n l) :
    Calls Tryz.prog 118 #[.slice a n cap] w fun e w' => e = .returned (.tuple #[.slice a n cap, .int .i64 0]) ∧ w = w' := by
  have HA := Lib.hid h
  have HB := Lib.hid hb
  clear h hb
  go_enter Tryz.func118, Tryz.ntmps118
  go_wp2_with (go_at_call 105; refine (isVector_b _ _ _ l _ true HB.out HA.out).mono ?_; rintro e w' ⟨rfl, rfl⟩)
  go_ret2
  exact ⟨rfl, rfl⟩
theorem checkedVector_f (a : Option Addr) (n cap : Nat) (l : List Int) (w : World) (hb : M.isVec l = false) (h : Ints .i64 w a n l) :
    Calls Tryz.prog 118 #[.slice a n cap] w fun e w' => e = .returned (.tuple #[.slice none 0 0, .int .i64 3]) ∧ w = w' := by
  have HA := Lib.hid h
  have HB := Lib.hid hb
  clear h hb
  go_enter Tryz.func118, Tryz.ntmps118
  go_wp2_with (go_at_call 105; refine (isVector_b _ _ _ l _ false HB.out HA.out).mono ?_; rintro e w' ⟨rfl, rfl⟩)
  go_ret2
  exact ⟨rfl, rfl⟩

/-- A matrix of one row that is not its own. -/
theorem mat_one (w : World) (a : Option Addr) (n cap : Nat) (l : List Int) (h : Ints .i64 w a n l) : Mat (w.alloc (.cells #[.slice a n cap] 43)) (some ⟨w.heap.size, 0, none⟩) 1 [l] := by
  refine ⟨rfl, by decide, .inr ⟨_, _, rfl, by simp, fun i hi => ?_⟩⟩
  obtain rfl : i = 0 := by omega
  have hc := cell_one_new w (.slice a n cap) 43 0 _ rfl
  refine ⟨a, cap, ?_, ?_⟩
  · show _ = some (Value.slice a l.length cap)
    rw [h.1]; exact hc
  · show Ints _ _ _ l.length l
    rw [h.1]; exact h.below (b_alloc w _)

/-- The first row of an owned matrix. -/
theorem OwnM.row0 {w : World} {B n cap : Nat} {a : Option Addr} {R : List (List Int)} (h : OwnM w B (.slice a n cap) R) (hn : 0 < n) :
    ∃ g ra rc, a = some ⟨g, 0, none⟩ ∧ w.cell? ⟨g, 0, none⟩ = some (.slice ra (R.getD 0 []).length rc) ∧ Own w B (.slice ra (R.getD 0 []).length rc) (R.getD 0 []) := by
  have hl := h.len
  obtain ⟨V, h1, h2, h3, h4, h5⟩ := h
  obtain ⟨a', c', hv, hc, hm, hg⟩ := own_form h2
  injection hv with e1 e2 e3
  subst e1 e2 e3
  obtain ⟨g, rfl, hB, hlt⟩ := hg (by omega)
  have hr := h3 0 (by omega)
  obtain ⟨ra, rc, hrv, _⟩ := own_form hr
  rw [hrv] at hr
  refine ⟨g, ra, rc, rfl, ?_, hr⟩
  rw [World.ownsRow.cellAt h2 0 (by omega), ← hrv]
  simp [show 0 < V.length by omega]

/-- The column of a vector. -/
def M.colM (l : List Int) (n : Nat) : List (List Int) := M.mk n 1 (fun i _ => l.getD i 0)
theorem M.colM_ok {l : List Int} {n : Nat} (hv : M.isVec l = true) (hl : l.length = n) : M.isMat (M.colM l n) = true := by
  obtain ⟨h1, h2, h3⟩ := M.isVec_t hv
  exact M.isMat_mk (by omega) (by omega) (Nat.le_refl _) (by omega) (fun i hi _ _ => h3 i (by omega))
theorem M.dot_col {R : List (List Int)} {l : List Int} {n i k : Nat} (hk : k ≤ n) : M.dot R (M.colM l n) i 0 k = M.dotV R l i k := by
  unfold M.dot M.dotV
  refine M.sumN_congr fun t ht => ?_
  rw [M.colM, M.ent_mk _ _ _ _ _ (by omega) (by omega)]

set_option maxRecDepth 100000 in
set_option maxHeartbeats 4000000 in
theorem timesColumn (a : Option Addr) (n cap : Nat) (R : List (List Int)) (a' : Option Addr) (N cap' : Nat) (l : List Int) (w : World) (h : Mat w a n R) (h' : Ints .i64 w a' N l) (hr : Rect R n N) (hR : ∀ i k, i < n → k < N → M.Big (M.ent R i k)) (hl : ∀ k, k < N → M.Big (l.getD k 0)) (m1 : 1 ≤ n) (m2 : n ≤ 10) (c1 : 1 ≤ N) (c2 : N ≤ 10) :
    Calls Tryz.prog 119 #[.slice a n cap, .slice a' N cap'] w fun e w' => ∃ b c, e = .returned (.slice b n c) ∧ Own w' w.heap.size (.slice b n c) (M.applyM R l) ∧ Below w.heap.size w w' := by
  have HA := Lib.hid h
  have HI := Lib.hid h'
  have HR := Lib.hid hR
  have HT := Lib.hid hr
  have HC : Hid (∀ i k, i < N → k < 1 → M.Big (M.ent (M.colM l N) i k)) := fun i k hi hk => by
    unfold M.colM
    rw [M.ent_mk _ _ _ _ _ hi hk]; exact hl i hi
  have HCT : Hid (Rect (M.colM l N) N 1) := rect_mk _ _ _
  have H1T : Hid (Rect [l] 1 N) := ⟨rfl, fun i hi => by obtain rfl : i = 0 := by omega
                                                        exact h'.1⟩
  have HE1 : Hid (M.mk N 1 (fun i j => M.ent [l] j i) = M.colM l N) := by
    show _ = _
    unfold M.colM
    exact M.mk_congr fun i _ j hj => by obtain rfl : j = 0 := by omega
                                        rfl
  have HE2 : Hid ((M.mk 1 n (fun i j => M.ent (M.mk n 1 (fun i j => M.dot R (M.colM l N) i j N)) j i)).getD 0 [] = M.applyM R l) := by
    show _ = _
    rw [M.mk_row _ _ _ _ (by omega)]
    unfold M.applyM
    rw [h.1]
    refine List.map_congr_left fun j hj => ?_
    rw [M.ent_mk _ _ _ _ _ (List.mem_range.1 hj) (by omega), M.dot_col (Nat.le_refl _), h'.1]
  have HAL : Hid ((M.applyM R l).length = n) := by show _ = _; unfold M.applyM; simp [h.1]
  clear h h' hR hl hr
  go_enter Tryz.func119, Tryz.ntmps119
  go_wp2_with fail
  refine (transposed _ _ _ N [l] _ (mat_one w _ _ _ l HI.out) H1T.out (by omega) (by omega) c1 c2).mono ?_
  rintro e w1 ⟨a1, cap1, rfl, ho1, hb1⟩
  rw [HE1.out] at ho1
  have HB1 := Lib.hid (bel1 hb1)
  have HO1 := Lib.hid ho1
  clear ho1 hb1
  go_wp2_with fail
  refine (maxPlus _).mono ?_
  rintro e w2 ⟨rfl, hb2⟩
  have HB2 := Lib.hid (bnext HB1.out hb2)
  have HO2 := Lib.hid (HO1.out.below hb2)
  clear hb2
  go_wp2_with fail
  refine (multipliedB _ _ _ N R _ _ 1 (M.colM l N) _ (HA.out.below HB2.out) HO2.out.mat HT.out HCT.out HR.out HC.out m1 m2 c1 c2 (by omega) (by omega)).mono ?_
  rintro e w3 ⟨a3, cap3, rfl, ho3, hb3⟩
  have HB3 := Lib.hid (bnext HB2.out hb3)
  have HO3 := Lib.hid ho3
  clear ho3 hb3
  go_wp2_with fail
  refine (transposed _ _ _ 1 _ _ HO3.out.mat (rect_mk _ _ _) m1 m2 (by omega) (by omega)).mono ?_
  rintro e w4 ⟨a4, cap4, rfl, ho4, hb4⟩
  have HB4 := Lib.hid (bnext HB3.out hb4)
  obtain ⟨g, rr, rrc, rfl, hcr, hor⟩ := ho4.row0 (by omega)
  rw [HE2.out, HAL.out] at hcr hor
  have HOR := Lib.hid (hor.mono (show w.heap.size ≤ w3.heap.size from HB3.out.size))
  clear ho4 hb4 hor
  go_wp2
  go_ret
  exact ⟨_, _, rfl, HOR.out, HB4.out⟩



set_option maxRecDepth 100000 in
set_option maxHeartbeats 4000000 in
theorem sApplyB (a : Option Addr) (n cap : Nat) (R : List (List Int)) (a' : Option Addr) (N cap' : Nat) (l : List Int) (w : World) (h : Mat w a n R) (h' : Ints .i64 w a' N l) (hr : Rect R n N) (hR : ∀ i k, i < n → k < N → M.Big (M.ent R i k)) (hl : ∀ k, k < N → M.Big (l.getD k 0)) (n2 : n ≤ 10) (N1 : 1 ≤ N) (N2 : N ≤ 10) :
    Calls Tryz.prog 74 #[.slice a n cap, .slice a' N cap'] w fun e w' => ∃ b c, e = .returned (.slice b n c) ∧ Own w' w.heap.size (.slice b n c) (M.applyM R l) ∧ Below w.heap.size w w' := by
  have HA := Lib.hid h
  have HI := Lib.hid h'
  have HT := Lib.hid hr
  have HL := Lib.hid h.1
  have HV := Lib.hid hR
  have HV' := Lib.hid hl
  have HF : Hid (M.applyM R l = (List.range n).map fun i => M.dotV R l i N) := by show _ = _; unfold M.applyM; rw [h.1, h'.1]
  have hO0 : Hid (Own (w.alloc (.cells #[] 2)) w.heap.size (.slice (some ⟨w.heap.size, 0, none⟩) 0 0) []) := own_lit0 w _ (Nat.le_refl _)
  obtain ⟨rb, ro, x0, rfl, -, -, -⟩ := h'.at 0 (by omega)
  clear h h' hr hR hl
  go_enter Tryz.func74, Tryz.ntmps74
  go_wp2
  go_loopw [5, 6] (fun out i wr => ∃ (k : Nat) (b : Option Addr) (c : Nat), k ≤ n ∧ i = .int .i64 k ∧ out = .slice b k c ∧ Own wr w.heap.size (.slice b k c) ((List.range k).map fun i => M.dotV R l i N) ∧ Below w.heap.size w wr) (fun _ i _ => n - (intOf i).toNat)
  case atStart => exact ⟨0, _, _, Nat.zero_le _, rfl, rfl, hO0.out, b_alloc _ _⟩
  case round =>
    obtain ⟨k, b, c, hk, rfl, rfl, hO, hb⟩ := hrel
    obtain ⟨wo, rfl⟩ : ∃ x, x = wr := ⟨_, rfl⟩
    have HO := Lib.hid hO
    have HB := Lib.hid hb
    clear hO hb hO0
    by_cases hlt : k < n
    · have hki : (k : Int) < (n : Int) := by omega
      have HS0 : Hid ((-1000000000000000 : Int) = M.dotV R l k 0) := rfl
      go_wp2
      go_loopw [7, 8] (fun sm j wr => ∃ (u : Nat) (y : Int), u ≤ N ∧ j = .int .i64 u ∧ sm = .int .i64 y ∧ Hid (y = M.dotV R l k u) ∧ ∃ q, wr = wo.drewN q) (fun _ j _ => N - (intOf j).toNat)
      case atStart => exact ⟨0, _, Nat.zero_le _, rfl, rfl, HS0, 0, rfl⟩
      case round =>
        obtain ⟨u, y, hu, rfl, rfl, HY, q2, rfl⟩ := hrel
        by_cases hul : u < N
        · have hui : (u : Int) < (N : Int) := by omega
          obtain ⟨d, od, rd, rdo, c4, x1, rfl, hx1, c41, c42⟩ := (HA.out.below HB.out).rect_ent HT.out k u hlt hul
          obtain ⟨rx, rxo, x2, hrr, -, hx2, hcx2⟩ := (HI.out.below HB.out).at u hul
          injection hrr with hrr
          injection hrr with e1 e2
          subst e1 e2
          have HV1 : Hid (M.Big x1) := by show M.Big _; rw [hx1]; exact HV.out k u hlt hul
          have HV2 : Hid (M.Big x2) := by show M.Big _; rw [hx2]; exact HV'.out u hul
          obtain ⟨z, hz⟩ : ∃ z, z = M.times x1 x2 := ⟨_, rfl⟩
          have HY2 : Hid ((if y < z then z else y) = M.dotV R l k (u + 1)) := by show _ = _; rw [← M.ifmax, hz, HY.out, hx1, hx2]; rfl
          have HC1 : ∀ w : World, Calls Tryz.prog 125 #[.int .i64 x1, .int .i64 x2] w fun e w' => e = .returned (.int .i64 z) ∧ w = w' := by
            intro w
            rw [hz]
            exact sTimesB _ _ _ HV1.out HV2.out
          clear hx1 hx2 hz
          go_wp2
          go_quiet ((go_at_call 125; exact q_more_s (HC1 _)))
          go_wp2
          go_roundw
          case rel => exact ⟨u + 1, _, by omega, by go_num, rfl, HY2, _, rfl⟩
          case measure => simp [intOf]; omega
        · obtain rfl : u = N := by omega
          have HOq : Hid (Own (wo.drewN q2) w.heap.size (.slice b k c) ((List.range k).map fun i => M.dotV R l i u)) := HO.out
          have HBq : Hid (Below w.heap.size w (wo.drewN q2)) := below_drewN HB.out _
          have hsz : w.heap.size ≤ (wo.drewN q2).heap.size := HBq.out.size
          have hlen := HO.out.len
          have HLn := Lib.hid hlen
          clear hlen
          generalize wo.drewN q2 = wq at HOq HBq hsz
          go_wp2_with (at_builtin; refine append1 _ rfl (.tmp 36) (.tmp 38) rfl w.heap.size _ _ _ k HOq.out.len.symm rfl HOq.out rfl (by rw [← HLn.out]; omega) hsz ?_)
          intro b2 c2 w2 hO2 hb2 _
          have HO2 := Lib.hid hO2
          have HB2 := Lib.hid (HBq.out.trans hb2)
          clear hO2 hb2
          go_wp2
          go_roundw
          case rel => exact ⟨k + 1, _, _, by omega, by go_num, rfl, by rw [M.range_snoc, ← HY.out]; exact HO2.out, HB2.out⟩
          case measure => simp [intOf]; omega
    · obtain rfl : k = n := by omega
      go_wp2
      go_ret
      exact ⟨_, _, rfl, by rw [HF.out]; exact HO.out, HB.out⟩

theorem sApply (a : Option Addr) (n cap : Nat) (R : List (List Int)) (a' : Option Addr) (N cap' : Nat) (l : List Int) (w : World) (h : Mat w a n R) (h' : Ints .i64 w a' N l) (hr : Rect R n N) (hR : M.isMat R = true) (hl : M.isVec l = true) (n2 : n ≤ 10) (N1 : 1 ≤ N) (N2 : N ≤ 10) :
    Calls Tryz.prog 74 #[.slice a n cap, .slice a' N cap'] w fun e w' => ∃ b c, e = .returned (.slice b n c) ∧ Own w' w.heap.size (.slice b n c) (M.applyM R l) ∧ Below w.heap.size w w' :=
  if hn : 0 < n then sApplyB a n cap R a' N cap' l w h h' hr (fun i k hi hk => M.big_val (tm_val hR hr hn hi hk)) (fun k hk => M.big_val ((M.isVec_t hl).2.2 k (by rw [h'.1]; exact hk))) n2 N1 N2
  else sApplyB a n cap R a' N cap' l w h h' hr (fun i k hi hk => absurd (Nat.lt_of_le_of_lt (Nat.zero_le _) hi) hn) (fun k hk => M.big_val ((M.isVec_t hl).2.2 k (by rw [h'.1]; exact hk))) n2 N1 N2


end Go.Proofs.YtlofnadpgnbmdaaGreat.V
