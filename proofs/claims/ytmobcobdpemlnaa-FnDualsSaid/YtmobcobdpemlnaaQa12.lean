/- Texts laid together: Shv, End1, End2, Sqq, OwnP, Clo3, IBot, Hv1. -/
import Derived.Test.YtmobcobdpemlnaaQa11
import Derived.Test.YtmobcobdpemlnaaQa9
import Derived.Test.YtmobcobdpemlnaaQa7
import Derived.Test.YtmobcobdpemlnaaQa5
import Derived.Test.YtmobcobdpemlnaaQa8
import Derived.Test.YtmobcobdpemlnaaQa2
import Derived.Test.YtmobcobdpemlnaaQa6
import Derived.Deep.AppendLies
import Derived.Test.YtmobcobdpemlnaaRows
import Derived.Test.YtmobcobdpemlnaaQa1
import Derived.WalkKit
import Derived.ProofKit
import Derived.WalkSmall
import Derived.Deep.QuietTactic
import Derived.BigQuiet
import Derived.BigRegion
import Derived.Deep.Draws
import Derived.Lib.Hide
import Derived.OpenShut
import Derived.Deep.OwnRows
set_option linter.unusedSimpArgs false
set_option linter.unusedVariables false
set_option linter.unusedSectionVars false
namespace Go.Proofs.Ytmobcobdpemlnaa.V
set_option maxRecDepth 100000
open Go.RowKit
/-- A number that is so small that no sum of two overflows. -/
def Wid (v : Int) : Prop := -2000000000000000 ≤ v ∧ v ≤ 2000000000000000
theorem wid_val {v : Int} (h : M.isVal v = true) : Wid v := by have := M.isVal_t h; unfold Wid; omega
set_option maxRecDepth 100000 in
set_option maxHeartbeats 400000 in
theorem timesW (a b : Int) (w : World) (ha : Wid a) (hb : Wid b) : Calls Try.prog 129 #[.int .i64 a, .int .i64 b] w fun e w' => e = .returned (.int .i64 (M.times a b)) ∧ w = w' := by
  obtain ⟨ba1, ba2⟩ := ha
  obtain ⟨bb1, bb2⟩ := hb
  by_cases h : a = -1000000000000000
  · subst h
    go_enter Try.func129, Try.ntmps129
    go_wp2
    all_goals go_ret; exact ⟨retI (by simp [M.times]), rfl⟩
  · have h' : (a == -1000000000000000) = false := by simpa using h
    by_cases h2 : b = -1000000000000000
    · subst h2
      go_enter Try.func129, Try.ntmps129
      go_wp2
      all_goals go_ret; exact ⟨retI (by simp [M.times]), rfl⟩
    · have h2' : (b == -1000000000000000) = false := by simpa using h2
      go_enter Try.func129, Try.ntmps129
      go_wp2
      all_goals go_ret; exact ⟨retI (by simp [M.times, h, h2]), rfl⟩
set_option maxRecDepth 100000 in
set_option maxHeartbeats 400000 in
theorem sTimesW (a b : Int) (w : World) (ha : Wid a) (hb : Wid b) : Calls Try.prog 92 #[.int .i64 a, .int .i64 b] w fun e w' => e = .returned (.int .i64 (M.times a b)) ∧ w = w' := by
  obtain ⟨ba1, ba2⟩ := ha
  obtain ⟨bb1, bb2⟩ := hb
  by_cases h : a = -1000000000000000
  · subst h
    go_enter Try.func92, Try.ntmps92
    go_wp2
    all_goals go_ret; exact ⟨retI (by simp [M.times]), rfl⟩
  · have h' : (a == -1000000000000000) = false := by simpa using h
    by_cases h2 : b = -1000000000000000
    · subst h2
      go_enter Try.func92, Try.ntmps92
      go_wp2
      all_goals go_ret; exact ⟨retI (by simp [M.times]), rfl⟩
    · have h2' : (b == -1000000000000000) = false := by simpa using h2
      go_enter Try.func92, Try.ntmps92
      go_wp2
      all_goals go_ret; exact ⟨retI (by simp [M.times, h, h2]), rfl⟩
/-- The first k elements of a list of n that is being filled. -/
def vPart (n : Nat) (f : Nat → Int) (k : Nat) : List Int := (List.range n).map fun j => if j < k then f j else 0
theorem vPart_zero (n : Nat) (f : Nat → Int) : vPart n f 0 = (List.range n).map fun _ => 0 := by simp [vPart]
theorem vPart_end (n : Nat) (f : Nat → Int) : vPart n f n = (List.range n).map f := List.map_congr_left fun j hj => by simp [List.mem_range.1 hj]
theorem vPart_set (n : Nat) (f : Nat → Int) (k : Nat) : (vPart n f k).set k (f k) = vPart n f (k + 1) := by
  unfold vPart
  rw [M.map_set]
  refine List.map_congr_left fun j _ => ?_
  by_cases e : j = k
  · subst e; rw [if_pos rfl, if_pos (by omega)]
  · rw [if_neg e]
    by_cases e2 : j < k
    · rw [if_pos e2, if_pos (by omega)]
    · rw [if_neg e2, if_neg (by omega)]
theorem shv_map (l : List Int) (g : Int) : M.shvL l g = (List.range l.length).map fun j => M.times (l.getD j 0) g := by
  refine M.list_ext0 (by rw [M.shv_len]; simp) fun i hi => ?_
  rw [M.shv_len] at hi
  rw [M.shv_get hi]
  simp [hi]
set_option maxRecDepth 100000 in
set_option maxHeartbeats 400000 in
theorem clTimesW (a b : Int) (w : World) (ha : Wid a) (hb : Wid b) : Calls Try.prog 128 #[.int .i64 a, .int .i64 b] w fun e w' => e = .returned (.int .i64 (M.times a b)) ∧ w = w' := by
  have HA := Lib.hid ha
  have HB := Lib.hid hb
  clear ha hb
  go_enter Try.func128, Try.ntmps128
  go_wp2_with (first | (go_at_call 129; refine (timesW _ _ _ HA.out HB.out).mono ?_; rintro e w' ⟨rfl, rfl⟩))
  go_ret
  exact ⟨rfl, rfl⟩
theorem fld1s : ∀ w : World, (Instr.field 107 (.agg #[.func (.func 126) #[] #[], .func (.func 128) #[] #[]]) 1).run Try.prog w = .ok (.func (.func 128) #[] #[]) w := fun w => by simp [Instr.field, part, asAgg, go_sem]
set_option maxRecDepth 100000 in
set_option maxHeartbeats 4000000 in
theorem shiftedList (a : Option Addr) (n cap : Nat) (l : List Int) (g : Int) (w : World) (h : Ints .i64 w a n l) (hn : n ≤ 1000) (hl : ∀ k, k < n → Wid (l.getD k 0)) (hg : Wid g) :
    Calls Try.prog 59 #[.slice a n cap, .int .i64 g] w fun e w' => ∃ b, e = .returned (.slice b n n) ∧ Own w' w.heap.size (.slice b n n) (M.shvL l g) ∧ Below w.heap.size w w' := by
  have HI := Lib.hid h
  have HL := Lib.hid hl
  have HG := Lib.hid hg
  have HE : Hid (M.shvL l g = (List.range n).map fun j => M.times (l.getD j 0) g) := by show _ = _; rw [shv_map, h.1]
  have hmk := run_make_row' (P := Try.prog) 26 2 (.int .i64 0) 8 Try.underlying26 info64 rfl .i64 .i64 n (by omega) (by omega)
  have hfld := fld1s
  clear h hl hg
  go_enter Try.func59, Try.ntmps59
  go_wp2_with fail
  refine (maxPlus _).mono ?_
  rintro e w1 ⟨rfl, hb1⟩
  have HB1 := Lib.hid hb1
  have hz1 : w.heap.size ≤ w1.heap.size := hb1.size
  clear hb1
  go_wp2
  clear hmk hfld
  go_loopw [7, 8, 16] (fun _ _ i wr => ∃ k : Nat, k ≤ n ∧ i = .int .i64 k ∧ Own wr w1.heap.size (.slice (some ⟨w1.heap.size, 0, none⟩) n n) (vPart n (fun j => M.times (l.getD j 0) g) k) ∧ Below w1.heap.size w1 wr) (fun _ _ i _ => n - (intOf i).toNat)
  case atStart => exact ⟨0, Nat.zero_le _, rfl, by rw [vPart_zero]; exact own_made w1 _ n (Nat.le_refl _) (by unfold maxLen; omega), b_alloc _ _⟩
  case round =>
    obtain ⟨k, hk, rfl, hO, hb⟩ := hrel
    have HO := Lib.hid hO
    have HB := Lib.hid hb
    clear hO hb
    by_cases hlt : k < n
    · have hki : (k : Int) < (n : Int) := by omega
      obtain ⟨b, off, x, rfl, -, hx, hc⟩ := ((HI.out.below HB1.out).below HB.out).at k hlt
      have hWx := HL.out k hlt
      rw [← hx] at hWx
      have HW := Lib.hid hWx
      obtain ⟨v, hst⟩ : ∃ v, wr.cell? ⟨w1.heap.size, k, none⟩ = some v := ⟨_, HO.out.cellAt k hlt⟩
      have hfz := HO.out.frozenAt k
      have HN : Hid (Own (wr.setCell ⟨w1.heap.size, k, none⟩ (.int .i64 (M.times x g))) w1.heap.size (.slice (some ⟨w1.heap.size, 0, none⟩) n n) (vPart n (fun j => M.times (l.getD j 0) g) (k + 1))) := by
        show Own _ _ _ _
        have := Own.set HO.out k (M.times x g)
        rw [hx, vPart_set n (fun j => M.times (l.getD j 0) g) k, ← hx] at this
        exact this
      clear hx hWx HO
      go_wp2_with (go_at_call 128; refine (clTimesW _ _ _ HW.out HG.out).mono ?_; rintro e w' ⟨rfl, rfl⟩)
      go_roundw
      case rel => exact ⟨k + 1, by omega, by go_num, HN.out, HB.out.setCell (Nat.le_refl _) _⟩
      case measure => simp [intOf]; omega
    · obtain rfl : k = n := by omega
      go_wp2
      go_ret
      exact ⟨_, rfl, by rw [HE.out, ← vPart_end]; exact HO.out.mono hz1, HB1.out.trans (HB.out.mono hz1)⟩
end Go.Proofs.Ytmobcobdpemlnaa.V

namespace Go.Proofs.Ytmobcobdpemlnaa.V
open Go.RowKit
/-- One row of an owned matrix, as a list of its own. -/
theorem OwnM.rowOf {w : World} {B n cap : Nat} {a : Option Addr} {R : List (List Int)} (h : OwnM w B (.slice a n cap) R) (i : Nat) (hi : i < n) :
    ∃ g ra rc, a = some ⟨g, 0, none⟩ ∧ w.cell? ⟨g, i, none⟩ = some (.slice ra (R.getD i []).length rc) ∧ Own w B (.slice ra (R.getD i []).length rc) (R.getD i []) := by
  have hl := h.len
  obtain ⟨V, h1, h2, h3, h4, h5⟩ := h
  obtain ⟨a', c', hv, hc, hm, hg⟩ := own_form h2
  injection hv with e1 e2 e3
  subst e1 e2 e3
  obtain ⟨g, rfl, hB, hlt⟩ := hg (by omega)
  have hr := h3 i (by omega)
  obtain ⟨ra, rc, hrv, _⟩ := own_form hr
  rw [hrv] at hr
  refine ⟨g, ra, rc, rfl, ?_, hr⟩
  rw [World.ownsRow.cellAt h2 i (by omega), ← hrv]
  simp [show i < V.length by omega]
theorem ownM_first (w : World) (B : Nat) (hB : B ≤ w.heap.size) {rv : Value} {l : List Int} (ho : Own w B rv l) : OwnM (w.alloc (.cells #[rv] 26)) B (.slice (some ⟨w.heap.size, 0, none⟩) 1 1) [l] := by
  refine ⟨[rv], rfl, World.ownsRow_lit w #[rv] 1 hB (by decide) rfl, fun i hi => ?_, fun i hi k hk => ?_, fun i j hi hj hne => ?_⟩
  · obtain rfl : i = 0 := by simp at hi; omega
    exact ho.below (b_alloc w _)
  · obtain rfl : i = 0 := by simp at hi; omega
    have := (own_lt ho hk).2
    intro e
    simp only [Value.ownBlock, Option.some.injEq] at e
    omega
  · simp at hi hj; omega
/-- The greatest weights of paths with so many arcs. -/
def M.fkL (A : Nat → Nat → Int) (n k : Nat) : List Int := (List.range n).map (M.Fk A n k)
theorem M.fkL_len (A : Nat → Nat → Int) (n k : Nat) : (M.fkL A n k).length = n := by unfold M.fkL; simp
theorem M.fkL_at (A : Nat → Nat → Int) (n k v : Nat) (hv : v < n) : (M.fkL A n k).getD v 0 = M.Fk A n k v := by unfold M.fkL; simp [hv]
def M.endM (A : Nat → Nat → Int) (n k : Nat) : List (List Int) := M.mk k n fun s j => M.Fk A n s j
theorem M.end_row (A : Nat → Nat → Int) (n k s : Nat) (h : s < k) : (M.endM A n k).getD s [] = M.fkL A n s := M.mk_row _ _ _ _ h
theorem M.end_next {R : List (List Int)} {n : Nat} (h : R.length = n) (k : Nat) : M.applyM R (M.fkL (M.ent R) n k) = M.fkL (M.ent R) n (k + 1) := by
  unfold M.applyM
  rw [h, M.fkL_len]
  show _ = (List.range n).map (M.Fk (M.ent R) n (k + 1))
  refine List.map_congr_left fun i hi => ?_
  unfold M.dotV
  show _ = M.sumN n fun u => M.times (M.ent R i u) (M.Fk (M.ent R) n k u)
  refine M.sumN_congr fun u hu => ?_
  rw [M.fkL_at _ _ _ _ hu]

set_option maxRecDepth 100000 in
set_option maxHeartbeats 1000000 in
theorem endWeights (a : Option Addr) (n cap : Nat) (R : List (List Int)) (w : World) (h : Sq w a n R) (hA : ∀ i j, i < n → j < n → M.Sm 1000000 (M.ent R i j)) :
    Calls Try.prog 143 #[.slice a n cap] w (MPost (n + 1) (M.endM (M.ent R) n (n + 1)) w) := by
  have HS := Lib.hid h
  have HA := Lib.hid hA
  have HL := Lib.hid h.1.1
  have HRB : Hid (∀ i j, i < n → j < n → M.Big (M.ent R i j)) := fun i j hi hj => M.big_sm (hA i j hi hj) (by omega)
  obtain ⟨n1, n2⟩ := h.2.2.2
  clear h hA
  have HO0 : Hid (Own (w.alloc (.cells (madeCells #[.int .i64 0] n) 2)) w.heap.size (.slice (some ⟨w.heap.size, 0, none⟩) n n) (M.fkL (M.ent R) n 0)) := own_made w _ n (Nat.le_refl _) (by unfold maxLen; omega)
  have HB0 : Hid (Below w.heap.size w (w.alloc (.cells (madeCells #[.int .i64 0] n) 2))) := b_alloc _ _
  obtain ⟨wa, hwa⟩ : ∃ wa, wa = w.alloc (.cells (madeCells #[.int .i64 0] n) 2) := ⟨_, rfl⟩
  rw [← hwa] at HO0 HB0
  have HO1 : Hid (OwnM (wa.alloc (.cells #[.slice (some ⟨w.heap.size, 0, none⟩) n n] 26)) w.heap.size (.slice (some ⟨wa.heap.size, 0, none⟩) 1 1) (M.endM (M.ent R) n 1)) := ownM_first wa _ HB0.out.size HO0.out
  have HB1 : Hid (Below w.heap.size w (wa.alloc (.cells #[.slice (some ⟨w.heap.size, 0, none⟩) n n] 26))) := HB0.out.alloc HB0.out.size _
  have HI1 : Hid (Ints .i64 (wa.alloc (.cells #[.slice (some ⟨w.heap.size, 0, none⟩) n n] 26)) (some ⟨w.heap.size, 0, none⟩) n (M.fkL (M.ent R) n 0)) := (HO0.out.below (b_alloc wa _)).ints'
  have hmk := run_make_row' (P := Try.prog) 26 2 (.int .i64 0) 8 Try.underlying26 info64 rfl .i64 .i64 n (by omega) (by omega)
  clear HO0 HB0
  subst hwa
  go_enter Try.func143, Try.ntmps143
  go_wp2
  clear hmk
  go_loopw [3, 4, 12] (fun ends table i wr => ∃ (k : Nat) (b : Option Addr) (c : Nat) (ra : Option Addr) (rc : Nat), k ≤ n ∧ i = .int .i64 k ∧ table = .slice b (k + 1) c ∧ ends = .slice ra n rc ∧ OwnM wr w.heap.size (.slice b (k + 1) c) (M.endM (M.ent R) n (k + 1)) ∧ Ints .i64 wr ra n (M.fkL (M.ent R) n k) ∧ Below w.heap.size w wr) (fun _ _ i _ => n - (intOf i).toNat)
  case atStart => exact ⟨0, _, _, _, _, Nat.zero_le _, rfl, rfl, rfl, by simpa using HO1.out, HI1.out, HB1.out⟩
  case round =>
    obtain ⟨k, b, c, ra, rc, hk, rfl, rfl, rfl, hO, hI, hb⟩ := hrel
    obtain ⟨wo, rfl⟩ : ∃ x, x = wr := ⟨_, rfl⟩
    have HO := Lib.hid hO
    have HI := Lib.hid hI
    have HB := Lib.hid hb
    have hzo : w.heap.size ≤ wo.heap.size := hb.size
    clear hO hI hb HO1 HI1 HB1
    by_cases hlt : k < n
    · have hki : (k : Int) < (n : Int) := by omega
      have HLB : Hid (∀ i, i < n → M.Big ((M.fkL (M.ent R) n k).getD i 0)) := fun i hi => by
        rw [M.fkL_at _ _ _ _ hi]
        exact M.big_sm (M.Fk_sm HA.out k i hi) (by omega)
      go_wp2_with fail
      refine (timesColumn _ _ _ R _ _ _ _ _ (HS.out.1.below HB.out) HI.out HS.out.2.1 HRB.out HLB.out n1 n2 n1 n2).mono ?_
      rintro e w3 ⟨b3, c3, rfl, ho3, hb3⟩
      rw [M.end_next HL.out] at ho3
      have HR3 := Lib.hid ho3
      have HB3 := Lib.hid hb3
      have hz3 : wo.heap.size ≤ w3.heap.size := hb3.size
      obtain ⟨g, ra0, rc0, rfl, -, -⟩ := HO.out.rowOf 0 (by omega)
      have hg : g < wo.heap.size := HO.out.lt rfl
      have hml : (M.endM (M.ent R) n (k + 1)).length = k + 1 := M.mk_length _ _ _
      have HML := Lib.hid hml
      have HAS : Hid (M.endM (M.ent R) n (k + 1) ++ [M.fkL (M.ent R) n (k + 1)] = M.endM (M.ent R) n (k + 1 + 1)) := (M.mk_snoc _ _ _).symm
      clear ho3 hb3 hml
      go_wp2_with (at_builtin; refine appendRow wo _ rfl (.tmp 17) (.tmp 19) rfl w.heap.size _ _ _ _ (k + 1) HML.out rfl HO.out HB3.out HR3.out rfl (by rw [HML.out]; omega) hzo ?_)
      intro b4 c4 w4 hO4 hb4 hkeep
      rw [HAS.out] at hO4
      have HO4 := Lib.hid hO4
      have HI4 := Lib.hid (HR3.out.keep (w' := w4) (fun q h1 h2 => hkeep q h2 (by intro e; simp only [Value.ownBlock, Option.some.injEq] at e; omega))).ints'
      have HB4 := Lib.hid ((HB.out.trans (HB3.out.mono hzo)).trans hb4)
      clear hO4 hb4 hkeep
      go_wp2
      go_roundw
      case rel => exact ⟨k + 1, _, _, _, _, by omega, by go_num, rfl, rfl, HO4.out, HI4.out, HB4.out⟩
      case measure => simp [intOf]; omega
    · obtain rfl : k = n := by omega
      go_wp2
      go_ret
      exact ⟨_, _, rfl, HO.out, HB.out⟩
end Go.Proofs.Ytmobcobdpemlnaa.V

namespace Go.Proofs.Ytmobcobdpemlnaa.V
open Go.RowKit
/-- The greatest of the first values. -/
def M.topN (f : Nat → Int) : Nat → Int
  | 0 => f 0
  | k + 1 => max (M.topN f k) (f (k + 1))
theorem M.topN_ge (f : Nat → Int) (m : Nat) : ∀ v, v ≤ m → f v ≤ M.topN f m := by
  induction m with
  | zero => intro v hv; obtain rfl : v = 0 := by omega
            exact Int.le_refl _
  | succ m ih =>
    intro v hv
    show _ ≤ max _ _
    by_cases e : v = m + 1
    · subst e; omega
    · have := ih v (by omega); omega
theorem M.topN_at (f : Nat → Int) (m : Nat) : ∃ v, v ≤ m ∧ M.topN f m = f v := by
  induction m with
  | zero => exact ⟨0, Nat.le_refl _, rfl⟩
  | succ m ih =>
    obtain ⟨v, h1, h2⟩ := ih
    rcases Int.le_total (M.topN f m) (f (m + 1)) with h | h
    · exact ⟨m + 1, Nat.le_refl _, Int.max_eq_right h⟩
    · exact ⟨v, by omega, (Int.max_eq_left h).trans h2⟩
theorem M.topN_congr {f g : Nat → Int} {m : Nat} (h : ∀ v, v ≤ m → f v = g v) : M.topN f m = M.topN g m := by
  induction m with
  | zero => exact h 0 (Nat.le_refl _)
  | succ m ih => show max _ _ = max _ _; rw [ih fun v hv => h v (by omega), h (m + 1) (Nat.le_refl _)]
theorem M.top_cyc {A : Nat → Nat → Int} {n : Nat} (h1 : 1 ≤ n) (h2 : n ≤ 10) (hA : ∀ i j, i < n → j < n → M.Sm 1000000 (A i j)) : decide (M.topN (fun i => (M.fkL A n n).getD i 0) (n - 1) ≠ -1000000000000000) = M.hasCyc A n := by
  have hc : M.topN (fun i => (M.fkL A n n).getD i 0) (n - 1) = M.topN (M.Fk A n n) (n - 1) := M.topN_congr fun v hv => M.fkL_at _ _ _ _ (by omega)
  rw [hc, Bool.eq_iff_iff, decide_eq_true_eq]
  unfold M.hasCyc
  rw [List.any_eq_true]
  obtain ⟨v, hv, e⟩ := M.topN_at (M.Fk A n n) (n - 1)
  constructor
  · intro h
    exact ⟨v, List.mem_range.2 (by omega), by rw [← e]; simpa using h⟩
  · rintro ⟨u, hu, h⟩
    have hu := List.mem_range.1 hu
    have h3 := M.topN_ge (M.Fk A n n) (n - 1) u (by omega)
    have h4 : M.Fk A n n u ≠ -1000000000000000 := by simpa using h
    rcases M.Fk_sm hA n v (by omega) with k | k
    · rcases M.Fk_sm hA n u hu with q | q
      · exact absurd q h4
      · omega
    · omega

set_option maxRecDepth 100000 in
set_option maxHeartbeats 1000000 in
theorem slicesMax (a : Option Addr) (n cap : Nat) (l : List Int) (w : World) (h : Ints .i64 w a n l) (h1 : 1 ≤ n) :
    Calls Try.prog 132 #[.slice a n cap] w fun e w' => e = .returned (.int .i64 (M.topN (fun i => l.getD i 0) (n - 1))) ∧ w = w' := by
  obtain ⟨hl, hm, hr⟩ := h
  unfold maxLen at hm
  have hn1 : ¬ (n : Int) < 1 := by omega
  rcases hr with h0 | ⟨b, off, rfl, hbl, hc⟩
  · omega
  have hc0 := hc 0 (by omega)
  rw [Nat.add_zero] at hc0
  have HC := Lib.hid hc
  clear hl hc
  go_enter Try.func132, Try.ntmps132
  go_wp2
  clear hc0
  go_loop [3, 4] (fun m i => ∃ k : Nat, 1 ≤ k ∧ k ≤ n ∧ i = .int .i64 k ∧ m = .int .i64 (M.topN (fun i => l.getD i 0) (k - 1))) (fun _ i => n - (intOf i).toNat)
  case atStart => exact ⟨1, Nat.le_refl _, h1, rfl, rfl⟩
  case round =>
    obtain ⟨k, hk1, hk, rfl, rfl⟩ := hrel
    by_cases hlt : k < n
    · have hki : (k : Int) < (n : Int) := by omega
      have hck := HC.out k hlt
      have HT : Hid (max (M.topN (fun i => l.getD i 0) (k - 1)) (l.getD k 0) = M.topN (fun i => l.getD i 0) (k + 1 - 1)) := by
        show _ = _
        obtain ⟨q, rfl⟩ : ∃ q, k = q + 1 := ⟨k - 1, by omega⟩
        rfl
      generalize M.topN (fun i => l.getD i 0) (k - 1) = y at HT ⊢
      generalize l.getD k 0 = x at HT hck
      go_wp2
      go_round
      case rel => exact ⟨k + 1, by omega, by omega, by go_num, by rw [← HT.out]; congr 1; split <;> omega⟩
      case measure => simp [intOf]; omega
    · obtain rfl : k = n := by omega
      go_wp2
      go_ret
      exact ⟨rfl, rfl⟩
set_option maxRecDepth 100000 in
set_option maxHeartbeats 1000000 in
theorem hasCycle (a : Option Addr) (n cap : Nat) (R : List (List Int)) (w : World) (h : Sq w a n R) (hA : ∀ i j, i < n → j < n → M.Sm 1000000 (M.ent R i j)) :
    Calls Try.prog 135 #[.slice a n cap] w fun e w' => e = .returned (.bool (M.hasCyc (M.ent R) n)) ∧ Below w.heap.size w w' := by
  have HS := Lib.hid h
  have HA := Lib.hid hA
  obtain ⟨n1, n2⟩ := h.2.2.2
  have HT := Lib.hid (M.top_cyc n1 n2 hA)
  clear h hA
  go_enter Try.func135, Try.ntmps135
  go_wp2_with fail
  refine (endWeights _ _ _ R _ HS.out HA.out).mono ?_
  rintro e w1 ⟨b, c, rfl, hO, hb⟩
  have HB := Lib.hid hb
  obtain ⟨g, ra, rc, rfl, hcell, hr⟩ := hO.rowOf n (by omega)
  rw [M.end_row _ _ _ _ (Nat.lt_succ_self n), M.fkL_len] at hcell hr
  have HI := Lib.hid hr.ints'
  clear hO hb hr
  go_wp2_with fail
  refine (slicesMax _ _ _ _ _ HI.out n1).mono ?_
  rintro e w' ⟨rfl, rfl⟩
  generalize M.topN (fun i => (M.fkL (M.ent R) n n).getD i 0) (n - 1) = y at HT ⊢
  go_wp2
  go_ret
  exact ⟨retB (by rw [← HT.out]; by_cases q : y = -1000000000000000 <;> simp [q]), HB.out⟩
end Go.Proofs.Ytmobcobdpemlnaa.V

namespace Go.Proofs.Ytmobcobdpemlnaa
namespace M
def sq7 (R F : List (List Int)) : Nat → List (List Int)
  | 0 => F
  | k + 1 => mulM R (sq7 R F k)
def sqL (R F : List (List Int)) (k : Nat) : List (List Int) := (List.range k).map fun i => (sq7 R F i).flatten
/-- The cells of a pattern. -/
def patC (X : List (List Int)) (h : Int) : List Int := (List.range 100).map fun t => if t / 10 < X.length ∧ t % 10 < wid X then times (ent X (t / 10) (t % 10)) (-h) else 0
theorem patC_len (X : List (List Int)) (h : Int) : (patC X h).length = 100 := by simp [patC]
theorem patC_get {X : List (List Int)} {h : Int} {i j : Nat} (hi : i < X.length) (hj : j < wid X) (h10 : i < 10) (j10 : j < 10) : (patC X h).getD (i * 10 + j) 0 = times (ent X i j) (-h) := by
  have e1 : (i * 10 + j) / 10 = i := by omega
  have e2 : (i * 10 + j) % 10 = j := by omega
  have e3 : i * 10 + j < 100 := by omega
  simp [patC, e3, e1, e2, hi, hj]
theorem patC_iff {X Y : List (List Int)} {h d : Int} (h1 : X.length = Y.length) (h2 : wid X = wid Y) (hx : X.length ≤ 10) (hw : wid X ≤ 10) : patC X h = patC Y d ↔ ∀ i, i < X.length → ∀ j, j < wid X → times (ent X i j) (-h) = times (ent Y i j) (-d) := by
  constructor
  · intro e i hi j hj
    rw [← patC_get (h := h) hi hj (by omega) (by omega), e, patC_get (by omega) (by omega) (by omega) (by omega)]
  · intro e
    refine List.map_congr_left fun t _ => ?_
    by_cases hc : t / 10 < X.length ∧ t % 10 < wid X
    · rw [if_pos hc, if_pos (by rw [← h1, ← h2]; exact hc)]
      exact e _ hc.1 _ hc.2
    · rw [if_neg hc, if_neg (by rw [← h1, ← h2]; exact hc)]
theorem shv_flat (X : List (List Int)) (g : Int) : shvL X.flatten g = (X.map fun l => shvL l g).flatten := by
  unfold shvL
  rw [List.map_flatten]
theorem flat_vals {X : List (List Int)} (h : isMat X = true) : Vals X.flatten := by
  intro i hi
  have hm : X.flatten.getD i 0 ∈ X.flatten := by rw [List.getD_eq_getElem?_getD, List.getElem?_eq_getElem hi]; exact List.getElem_mem hi
  obtain ⟨r, hr, hx⟩ := List.mem_flatten.1 hm
  obtain ⟨a, ha, rfl⟩ := List.mem_iff_getElem.1 hr
  obtain ⟨b, hb, e⟩ := List.mem_iff_getElem.1 hx
  have hl := isMat_len h ha
  have hv := isMat_val h ha (j := b) (by rw [← hl]; simpa [ha] using hb)
  rw [← e]
  simpa [ha, hb] using hv
theorem rows_len {X : List (List Int)} (h : isMat X = true) : X.map List.length = List.replicate X.length (wid X) := by
  refine List.ext_getElem (by simp) fun i h1 h2 => ?_
  have hi : i < X.length := by simpa using h1
  have := isMat_len h hi
  simp only [List.getElem_map, List.getElem_replicate]
  simpa [hi] using this
theorem flat_len {X Y : List (List Int)} (hx : isMat X = true) (hy : isMat Y = true) (h1 : X.length = Y.length) (h2 : wid X = wid Y) : X.flatten.length = Y.flatten.length := by
  rw [List.length_flatten, List.length_flatten, rows_len hx, rows_len hy, h1, h2]
theorem nrm_pat {X Y : List (List Int)} (hx : isMat X = true) (hy : isMat Y = true) (h1 : X.length = Y.length) (h2 : wid X = wid Y) : patC X (maxL X.flatten) = patC Y (maxL Y.flatten) ↔ nrm X.flatten = nrm Y.flatten := by
  obtain ⟨x1, x2, x3, x4, x5, -⟩ := isMat_t hx
  have y5 := (isMat_t hy).2.2.2.2.1
  rw [patC_iff h1 h2 x2 x4]
  unfold nrm
  rw [shv_flat, shv_flat]
  constructor
  · intro e
    congr 1
    refine List.ext_getElem (by simp [h1]) fun i q1 q2 => ?_
    have hi : i < X.length := by simpa using q1
    have hi2 : i < Y.length := by omega
    simp only [List.getElem_map]
    have l1 := x5 i hi
    have l2 := y5 i hi2
    have g1 : X.getD i [] = X[i] := by simp [hi]
    have g2 : Y.getD i [] = Y[i] := by simp [hi2]
    rw [shv_eq (by rw [← g1, ← g2, l1, l2, h2])]
    intro j hj
    have := e i hi j (by rw [← l1, g1]; exact hj)
    unfold ent at this
    rw [g1, g2] at this
    exact this
  · intro e i hi j hj
    have e2 : (X.map fun l => shvL l (-maxL X.flatten)) = (Y.map fun l => shvL l (-maxL Y.flatten)) := by
      rw [List.eq_iff_flatten_eq]
      refine ⟨e, ?_⟩
      rw [List.map_map, List.map_map]
      have f1 : ∀ g, (List.length ∘ fun l => shvL l g) = List.length := fun g => by funext l; simp [shv_len]
      rw [f1, f1, rows_len hx, rows_len hy, h1, h2]
    have hi2 : i < Y.length := by omega
    have l1 := x5 i hi
    have l2 := y5 i hi2
    have g1 : X.getD i [] = X[i] := by simp [hi]
    have g2 : Y.getD i [] = Y[i] := by simp [hi2]
    have e3 : shvL X[i] (-maxL X.flatten) = shvL Y[i] (-maxL Y.flatten) := by
      have := congrArg (fun L => L.getD i []) e2
      simpa [hi, hi2] using this
    rw [shv_eq (by rw [← g1, ← g2, l1, l2, h2])] at e3
    have := e3 j (by rw [← g1, l1]; exact hj)
    unfold ent
    rw [g1, g2]
    exact this
theorem maxL_app (l r : List Int) : maxL (l ++ r) = max (maxL l) (maxL r) := by
  unfold maxL
  rw [List.foldl_append]
  have : ∀ (r : List Int) (a b : Int), r.foldl max (max a b) = max a (r.foldl max b) := by
    intro r
    induction r with
    | nil => intro a b; rfl
    | cons x r ih => intro a b; rw [List.foldl_cons, List.foldl_cons, Int.max_assoc, ih]
  have h2 := this r (l.foldl max (-1000000000000000)) (-1000000000000000)
  rw [← h2]
  congr 1
  have := (maxL_foldl l (-1000000000000000)).1
  omega
/-! The search. -/
def inn (ok : Nat → Bool) (rep : Nat → Nat → Bool) (gr : Nat → Nat → Int) (k : Nat) : Nat → Nat → Option (Int × Int × Int × Int)
  | 0, _ => none
  | m + 1, e => if ok e then (if rep k e then some ((k : Int), (e : Int) - k, gr k e, 0) else inn ok rep gr k m (e + 1)) else some (0, 0, 0, 3)
def out (ok : Nat → Bool) (rep : Nat → Nat → Bool) (gr : Nat → Nat → Int) : Nat → Nat → Int × Int × Int × Int
  | 0, _ => (0, 0, 0, 4)
  | m + 1, k => (inn ok rep gr k (m + 1) (k + 1)).getD (out ok rep gr m (k + 1))
def outI (ok : Nat → Bool) (rep : Nat → Nat → Bool) (gr : Nat → Nat → Int) (k e : Nat) : Int × Int × Int × Int := (inn ok rep gr k (101 - e) e).getD (out ok rep gr (99 - k) (k + 1))
theorem out_start {ok : Nat → Bool} {rep : Nat → Nat → Bool} {gr : Nat → Nat → Int} {k : Nat} (hk : k < 100) : out ok rep gr (100 - k) k = outI ok rep gr k (k + 1) := by
  obtain ⟨m, hm⟩ : ∃ m, 100 - k = m + 1 := ⟨99 - k, by omega⟩
  unfold outI
  rw [hm, out, show 101 - (k + 1) = m + 1 by omega, show 99 - k = m by omega]
theorem outI_limit {ok : Nat → Bool} {rep : Nat → Nat → Bool} {gr : Nat → Nat → Int} {k e : Nat} (he : e ≤ 100) (h : ok e = false) : outI ok rep gr k e = (0, 0, 0, 3) := by
  obtain ⟨m, hm⟩ : ∃ m, 101 - e = m + 1 := ⟨100 - e, by omega⟩
  unfold outI
  rw [hm, inn, h]
  rfl
theorem outI_found {ok : Nat → Bool} {rep : Nat → Nat → Bool} {gr : Nat → Nat → Int} {k e : Nat} (he : e ≤ 100) (h : ok e = true) (h2 : rep k e = true) : outI ok rep gr k e = ((k : Int), (e : Int) - k, gr k e, 0) := by
  obtain ⟨m, hm⟩ : ∃ m, 101 - e = m + 1 := ⟨100 - e, by omega⟩
  unfold outI
  rw [hm, inn, h, h2]
  rfl
theorem outI_next {ok : Nat → Bool} {rep : Nat → Nat → Bool} {gr : Nat → Nat → Int} {k e : Nat} (he : e ≤ 100) (h : ok e = true) (h2 : rep k e = false) : outI ok rep gr k e = outI ok rep gr k (e + 1) := by
  obtain ⟨m, hm⟩ : ∃ m, 101 - e = m + 1 := ⟨100 - e, by omega⟩
  unfold outI
  rw [hm, inn, h, h2, show 101 - (e + 1) = m by omega]
  rfl
theorem outI_end {ok : Nat → Bool} {rep : Nat → Nat → Bool} {gr : Nat → Nat → Int} {k e : Nat} (he : ¬ e ≤ 100) (hk : k < 100) : outI ok rep gr k e = out ok rep gr (100 - (k + 1)) (k + 1) := by
  unfold outI
  rw [show 101 - e = 0 by omega, inn, show 100 - (k + 1) = 99 - k by omega]
  rfl
def okQ (R F : List (List Int)) (k : Nat) : Bool := isMat (sq7 R F k)
def repQ (R F : List (List Int)) (k e : Nat) : Bool := decide (nrm (sq7 R F k).flatten = nrm (sq7 R F e).flatten)
def grQ (R F : List (List Int)) (k e : Nat) : Int := maxL (sq7 R F e).flatten - maxL (sq7 R F k).flatten
def fnd (R F : List (List Int)) : Int × Int × Int × Int := out (okQ R F) (repQ R F) (grQ R F) 100 0
/-- All elements up to k consist of values. -/
def okTo (R F : List (List Int)) (k : Nat) : Prop := ∀ j, j ≤ k → okQ R F j = true
theorem sq7_len {R F : List (List Int)} (h : F.length = R.length) : ∀ k, (sq7 R F k).length = R.length
  | 0 => h
  | k + 1 => by show (mulM R _).length = _; simp [mulM]
theorem sq7_wid {R F : List (List Int)} (h0 : 0 < R.length) : ∀ k, wid (sq7 R F k) = wid F
  | 0 => rfl
  | k + 1 => by show wid (mulM R _) = _; unfold mulM; rw [mk_wid _ _ _ h0]; exact sq7_wid h0 k
theorem sqL_len (R F : List (List Int)) (k : Nat) : (sqL R F k).length = k := by simp [sqL]
theorem sqL_next (R F : List (List Int)) (k : Nat) : sqL R F (k + 1) = sqL R F k ++ [(sq7 R F k).flatten] := by simp [sqL, List.range_succ]
theorem sqL_get {R F : List (List Int)} {k i : Nat} (h : i < k) : (sqL R F k).getD i [] = (sq7 R F i).flatten := by simp [sqL, h]
/-- A column's sequence is its orbit. -/
theorem sq7_col {R : List (List Int)} {x : List Int} (hx : x.length = R.length) : ∀ k, sq7 R (mk R.length 1 fun i _ => x.getD i 0) k = mk R.length 1 fun i _ => (orb R x k).getD i 0
  | 0 => rfl
  | k + 1 => by
    show mulM R _ = _
    rw [sq7_col hx k]
    unfold mulM
    by_cases h0 : 0 < R.length
    · rw [mk_wid _ _ _ h0]
      refine mk_congr fun i hi j hj => ?_
      rw [orb, apply_get hi, orb_len hx k]
      unfold dot
      rw [show (mk R.length 1 fun i _ => (orb R x k).getD i 0).length = R.length by simp]
      refine sumN_congr fun t ht => ?_
      rw [ent_mk _ _ _ _ _ ht hj]
    · have : R.length = 0 := by omega
      simp [mk, this]
theorem mk_one_flat (n : Nat) (f : Nat → Int) : (mk n 1 fun i _ => f i).flatten = (List.range n).map f := by
  unfold mk
  induction List.range n with
  | nil => rfl
  | cons a l ih => simpa using ih
theorem orb_flat {R : List (List Int)} {x : List Int} (hx : x.length = R.length) (k : Nat) : (sq7 R (mk R.length 1 fun i _ => x.getD i 0) k).flatten = orb R x k := by
  rw [sq7_col hx, mk_one_flat]
  refine list_ext0 (by rw [orb_len hx]; simp) fun i hi => ?_
  have hi2 : i < R.length := by simpa using hi
  simp [hi2]
end M
end Go.Proofs.Ytmobcobdpemlnaa

namespace Go.Proofs.Ytmobcobdpemlnaa.V
open Go.RowKit
/-- An owned matrix all of whose blocks have the property P. -/
def OwnP (w : World) (B : Nat) (P : Nat → Prop) (v : Value) (R : List (List Int)) : Prop :=
  ∃ V, OwnV w B v R V ∧ (∀ k, v.ownBlock = some k → P k) ∧ ∀ i, i < R.length → ∀ k, (V.getD i (.slice none 0 0)).ownBlock = some k → P k
theorem OwnP.toM {w : World} {B : Nat} {P : Nat → Prop} {v : Value} {R : List (List Int)} (h : OwnP w B P v R) : OwnM w B v R := by
  obtain ⟨V, h, -⟩ := h
  exact ⟨V, h⟩
theorem OwnM.toP {w : World} {B : Nat} {P : Nat → Prop} {v : Value} {R : List (List Int)} (h : OwnM w B v R) (hP : ∀ k, B ≤ k → k < w.heap.size → P k) : OwnP w B P v R := by
  obtain ⟨V, h⟩ := h
  refine ⟨V, h, fun k hk => ?_, fun i hi k hk => ?_⟩
  · have := own_lt h.2.1 hk; exact hP k this.1 this.2
  · have := own_lt (h.2.2.1 i hi) hk; exact hP k this.1 this.2
theorem OwnP.imp {w : World} {B : Nat} {P Q : Nat → Prop} {v : Value} {R : List (List Int)} (h : OwnP w B P v R) (hP : ∀ k, P k → Q k) : OwnP w B Q v R := by
  obtain ⟨V, h, h1, h2⟩ := h
  exact ⟨V, h, fun k hk => hP k (h1 k hk), fun i hi k hk => hP k (h2 i hi k hk)⟩
theorem OwnP.mono {w : World} {B B' : Nat} {P : Nat → Prop} {v : Value} {R : List (List Int)} (h : OwnP w B P v R) (hb : B' ≤ B) : OwnP w B' P v R := by
  obtain ⟨V, ⟨h1, h2, h3, h4, h5⟩, k1, k2⟩ := h
  exact ⟨V, ⟨h1, World.ownsRow.mono h2 hb, fun i hi => (h3 i hi).mono hb, h4, h5⟩, k1, k2⟩
theorem OwnP.keep {w w' : World} {B : Nat} {P : Nat → Prop} {v : Value} {R : List (List Int)} (h : OwnP w B P v R) (hk : ∀ k, P k → B ≤ k → k < w.heap.size → w'.heap[k]? = w.heap[k]?) : OwnP w' B P v R := by
  obtain ⟨V, ⟨h1, h2, h3, h4, h5⟩, k1, k2⟩ := h
  exact ⟨V, ⟨h1, ownsRow_keep h2 (fun k hv => hk k (k1 k hv) (own_lt h2 hv).1 (own_lt h2 hv).2), fun i hi => ownsRow_keep (h3 i hi) (fun k hv => hk k (k2 i hi k hv) (own_lt (h3 i hi) hv).1 (own_lt (h3 i hi) hv).2), h4, h5⟩, k1, k2⟩
theorem OwnP.below {w w' : World} {B : Nat} {P : Nat → Prop} {v : Value} {R : List (List Int)} (h : OwnP w B P v R) (hb : Below w.heap.size w w') : OwnP w' B P v R :=
  h.keep (fun k _ _ h2 => hb.block k h2)
theorem OwnV.at {w : World} {B n cap : Nat} {a : Option Addr} {R : List (List Int)} {V : List Value} (h : OwnV w B (.slice a n cap) R V) (i j : Nat) (hi : i < n) (hj : j < (R.getD i []).length) :
    ∃ g q L c x, a = some ⟨g, 0, none⟩ ∧ B ≤ g ∧ B ≤ q ∧ L = (R.getD i []).length ∧ x = (R.getD i []).getD j 0 ∧ w.cell? ⟨g, i, none⟩ = some (.slice (some ⟨q, 0, none⟩) L c) ∧ w.cell? ⟨q, j, none⟩ = some (.int .i64 x) ∧ w.frozen? ⟨q, j, none⟩ = false ∧
      (V.getD i (.slice none 0 0)).ownBlock = some q ∧ ∀ y, OwnV (w.setCell ⟨q, j, none⟩ (.int .i64 y)) B (.slice a n cap) (R.set i ((R.getD i []).set j y)) V := by
  obtain ⟨h1, h2, h3, h4, h5⟩ := h
  obtain ⟨a', c', hv, hc, hm, hg⟩ := own_form h2
  injection hv with e1 e2 e3
  subst e1 e2 e3
  obtain ⟨g, rfl, hBg, hlt⟩ := hg (by omega)
  have hrow := h3 i hi
  obtain ⟨ra, rc, hrv, hrc, hrm, hrg⟩ := own_form hrow
  obtain ⟨q, rfl, hBq, hqlt⟩ := hrg (by omega)
  have hcell := World.ownsRow.cellAt h2 i (by omega)
  have hVi : V[i]? = some (V.getD i (.slice none 0 0)) := by simp [h1, hi]
  have hrow' := hrow
  rw [hrv] at hrow'
  have hcell2 := World.ownsRow.cellAt hrow' j (by omega)
  refine ⟨g, q, _, rc, _, rfl, hBg, hBq, rfl, rfl, ?_, ?_, World.ownsRow.frozenAt hrow' j, by rw [hrv]; rfl, fun y => ?_⟩
  · rw [hcell, hVi, hrv]
  · rw [hcell2]
    generalize R.getD i [] = l at hj
    simp [hj]
  · have hqg : q ≠ g := fun e => h4 i hi q (by rw [hrv]; rfl) (by rw [e]; rfl)
    refine ⟨by simpa using h1, ?_, ?_, ?_, ?_⟩
    · rw [List.length_set]
      exact ownsRow_keep h2 (fun k hv => Below.heap_setCell _ _ _ _ (by
        simp only [Value.ownBlock, Option.some.injEq] at hv; show k ≠ q; omega))
    · intro t ht
      simp only [List.length_set] at ht
      rw [getD_set _ _ _ _ _ (by omega)]
      by_cases e : t = i
      · subst e
        rw [if_pos rfl, hrv]
        exact Own.set hrow' j y
      · rw [if_neg e]
        refine ownsRow_keep (h3 t ht) (fun k hv => Below.heap_setCell _ _ _ _ ?_)
        show k ≠ q
        intro e2
        subst e2
        exact h5 t i ht hi e k hv (by rw [hrv]; rfl)
    · intro t ht
      simp only [List.length_set] at ht
      exact h4 t ht
    · intro t s ht hs
      simp only [List.length_set] at ht hs
      exact h5 t s ht hs

/-- What is needed to read and to write the entry at i, j. -/
theorem OwnP.at {w : World} {B n cap : Nat} {P : Nat → Prop} {a : Option Addr} {R : List (List Int)} (h : OwnP w B P (.slice a n cap) R) (i j : Nat) (hi : i < n) (hj : j < (R.getD i []).length) :
    ∃ g q L c x, a = some ⟨g, 0, none⟩ ∧ B ≤ g ∧ B ≤ q ∧ P q ∧ L = (R.getD i []).length ∧ x = (R.getD i []).getD j 0 ∧ w.cell? ⟨g, i, none⟩ = some (.slice (some ⟨q, 0, none⟩) L c) ∧ w.cell? ⟨q, j, none⟩ = some (.int .i64 x) ∧ w.frozen? ⟨q, j, none⟩ = false ∧
      ∀ y, OwnP (w.setCell ⟨q, j, none⟩ (.int .i64 y)) B P (.slice a n cap) (R.set i ((R.getD i []).set j y)) := by
  have hn := (OwnP.toM h).len
  obtain ⟨V, h, k1, k2⟩ := h
  obtain ⟨g, q, L, c, x, e1, e2, e3, e4, e5, c1, c2, f, hq, ho⟩ := h.at i j hi hj
  exact ⟨g, q, L, c, x, e1, e2, e3, k2 i (by omega) q hq, e4, e5, c1, c2, f, fun y => ⟨V, ho y, k1, fun i hi => k2 i (by simpa using hi)⟩⟩
theorem OwnV.snocV {w w1 w2 : World} {B q : Nat} {v v' rv : Value} {R : List (List Int)} {V : List Value} {l : List Int} (h : OwnV w B v R V) (hb : Below w.heap.size w w1) (hB : B ≤ w.heap.size) (ho : Own w1 w.heap.size rv l)
    (hw2 : w2.ownsRow B 26 1 v' (R.length + 1) (V ++ [rv])) (hg : ∀ k, k < w1.heap.size → v.ownBlock ≠ some k → w2.heap[k]? = w1.heap[k]?)
    (hvb : v'.ownBlock = v.ownBlock ∨ v'.ownBlock = some q) (hq : w1.heap.size ≤ q) : OwnV w2 B v' (R ++ [l]) (V ++ [rv]) := by
  obtain ⟨h1, h2, h3, h4, h5⟩ := h
  have eV : ∀ j, j < R.length → (V ++ [rv]).getD j (.slice none 0 0) = V.getD j (.slice none 0 0) := fun j hj => by
    simp [List.getD_eq_getElem?_getD, List.getElem?_append_left, h1, hj]
  have eV1 : (V ++ [rv]).getD R.length (.slice none 0 0) = rv := by
    simp [List.getD_eq_getElem?_getD, ← h1]
  have eR : ∀ j, j < R.length → (R ++ [l]).getD j [] = R.getD j [] := fun j hj => by
    simp [List.getD_eq_getElem?_getD, List.getElem?_append_left, hj]
  have eR1 : (R ++ [l]).getD R.length [] = l := by
    simp [List.getD_eq_getElem?_getD]
  have hold : ∀ j, j < R.length → ∀ k, (V.getD j (.slice none 0 0)).ownBlock = some k → k < w.heap.size := fun j hj k hk => (own_lt (h3 j hj) hk).2
  have hvn : ∀ k, k < w1.heap.size → v.ownBlock ≠ some k → v'.ownBlock ≠ some k := fun k hk hne => by
    rcases hvb with e | e
    · rw [e]; exact hne
    · rw [e]; intro e2; simp only [Option.some.injEq] at e2; omega
  have hvold : ∀ k, v.ownBlock = some k → k < w.heap.size := fun k hk => (own_lt h2 hk).2
  have hs := hb.size
  refine ⟨by simp [h1], by simpa using hw2, ?_, ?_, ?_⟩
  · intro j hj
    simp only [List.length_append, List.length_singleton] at hj
    by_cases e : j < R.length
    · rw [eV j e, eR j e]
      exact ownsRow_keep (h3 j e) (fun k hv => by
        have := hold j e k hv
        rw [hg k (by omega) (h4 j e k hv)]; exact hb.block k this)
    · obtain rfl : j = R.length := by omega
      rw [eV1, eR1]
      refine (ownsRow_keep ho (fun k hv => hg k (own_lt ho hv).2 (fun e2 => ?_)) : Own _ _ _ _).mono hB
      have := (own_lt ho hv).1
      have := hvold k e2
      omega
  · intro j hj k hk
    simp only [List.length_append, List.length_singleton] at hj
    by_cases e : j < R.length
    · rw [eV j e] at hk
      have := hold j e k hk
      exact hvn k (by omega) (h4 j e k hk)
    · obtain rfl : j = R.length := by omega
      rw [eV1] at hk
      have := own_lt ho hk
      exact hvn k this.2 (fun e2 => by have := hvold k e2; omega)
  · intro i j hi hj hne k hk
    simp only [List.length_append, List.length_singleton] at hi hj
    by_cases e : i < R.length
    · rw [eV i e] at hk
      by_cases e2 : j < R.length
      · rw [eV j e2]; exact h5 i j e e2 hne k hk
      · obtain rfl : j = R.length := by omega
        rw [eV1]
        intro e3
        have := hold i e k hk
        have := (own_lt ho e3).1
        omega
    · obtain rfl : i = R.length := by omega
      rw [eV1] at hk
      have e2 : j < R.length := by omega
      rw [eV j e2]
      intro e3
      have := hold j e2 k e3
      have := (own_lt ho hk).1
      omega
/-- A row of its own is appended, at a step of a region. -/
theorem step_appendRowP (w0 w : World) {ops : Array Oper} {o : Oper} {a : Act} {K : Act → World → Prop} {Q : Exit → Act → World → Prop} {E : Prop} (hgd : o.guard = none) (s x : Operand)
    (ho : o.op = .call { callee := .builtin .append, args := #[s, x], argTypes := #[24, 24] }) (B : Nat) (P : Nat → Prop) (v rv : Value) (R : List (List Int)) (l : List Int) (n g : Nat) (hn : R.length = n) (hs : a.eval s = v) (hown : OwnP w0 B P v R) (hb : Below w0.heap.size w0 w) (hro : Own w w0.heap.size rv l)
    (hx : a.eval x = .slice (some ⟨g, 0, none⟩) 1 1) (hy : w.cell? ⟨g, 0, none⟩ = some rv) (hlen : n ≤ 2000000) (hB : B ≤ w0.heap.size) (hP : ∀ k, w0.heap.size ≤ k → P k)
    (h : ∀ b' c' w', OwnP w' B P (.slice b' (n + 1) c') (R ++ [l]) → Below B w w' → (∀ k, k < w.heap.size → v.ownBlock ≠ some k → w'.heap[k]? = w.heap[k]?) → K (a.put o.dst (.slice b' (n + 1) c')) w') :
    if Region.wanted o (yielded ops a.tmps) = true then Oper.wp Try.prog o a w K Q else E := by
  subst hn
  obtain ⟨i0, hi, hz0, hz1, hz2⟩ := info_parts infoS64
  have hsz := hb.size
  obtain ⟨V, ⟨h1, h2, h3⟩, k1, k2⟩ := hown
  have hwV : w.ownsRow B 26 1 v R.length V := ownsRow_keep h2 (fun k hv => hb.block k (own_lt h2 hv).2)
  refine step_append_lies w hgd s x 24 ho B 26 i0 (.slice none 0 0) 1 24 Try.underlying24 hi hz0 hz1 hz2 rfl (by decide) v R.length V hs hwV ⟨g, 0, none⟩ 1 1 [rv] hx rfl ?c1 ?c2 (by decide) ?c3 ?c4 (Nat.le_trans hB hsz) w.heap.size rfl ?_
  case c1 =>
    intro j u hj
    have : j = 0 := by
      cases j with
      | zero => rfl
      | succ j => simp at hj
    subst this
    simp at hj
    subst hj
    exact hy
  case c2 =>
    intro u hu; simp at hu; subst hu
    obtain ⟨b', c', hv', _⟩ := own_form hro
    rw [hv']; rfl
  case c3 => unfold maxLen; omega
  case c4 => omega
  · intro g' cap' w' hown' hgrow hat hlt
    have hg : ∀ k, k < w.heap.size → v.ownBlock ≠ some k → w'.heap[k]? = w.heap[k]? := fun k hk hne => by
      obtain ⟨_, _, _, _, g5⟩ := hgrow
      exact g5 k hk (fun e => hne e.symm)
    have hV := OwnV.snocV (q := w.heap.size) (v' := .slice (some ⟨g', 0, none⟩) (R.length + 1) cap') ⟨h1, h2, h3⟩ hb hB hro hown' hg (by
      rcases hat with e | e
      · left; rw [e]; rfl
      · right; rw [e]; rfl) (Nat.le_refl _)
    refine h _ _ w' ⟨V ++ [rv], hV, fun k hk => ?_, fun i hi k hk => ?_⟩ ((Below.refl B w).grown hgrow (Nat.le_trans hB hsz) (fun k hk => (own_lt h2 hk).1)) hg
    · have hk' : g' = k := by simpa [Value.ownBlock] using hk
      subst hk'
      rcases hat with e | e
      · exact k1 _ e
      · exact hP _ (by omega)
    · have hlen : V.length = R.length := h1
      simp only [List.length_append, List.length_singleton] at hi
      by_cases q : i < R.length
      · rw [List.getD_eq_getElem?_getD, List.getElem?_append_left (by omega), ← List.getD_eq_getElem?_getD] at hk
        exact k2 i q k hk
      · obtain rfl : i = V.length := by omega
        have e : (V ++ [rv]).getD V.length (.slice none 0 0) = rv := by simp [List.getD_eq_getElem?_getD]
        rw [e] at hk
        exact hP k (own_lt hro hk).1
end Go.Proofs.Ytmobcobdpemlnaa.V

namespace Go.Proofs.Ytmobcobdpemlnaa.V
open Go.RowKit

/-- The matrix whose diagonal is 0 before row k. -/
def M.diaF (A : Nat → Nat → Int) (n k i j : Nat) : Int := if i = j ∧ i < k then 0 else M.cfw A n i j
set_option maxRecDepth 100000 in
set_option maxHeartbeats 1000000 in
theorem starOf (a : Option Addr) (n cap : Nat) (R : List (List Int)) (w : World) (h : Sq w a n R) :
    Calls Try.prog 85 #[.slice a n cap] w (CPost (M.starL R n) w) := by
  have HS := Lib.hid h
  obtain ⟨n1, n2⟩ := h.2.2.2
  clear h
  obtain ⟨r, hr⟩ : ∃ r, r = M.plusL R n := ⟨_, rfl⟩
  have HC : Calls Try.prog 118 #[.slice a n cap] w (CPost r w) := by rw [hr]; exact plusOf _ _ _ _ _ HS.out
  by_cases hp : M.noPos (M.ent R) n = true
  · have hr2 : r = (M.plusM R n, true) := by rw [hr]; unfold M.plusL; rw [hp]; rfl
    have HF : Hid (M.starL R n = (M.starM R n, true)) := by show _ = _; unfold M.starL; rw [hp]; rfl
    clear hr hp
    subst hr2
    go_enter Try.func85, Try.ntmps85
    go_wp2_with fail
    refine HC.mono ?_
    rintro e w1 ⟨a2, m, cap2, rfl, hO, hb⟩
    obtain rfl : m = n := by have := hO.len; simpa [M.plusM] using this
    have HO0 : Hid (OwnM w1 w.heap.size (.slice a2 m cap2) (M.mk m m (M.diaF (M.ent R) m 0))) :=
      (congrArg (OwnM _ _ _) (M.mk_congr fun i _ j _ => by unfold M.diaF; rw [if_neg (by omega)])).mp hO
    have HB0 := Lib.hid hb
    clear hO hb HC
    go_wp2
    go_loopw [6, 14] (fun _ i wr => ∃ k : Nat, k ≤ m ∧ i = .int .i64 k ∧ OwnM wr w.heap.size (.slice a2 m cap2) (M.mk m m (M.diaF (M.ent R) m k)) ∧ Below w.heap.size w wr) (fun _ i _ => m - (intOf i).toNat)
    case atStart => exact ⟨0, Nat.zero_le _, rfl, HO0.out, HB0.out⟩
    case round =>
      obtain ⟨k, hk, rfl, hO, hb⟩ := hrel
      have HO := Lib.hid hO
      have HB := Lib.hid hb
      clear hO hb HO0 HB0
      by_cases hlt : k < m
      · obtain ⟨g, q, L, c, x, rfl, hg, hq, hL, hx, h1, h2, h3, h4⟩ := HO.out.at k k hlt (by rw [M.mk_rowlen _ _ _ _ hlt]; exact hlt)
        rw [M.mk_rowlen _ _ _ _ hlt] at hL
        obtain rfl : m = L := hL.symm
        have hN := h4 0
        rw [M.mk_set _ _ _ _ _ _ hlt] at hN
        have HN := Lib.hid hN
        have hki : (k : Int) < (m : Int) := by omega
        clear hx h4 hN
        go_wp2
        go_roundw
        case rel =>
          refine ⟨k + 1, by omega, by go_num, (congrArg (OwnM _ _ _) (M.mk_congr fun i _ j _ => ?_)).mp HN.out, HB.out.setCell hq _⟩
          unfold M.diaF
          by_cases e : i = k
          · subst e
            by_cases e2 : j = i
            · subst e2; simp
            · rw [if_pos rfl, if_neg e2, if_neg (by omega), if_neg (by omega)]
          · rw [if_neg e]
            by_cases e2 : i = j ∧ i < k
            · rw [if_pos e2, if_pos (by omega)]
            · rw [if_neg e2, if_neg (by omega)]
        case measure => simp [intOf]; omega
      · obtain rfl : k = m := by omega
        go_wp2
        go_ret2
        rw [HF.out]
        refine ⟨_, _, _, rfl, (congrArg (OwnM _ _ _) (M.mk_congr fun i hi j _ => ?_)).mp HO.out, HB.out⟩
        unfold M.diaF M.starF
        by_cases e : i = j
        · rw [if_pos ⟨e, hi⟩, if_pos e]
        · rw [if_neg (by omega), if_neg e]
  · simp only [Bool.not_eq_true] at hp
    have hr2 : r = ([], false) := by rw [hr]; unfold M.plusL; rw [hp]; rfl
    have HF : Hid (M.starL R n = ([], false)) := by show _ = _; unfold M.starL; rw [hp]; rfl
    clear hr hp
    subst hr2
    go_enter Try.func85, Try.ntmps85
    go_wp2_with fail
    refine HC.mono ?_
    rintro e w1 ⟨a2, m, cap2, rfl, hO, hb⟩
    obtain rfl : m = 0 := by have := hO.len; simpa using this
    have HB0 := Lib.hid hb
    have HO0 := Lib.hid hO
    clear hO hb HC
    go_wp2
    go_loop [14] (fun i => i = .int .i64 0) (fun _ => 0)
    case atStart => rfl
    case round =>
      subst hrel
      go_wp2
      go_ret2
      rw [HF.out]
      exact ⟨_, _, _, rfl, HO0.out, HB0.out⟩



end Go.Proofs.Ytmobcobdpemlnaa.V

namespace Go.Proofs.Ytmobcobdpemlnaa.V
open Go.RowKit

end Go.Proofs.Ytmobcobdpemlnaa.V

namespace Go.Proofs.Ytmobcobdpemlnaa.V
open Go.RowKit

theorem OwnM.caps {w : World} {B n cap : Nat} {a : Option Addr} {R : List (List Int)} (h : OwnM w B (.slice a n cap) R) : n ≤ cap ∧ cap ≤ maxLen := by
  obtain ⟨V, h1, h2, _⟩ := h
  obtain ⟨a', c', hv, k1, k2, _⟩ := own_form h2
  injection hv with e1 e2 e3
  subst e2 e3
  exact ⟨k1, k2⟩
/-- One row of an owned matrix, as a list of its own. -/
theorem OwnM.row {w : World} {B n cap : Nat} {a : Option Addr} {R : List (List Int)} (h : OwnM w B (.slice a n cap) R) (i : Nat) (hi : i < n) :
    ∃ g ra rc, a = some ⟨g, 0, none⟩ ∧ w.cell? ⟨g, i, none⟩ = some (.slice ra (R.getD i []).length rc) ∧ Own w B (.slice ra (R.getD i []).length rc) (R.getD i []) := by
  have hl := h.len
  obtain ⟨V, h1, h2, h3, h4, h5⟩ := h
  obtain ⟨a', c', hv, hc, hm, hg⟩ := own_form h2
  injection hv with e1 e2 e3
  subst e1 e2 e3
  obtain ⟨g, rfl, hB, hlt⟩ := hg (by omega)
  have hr := h3 i (by omega)
  obtain ⟨ra, rc, hrv, _⟩ := own_form hr
  rw [hrv] at hr
  refine ⟨g, ra, rc, rfl, ?_, hr⟩
  rw [World.ownsRow.cellAt h2 i (by omega), ← hrv]
  simp [show i < V.length by omega]
theorem ownM_lit1 (w : World) (B : Nat) (hB : B ≤ w.heap.size) {rv : Value} {l : List Int} (ho : Own w B rv l) : OwnM (w.alloc (.cells #[rv] 26)) B (.slice (some ⟨w.heap.size, 0, none⟩) 1 1) [l] := by
  refine ⟨[rv], rfl, World.ownsRow_lit w #[rv] 1 hB (by decide) rfl, fun i hi => ?_, fun i hi k hk => ?_, fun i j hi hj hne => ?_⟩
  · obtain rfl : i = 0 := by simp at hi; omega
    exact ho.below (b_alloc w _)
  · obtain rfl : i = 0 := by simp at hi; omega
    have := (own_lt ho hk).2
    intro e
    simp only [Value.ownBlock, Option.some.injEq] at e
    omega
  · simp at hi hj; omega
/-- A part of one row. -/
theorem mat_sub {w : World} {b off n : Nat} {R : List (List Int)} (h : Mat w (some ⟨b, off, none⟩) n R) (k : Nat) (hk : k < n) : Mat w (some ⟨b, off + k, none⟩) 1 [R.getD k []] := by
  obtain ⟨h1, h2, h3⟩ := h
  refine ⟨rfl, by decide, .inr ?_⟩
  rcases h3 with h3 | ⟨b', off', e, hlt, hc⟩
  · omega
  · injection e with e
    injection e with e1 e2
    subst e1 e2
    refine ⟨b, off + k, rfl, hlt, fun i hi => ?_⟩
    obtain rfl : i = 0 := by omega
    obtain ⟨ra, rc, hr, hI⟩ := hc k hk
    exact ⟨ra, rc, hr, hI⟩
/-- The weights to a node, one row for each number of arcs. -/
def M.wtM (A : Nat → Nat → Int) (n t k : Nat) : List (List Int) := M.mk k n fun s j => M.cpw A n s t j
theorem M.wt_row (A : Nat → Nat → Int) (n t k s : Nat) (h : s < k) : (M.wtM A n t k).getD s [] = (List.range n).map fun j => M.cpw A n s t j := M.mk_row _ _ _ _ h
theorem M.wt_next (R : List (List Int)) (n t s : Nat) : (M.mk 1 n (fun i j => M.dot [(List.range n).map fun j => M.cpw (M.ent R) n s t j] R i j n)).getD 0 [] = (List.range n).map fun j => M.cpw (M.ent R) n (s + 1) t j := by
  rw [M.mk_row _ _ _ _ (by omega)]
  refine List.map_congr_left fun j _ => ?_
  unfold M.dot
  refine M.sumN_congr fun u hu => ?_
  congr 1
  unfold M.ent
  simp [hu]


end Go.Proofs.Ytmobcobdpemlnaa.V
