/- Texts laid together: D3b, D3c, D3d, D3e, MatJ, D3z, Dr4, Dxa, It3, It4. -/
import Derived.Test.YtmobcobdpemlnaaQa15
import Derived.Test.YtmobcobdpemlnaaQa6
import Derived.Test.YtmobcobdpemlnaaQa7
import Derived.Test.YtmobcobdpemlnaaQa8
import Derived.Deep.RegionHeld3
import Derived.StillTailTactics
import Derived.IntWalk
import Derived.Test.YtmobcobdpemlnaaQa10
import Derived.Test.YtmobcobdpemlnaaQa12
import Derived.Test.YtmobcobdpemlnaaQa9
set_option linter.unusedSimpArgs false
set_option linter.unusedVariables false
set_option linter.unusedSectionVars false
namespace Go.Proofs.Ytmobcobdpemlnaa.V
open Go.RowKit

end Go.Proofs.Ytmobcobdpemlnaa.V

namespace Go.Proofs.Ytmobcobdpemlnaa.V
open Go.RowKit


/-- A drawn matrix and two drawn numbers. -/
def DrawnMII (w : World) (e : Ending) (w' : World) : Prop :=
  ∃ (a : Option Addr) (n cap : Nat) (R : List (List Int)) (x y : Int), e = .returned (.tuple #[.slice a n cap, .int .i64 x, .int .i64 y]) ∧ Mat w' a n R ∧ Below w.heap.size w w'
end Go.Proofs.Ytmobcobdpemlnaa.V

namespace Go.Proofs.Ytmobcobdpemlnaa.V
open Go.RowKit

end Go.Proofs.Ytmobcobdpemlnaa.V

namespace Go.Proofs.Ytmobcobdpemlnaa.V
open Go.RowKit

theorem wrap100 (y : Nat) (h : y < 4) : IntKind.i64.wrap (100 + (y : Int)) = ((100 + y : Nat) : Int) := by
  rw [IntWalk.i64_in _ (by omega)]; omega
theorem made_ints3 (w : World) (n : Nat) (hn : n ≤ maxLen) : Ints .i64 (w.alloc (.cells (madeCells #[.int .i64 0] n) 2)) (some ⟨w.heap.size, 0, none⟩) n (List.replicate n 0) := by
  have hr := World.rowIs_made w (.int .i64 0) n 2
  refine ⟨by simp, hn, .inr ⟨_, _, rfl, by simp, fun i hi => ?_⟩⟩
  rw [Nat.zero_add, hr.cell hi]
  simp [hi]

theorem rlit0 (w : World) (B : Nat) (h : B ≤ w.heap.size) : Own (w.alloc (.cells #[.int .i64 0] 2)) B (.slice (some ⟨w.heap.size, 0, none⟩) 1 1) [0] := World.ownsRow_lit w #[.int .i64 0] 1 h (by decide) rfl
theorem mlit0 (w : World) (B : Nat) (h : B ≤ w.heap.size) : OwnM ((w.alloc (.cells #[.int .i64 0] 2)).alloc (.cells #[.slice (some ⟨w.heap.size, 0, none⟩) 1 1] 26)) B (.slice (some ⟨w.heap.size + 1, 0, none⟩) 1 1) [[0]] := by
  have := ownM_lit1 (w.alloc (.cells #[.int .i64 0] 2)) B (by simp; omega) (rlit0 w B h)
  simpa using this
theorem b_up {w X : World} (h : Below w.heap.size w X) (o : Obj) : Below w.heap.size w (X.alloc o) := h.alloc h.size _
/-- What the six orders leave. -/
def Fin6 (w w' : World) (a' a : Option Addr) (y : Nat) : Prop := Mat w' a' 1 [[0]] ∧ Ints .i64 w' a (100 + y) (List.replicate (100 + y) 0) ∧ Below w.heap.size w w'
theorem fin_a (w w3 w6 : World) (y : Nat) (hy : y < 2) (hg : w.heap.size < w3.heap.size) (hb : Below w.heap.size w w3) (ht : Thr w.heap.size ((w3.alloc (.cells #[.int .i64 0] 2)).alloc (.cells #[.slice (some ⟨w3.heap.size, 0, none⟩) 1 1] 26)).drew w6) :
    Fin6 w (w6.alloc (.cells (madeCells #[.int .i64 0] (100 + y)) 2)) (some ⟨w3.heap.size + 1, 0, none⟩) (some ⟨w6.heap.size, 0, none⟩) y :=
  ⟨(((mlit0 w3 w3.heap.size (Nat.le_refl _)).keep (w' := ((w3.alloc (.cells #[.int .i64 0] 2)).alloc (.cells #[.slice (some ⟨w3.heap.size, 0, none⟩) 1 1] 26)).drew) (fun _ _ _ => rfl)).thr ht hg).mat.below (b_alloc _ _), made_ints3 _ _ (by unfold maxLen; omega), b_up ((b_up (b_up hb _) _).drew.trans ht.below) _⟩
theorem fin_b (w w3 w6 : World) (y : Nat) (hy : y < 2) (hg : w.heap.size < w3.heap.size) (hb : Below w.heap.size w w3) (ht : Thr w.heap.size (w3.alloc (.cells #[.int .i64 0] 2)).drew w6) :
    Fin6 w ((w6.alloc (.cells #[.slice (some ⟨w3.heap.size, 0, none⟩) 1 1] 26)).alloc (.cells (madeCells #[.int .i64 0] (100 + y)) 2)) (some ⟨w6.heap.size, 0, none⟩) (some ⟨w6.heap.size + 1, 0, none⟩) y := by
  have h1 : Own (w3.alloc (.cells #[.int .i64 0] 2)).drew w3.heap.size (.slice (some ⟨w3.heap.size, 0, none⟩) 1 1) [0] := rlit0 w3 w3.heap.size (Nat.le_refl _)
  have hz : w3.heap.size ≤ w6.heap.size := by have := ht.below.size; simp at this; omega
  have h2 := made_ints3 (w6.alloc (.cells #[.slice (some ⟨w3.heap.size, 0, none⟩) 1 1] 26)) (100 + y) (by unfold maxLen; omega)
  exact ⟨(ownM_lit1 w6 w3.heap.size hz (h1.thr ht hg)).mat.below (b_alloc _ _), by simpa using h2, b_up (b_up ((b_up hb _).drew.trans ht.below) _) _⟩
theorem fin_c (w w3 w6 : World) (y : Nat) (hy : y < 2) (hg : w.heap.size < w3.heap.size) (hb : Below w.heap.size w w3) (ht : Thr w.heap.size (w3.alloc (.cells #[.int .i64 0] 2)).drew w6) :
    Fin6 w ((w6.alloc (.cells (madeCells #[.int .i64 0] (100 + y)) 2)).alloc (.cells #[.slice (some ⟨w3.heap.size, 0, none⟩) 1 1] 26)) (some ⟨w6.heap.size + 1, 0, none⟩) (some ⟨w6.heap.size, 0, none⟩) y := by
  have h1 : Own (w3.alloc (.cells #[.int .i64 0] 2)).drew w3.heap.size (.slice (some ⟨w3.heap.size, 0, none⟩) 1 1) [0] := rlit0 w3 w3.heap.size (Nat.le_refl _)
  have hz : w3.heap.size ≤ w6.heap.size := by have := ht.below.size; simp at this; omega
  have h2 := made_ints3 w6 (100 + y) (by unfold maxLen; omega)
  have h3 := ownM_lit1 (w6.alloc (.cells (madeCells #[.int .i64 0] (100 + y)) 2)) w3.heap.size (by simp; omega) ((h1.thr ht hg).below (b_alloc w6 _))
  exact ⟨by simpa using h3.mat, h2.below (b_alloc _ _), b_up (b_up ((b_up hb _).drew.trans ht.below) _) _⟩
theorem fin_d (w w3 w6 : World) (y : Nat) (hy : y < 2) (hb : Below w.heap.size w w3) (ht : Thr w.heap.size w3.drew w6) :
    Fin6 w (((w6.alloc (.cells #[.int .i64 0] 2)).alloc (.cells #[.slice (some ⟨w6.heap.size, 0, none⟩) 1 1] 26)).alloc (.cells (madeCells #[.int .i64 0] (100 + y)) 2)) (some ⟨w6.heap.size + 1, 0, none⟩) (some ⟨w6.heap.size + 1 + 1, 0, none⟩) y := by
  have h2 := made_ints3 ((w6.alloc (.cells #[.int .i64 0] 2)).alloc (.cells #[.slice (some ⟨w6.heap.size, 0, none⟩) 1 1] 26)) (100 + y) (by unfold maxLen; omega)
  exact ⟨(mlit0 w6 _ (Nat.le_refl _)).mat.below (b_alloc _ _), by simpa using h2, b_up (b_up (b_up (hb.drew.trans ht.below) _) _) _⟩
theorem fin_e (w w3 w6 : World) (y : Nat) (hy : y < 2) (hb : Below w.heap.size w w3) (ht : Thr w.heap.size w3.drew w6) :
    Fin6 w (((w6.alloc (.cells #[.int .i64 0] 2)).alloc (.cells (madeCells #[.int .i64 0] (100 + y)) 2)).alloc (.cells #[.slice (some ⟨w6.heap.size, 0, none⟩) 1 1] 26)) (some ⟨w6.heap.size + 1 + 1, 0, none⟩) (some ⟨w6.heap.size + 1, 0, none⟩) y := by
  have h2 := made_ints3 (w6.alloc (.cells #[.int .i64 0] 2)) (100 + y) (by unfold maxLen; omega)
  have h3 := ownM_lit1 ((w6.alloc (.cells #[.int .i64 0] 2)).alloc (.cells (madeCells #[.int .i64 0] (100 + y)) 2)) w6.heap.size (by simp; omega) ((rlit0 w6 _ (Nat.le_refl _)).below (b_alloc _ _))
  exact ⟨by simpa using h3.mat, by simpa using h2.below (b_alloc _ _), b_up (b_up (b_up (hb.drew.trans ht.below) _) _) _⟩
theorem fin_f (w w3 w6 : World) (y : Nat) (hy : y < 2) (hb : Below w.heap.size w w3) (ht : Thr w.heap.size w3.drew w6) :
    Fin6 w (((w6.alloc (.cells (madeCells #[.int .i64 0] (100 + y)) 2)).alloc (.cells #[.int .i64 0] 2)).alloc (.cells #[.slice (some ⟨w6.heap.size + 1, 0, none⟩) 1 1] 26)) (some ⟨w6.heap.size + 1 + 1, 0, none⟩) (some ⟨w6.heap.size, 0, none⟩) y := by
  have h2 := made_ints3 w6 (100 + y) (by unfold maxLen; omega)
  have h3 := mlit0 (w6.alloc (.cells (madeCells #[.int .i64 0] (100 + y)) 2)) _ (Nat.le_refl _)
  exact ⟨by simpa using h3.mat, (h2.below (b_alloc _ _)).below (b_alloc _ _), b_up (b_up (b_up (hb.drew.trans ht.below) _) _) _⟩

/-- A drawn matrix and a drawn list of nodes. -/
def DrawnMN (w : World) (e : Ending) (w' : World) : Prop :=
  ∃ (a : Option Addr) (n cap : Nat) (R : List (List Int)) (a' : Option Addr) (N cap' : Nat) (l : List Int), e = .returned (.tuple #[.slice a n cap, .slice a' N cap']) ∧ Mat w' a n R ∧ Ints .i64 w' a' N l ∧ N ≤ cap' ∧ cap' ≤ maxLen ∧ Below w.heap.size w w'
theorem fin_out {w w' : World} {a' a : Option Addr} (y : Nat) (hy : y < 2) (h : Fin6 w w' a' a y) : DrawnMN w (.returned (.tuple #[.slice a' 1 1, .slice a (100 + y) (100 + y)])) w' :=
  ⟨_, _, _, _, _, _, _, _, rfl, h.1, h.2.1, Nat.le_refl _, by unfold maxLen; omega, h.2.2⟩
end Go.Proofs.Ytmobcobdpemlnaa.V

namespace Go.Proofs.Ytmobcobdpemlnaa
namespace M
section
variable {R : List (List Int)} {n : Nat} (hn : n ≤ 10) (hA : ∀ i j, i < n → j < n → Sm 1000001000000 (ent R i j))
include hn hA
/-- No path is heavier than the star says. -/
theorem along_star (hp : noPos (ent R) n = true) {l : List Int} (h1 : 1 ≤ l.length) (h2 : l.length ≤ 100) (hv : nodesB n l = true) : alongW R l ≤ starF (ent R) n (vx l (l.length - 1)) (vx l 0) := by
  have hd := o_diag hn hA hp
  have hx : ∀ u, u ≤ l.length - 1 → vx l u < n := fun u hu => by
    have := nodesB_at hv (k := u) (by omega)
    unfold vx; omega
  have hs : ∀ u, u < l.length - 1 → Sm 1000001000000 (ent R (vx l (u + 1)) (vx l u)) := fun u hu => hA _ _ (hx _ (by omega)) (hx _ (by omega))
  have e1 : o (starF (ent R) n (vx l (l.length - 1)) (vx l 0)) = obm (fun i j => o (ent R i j)) n n (vx l (l.length - 1)) (vx l 0) := by
    unfold starF
    rw [← clo_star hn hA hp (hx _ (Nat.le_refl _)) (hx 0 (Nat.zero_le _)), o_cbm hA n (by omega) _ _ (hx _ (Nat.le_refl _)) (hx 0 (Nat.zero_le _))]
  have e2 := owk_star hd (vx l) (l.length - 1) hx
  rw [← e1, ← o_wkc (by omega) hs] at e2
  exact (o_le (L := 100000000000000) (sm_up (wkc_sm hs) (by omega)) (sm_up (star_sm hn hA hp (hx _ (Nat.le_refl _)) (hx 0 (Nat.zero_le _))) (by omega)) (by omega)).1 e2
end
section
variable {R : List (List Int)} {n : Nat} (hA : ∀ i j, i < n → j < n → Sm 1000001000000 (ent R i j))
include hA
theorem hv_wkc {t s f : Nat} (hs : s ≤ 10) (ht : t < n) (hf : f < n) (h : cpw (ent R) n s t f ≠ -1000000000000000) (k : Nat) (hk : k ≤ s) :
    wkc (ent R) (xs (ent R) n t s f) k = cpw (ent R) n s t f - cpw (ent R) n (s - k) t (xs (ent R) n t s f k) := by
  induction k with
  | zero => show (0 : Int) = cpw (ent R) n s t f - cpw (ent R) n s t f; omega
  | succ k ih =>
    obtain ⟨h1, h2⟩ := xs_inv hA hs ht hf h k (by omega)
    obtain ⟨h3, h4⟩ := xs_inv hA hs ht hf h (k + 1) hk
    have h5 := xs_need hA hs ht hf h k (by omega)
    have b0 := cpw_sm hA s t f ht hf
    have b1 := cpw_sm hA (s - k) t _ ht h1
    have b2 := cpw_sm hA (s - (k + 1)) t _ ht h3
    have b3 := hA _ _ h3 h1
    have hs' : (1000001000000 : Int) * (s : Int) ≤ 10000010000000 := by omega
    have hk1 : (1000001000000 : Int) * ((s - k : Nat) : Int) ≤ 10000010000000 := by omega
    have hk2 : (1000001000000 : Int) * ((s - (k + 1) : Nat) : Int) ≤ 10000010000000 := by omega
    show times (wkc (ent R) (xs (ent R) n t s f) k) (ent R (xs (ent R) n t s f (k + 1)) (xs (ent R) n t s f k)) = _
    rw [ih (by omega), h5]
    rw [h5] at b2 h4
    unfold Sm at b0 b1 b2 b3
    unfold times
    rw [if_neg (by omega)]
    omega
theorem hv_along {t s f : Nat} (hs : s ≤ 10) (ht : t < n) (hf : f < n) (h : cpw (ent R) n s t f ≠ -1000000000000000) :
    alongW R (hvL (ent R) n t s f (s + 1)) = cpw (ent R) n s t f := by
  have e : wkc (ent R) (vx (hvL (ent R) n t s f (s + 1))) s = wkc (ent R) (xs (ent R) n t s f) s := wkc_congr fun u hu => by
    unfold vx; rw [hvL_at _ _ _ _ _ _ _ (by omega)]; simp
  unfold alongW
  rw [hvL_len, show s + 1 - 1 = s by omega, e, hv_wkc hA hs ht hf h s (Nat.le_refl _), Nat.sub_self, xs_end hA hs ht hf h]
  show _ - unit t t = _
  unfold unit
  rw [if_pos rfl]; omega
theorem hv_nodes {t s f : Nat} (hs : s ≤ 10) (ht : t < n) (hf : f < n) (h : cpw (ent R) n s t f ≠ -1000000000000000) : nodesB n (hvL (ent R) n t s f (s + 1)) = true := by
  unfold nodesB hvL
  rw [List.all_map, List.all_eq_true]
  intro i hi
  have := (xs_inv hA hs ht hf h i (by have := List.mem_range.1 hi; omega)).1
  simp [inN]; omega
end
/-- What an answer of HeaviestPath says. -/
theorem heavy_t {R : List (List Int)} {f t : Int} (h : (heavyRes R f t).2 = 0) : sqB R = true ∧ inN R.length f = true ∧ inN R.length t = true ∧ noPos (ent R) R.length = true ∧ starF (ent R) R.length t.toNat f.toNat ≠ -1000000000000000 ∧ heavyRes R f t = (hvL (ent R) R.length t.toNat (arcs (ent R) R.length f.toNat t.toNat) f.toNat (arcs (ent R) R.length f.toNat t.toNat + 1), 0) := by
  unfold heavyRes at h ⊢
  by_cases h1 : sqB R = true
  · rw [if_pos h1] at h ⊢
    by_cases h2 : (inN R.length f && inN R.length t) = true
    · rw [if_pos h2] at h ⊢
      rw [Bool.and_eq_true] at h2
      by_cases h3 : noPos (ent R) R.length = true
      · rw [if_pos h3] at h ⊢
        by_cases h4 : starF (ent R) R.length t.toNat f.toNat = -1000000000000000
        · rw [if_pos h4] at h; simp at h
        · rw [if_neg h4]; exact ⟨h1, h2.1, h2.2, h3, h4, rfl⟩
      · rw [if_neg h3] at h; simp at h
    · rw [if_neg h2] at h; simp at h
  · rw [if_neg h1] at h; simp at h
theorem path_t {R : List (List Int)} {l : List Int} (h : (pathRes R l).2 = 0) : sqB R = true ∧ 1 ≤ l.length ∧ l.length ≤ 100 ∧ nodesB R.length l = true ∧ pathRes R l = (alongW R l, 0) := by
  unfold pathRes at h ⊢
  by_cases h1 : sqB R = true
  · rw [if_pos h1] at h ⊢
    by_cases h2 : 1 ≤ l.length ∧ l.length ≤ 100 ∧ nodesB R.length l = true
    · rw [if_pos h2] at h ⊢
      by_cases h3 : alongW R l = -1000000000000000
      · rw [if_pos h3] at h; simp at h
      · rw [if_neg h3] at h ⊢
        unfold chk at h ⊢
        by_cases h4 : isVal (alongW R l) = true
        · rw [if_pos h4]; exact ⟨h1, h2.1, h2.2.1, h2.2.2, rfl⟩
        · rw [if_neg h4] at h; simp at h
    · rw [if_neg h2] at h; simp at h
  · rw [if_neg h1] at h; simp at h
theorem star_t {R : List (List Int)} (h : (starRes R).2 = 0) : sqB R = true ∧ noPos (ent R) R.length = true ∧ isMat (starM R R.length) = true ∧ starRes R = (starM R R.length, 0) := by
  unfold starRes at h ⊢
  by_cases h1 : sqB R = true
  · rw [if_pos h1] at h ⊢
    by_cases h3 : noPos (ent R) R.length = true
    · rw [if_pos h3] at h ⊢
      by_cases h4 : isMat (starM R R.length) = true
      · rw [if_pos h4]; exact ⟨h1, h3, h4, rfl⟩
      · rw [if_neg h4] at h; simp at h
    · rw [if_neg h3] at h; simp at h
  · rw [if_neg h1] at h; simp at h
theorem star_l {R : List (List Int)} (h1 : sqB R = true) (h3 : noPos (ent R) R.length = true) (h : (starRes R).2 ≠ 0) : starRes R = ([], 3) := by
  unfold starRes at h ⊢
  rw [if_pos h1, if_pos h3] at h ⊢
  by_cases h4 : isMat (starM R R.length) = true
  · rw [if_pos h4] at h; simp at h
  · rw [if_neg h4]
theorem starM_len (R : List (List Int)) (n : Nat) : (starM R n).length = n := mk_length _ _ _
theorem starM_wid (R : List (List Int)) {n : Nat} (h : 0 < n) : wid (starM R n) = n := mk_wid _ _ _ h
theorem starM_ent (R : List (List Int)) {n i j : Nat} (hi : i < n) (hj : j < n) : ent (starM R n) i j = starF (ent R) n i j := ent_mk _ _ _ _ _ hi hj
theorem starM_row (R : List (List Int)) {n i : Nat} (hi : i < n) : ((starM R n).getD i []).length = n := mk_rowlen _ _ _ _ hi
theorem isMat_ent {R : List (List Int)} (h : isMat R = true) {i j : Nat} (hi : i < R.length) (hj : j < wid R) : isVal (ent R i j) = true := (isMat_t h).2.2.2.2.2 i hi j hj
end M
end Go.Proofs.Ytmobcobdpemlnaa



namespace Go.Proofs.Ytmobcobdpemlnaa.V
set_option maxRecDepth 100000
open Go.RowKit
theorem ownM_two (w : World) (B : Nat) (hB : B ≤ w.heap.size) {v1 v2 : Value} {l1 l2 : List Int} (h1 : Own w B v1 l1) (h2 : Own w B v2 l2) (hne : ∀ k, v1.ownBlock = some k → v2.ownBlock ≠ some k) :
    OwnM (w.alloc (.cells #[v1, v2] 26)) B (.slice (some ⟨w.heap.size, 0, none⟩) 2 2) [l1, l2] := by
  have lt1 : ∀ k, v1.ownBlock = some k → k < w.heap.size := fun k hk => (own_lt h1 hk).2
  have lt2 : ∀ k, v2.ownBlock = some k → k < w.heap.size := fun k hk => (own_lt h2 hk).2
  refine ⟨[v1, v2], rfl, World.ownsRow_lit w #[v1, v2] 2 hB (by decide) rfl, fun i hi => ?_, fun i hi k hk => ?_, fun i j hi hj hij k hk => ?_⟩
  · have : i = 0 ∨ i = 1 := by simp at hi; omega
    rcases this with rfl | rfl
    · exact h1.below (b_alloc w _)
    · exact h2.below (b_alloc w _)
  · have hk2 : k < w.heap.size := by
      have : i = 0 ∨ i = 1 := by simp at hi; omega
      rcases this with rfl | rfl
      · exact lt1 k hk
      · exact lt2 k hk
    intro e
    simp only [Value.ownBlock, Option.some.injEq] at e
    omega
  · have hi' : i = 0 ∨ i = 1 := by simp at hi; omega
    have hj' : j = 0 ∨ j = 1 := by simp at hj; omega
    rcases hi' with rfl | rfl <;> rcases hj' with rfl | rfl
    · omega
    · exact hne k hk
    · intro e; exact hne k e hk
    · omega
theorem ownLit2D (w : World) (B : Nat) (hB : B ≤ w.heap.size) (x y : Int) : Own (w.alloc (.cells #[.int .i64 x, .int .i64 y] 2)) B (.slice (some ⟨w.heap.size, 0, none⟩) 2 2) [x, y] := World.ownsRow_lit w #[.int .i64 x, .int .i64 y] 2 hB (by decide) rfl
/-- A drawn matrix, of few rows, and a drawn number. -/
def DrawNB (g : Nat) (w : World) (e : Ending) (w' : World) : Prop :=
  ∃ (a : Option Addr) (n cap : Nat) (R : List (List Int)) (x : Int), e = .returned (.tuple #[.slice a n cap, .int .i64 x]) ∧ n ≤ 200 ∧ OwnM w' w.heap.size (.slice a n cap) R ∧ Src w' g ∧ Thr g w w'
end Go.Proofs.Ytmobcobdpemlnaa.V

namespace Go.Proofs.Ytmobcobdpemlnaa.V
set_option maxRecDepth 100000
open Go.RowKit
set_option maxRecDepth 100000 in
set_option maxHeartbeats 1000000 in
theorem drawCharPolynomial (a : Option Addr) (n cap : Nat) (w : World) (h : Bytes w a n) :
    Calls Try.prog 21 #[.slice a n cap] w (DrawnM w) := by
  have HB := Lib.hid h
  clear h
  go_enter Try.func21, Try.ntmps21
  go_wp2_with fail
  refine (from_ _ _ _ _ HB.out).mono ?_
  rintro e w1 ⟨rfl, hs1, hb1⟩
  have HS1 := Lib.hid hs1
  have HB1 := Lib.hid hb1
  clear hs1 hb1
  go_wp2_with fail
  refine (drawSquareB _ _ HS1.out).mono ?_
  rintro e w2 ⟨a2, n2, c2, R, rfl, -, ho, hs2, ht2⟩
  have HO := Lib.hid ho.mat
  have HB2 := Lib.hid (HB1.out.trans ht2.below)
  clear ho hs2 ht2
  go_wp2
  go_ret
  exact ⟨a2, n2, c2, R, rfl, HO.out, HB2.out⟩
set_option maxRecDepth 100000 in
set_option maxHeartbeats 2000000 in
theorem drawPermanentOf (a : Option Addr) (n cap : Nat) (w : World) (h : Bytes w a n) :
    Calls Try.prog 42 #[.slice a n cap] w (DrawnM w) := by
  have HB := Lib.hid h
  clear h
  go_enter Try.func42, Try.ntmps42
  go_wp2_with fail
  refine (from_ _ _ _ _ HB.out).mono ?_
  rintro e w2 ⟨rfl, hs1, hb1⟩
  have HS2 := Lib.hid hs1
  have HB2 := Lib.hid hb1
  have hgl := hs1.lt
  clear hs1 hb1
  go_wp2_with fail
  refine (next _ 30 _ (by decide) HS2.out).mono ?_
  rintro e w3 ⟨x, rfl, -, -, hs3, ht3⟩
  have HS3 := Lib.hid hs3
  have HB3 := Lib.hid (HB2.out.trans ht3.below)
  clear hs3 ht3 HS2 HB2
  by_cases hx0 : x = 0
  · subst hx0
    have hg3 := HS3.out.lt
    go_wp2_with fail
    refine (pick _ _ 0 2 2 _ (HS3.out.alloc _) (by omega) (by omega) hg3 (litCells _ [1000000, 7] _ _ rfl (by decide))).mono ?_
    rintro e w4 ⟨p1, rfl, -, hs4, ht4⟩
    have ht4' : Thr w.heap.size w3 w4 := ((Thr.refl _ w3).alloc (by omega) _).trans ht4
    have HS4 := Lib.hid hs4
    have HT4 := Lib.hid ht4'
    have hg4 := hs4.lt
    have hz34 : w3.heap.size ≤ w4.heap.size := ht4'.below.size
    clear hs4 ht4 ht4'
    obtain ⟨wr, hwr⟩ : ∃ x, x = w4.alloc (.cells #[.int .i64 p1, .int .i64 0] 2) := ⟨_, rfl⟩
    have HR1 : Hid (Own wr w3.heap.size (.slice (some ⟨w4.heap.size, 0, none⟩) 2 2) [p1, 0]) := by show Own _ _ _ _; rw [hwr]; exact ownLit2D _ _ hz34 _ _
    have HSr : Hid (Src wr w.heap.size) := by show Src _ _; rw [hwr]; exact HS4.out.alloc _
    have HTr : Hid (Thr w.heap.size w3 wr) := by show Thr _ _ _; rw [hwr]; exact HT4.out.alloc (by omega) _
    have hzr : wr.heap.size = w4.heap.size + 1 := by rw [hwr]; simp
    have hlit := litCells wr [0, 1] #[.int .i64 0, .int .i64 1] 2 rfl (by decide)
    rw [hzr] at hlit
    have HLit := Lib.hid hlit
    have HZr := Lib.hid hzr
    clear hlit hzr
    go_wp2_with fail
    simp only [← hwr]
    clear hwr
    refine (pick _ (w4.heap.size + 1) 0 2 2 _ (HSr.out.alloc _) (by omega) (by omega) (by omega) HLit.out).mono ?_
    rintro e w5 ⟨p2, rfl, -, hs5, ht5⟩
    have hzr := HZr.out
    have ht5' : Thr w.heap.size wr w5 := ((Thr.refl _ wr).alloc (by omega) _).trans ht5
    have HT5 := Lib.hid (HTr.out.trans ht5')
    have HR5 := Lib.hid (HR1.out.thr ht5' hg3)
    have hz5 : w4.heap.size < w5.heap.size := by have := ht5'.below; have h2 := ht5.below.size; simp at h2; omega
    clear hs5 ht5 ht5' HR1 hzr
    have hz5b : w3.heap.size ≤ w5.heap.size := by omega
    have hO := ownM_two (w5.alloc (.cells #[.int .i64 0, .int .i64 p2] 2)) w3.heap.size (by simp; omega) (HR5.out.below (b_alloc _ _)) (ownLit2D w5 w3.heap.size hz5b 0 p2) (fun k hk e => by
      simp only [Value.ownBlock, Option.some.injEq] at hk e
      omega)
    have hzz : (w5.alloc (.cells #[.int .i64 0, .int .i64 p2] 2)).heap.size = w5.heap.size + 1 := by simp
    rw [hzz] at hO
    have HO := Lib.hid hO.mat
    have HTf := Lib.hid ((HT5.out.alloc (by omega) (.cells #[.int .i64 0, .int .i64 p2] 2)).alloc (by simp; omega) (.cells #[.slice (some ⟨w4.heap.size, 0, none⟩) 2 2, .slice (some ⟨w5.heap.size, 0, none⟩) 2 2] 26))
    have HBf := Lib.hid (HB3.out.trans HTf.out.below)
    clear hO hzz HR5 HTf
    go_wp2
    go_ret
    exact ⟨_, _, _, _, rfl, HO.out, HBf.out⟩
  · have ex : (x == 0) = false := by simpa using hx0
    go_wp2_with fail
    refine (drawSquareB _ _ HS3.out).mono ?_
    rintro e w4 ⟨a2, n2, c2, R, rfl, -, ho, hs2, ht2⟩
    have HO := Lib.hid ho.mat
    have HB4 := Lib.hid (HB3.out.trans ht2.below)
    clear ho hs2 ht2
    go_wp2
    go_ret
    exact ⟨a2, n2, c2, R, rfl, HO.out, HB4.out⟩
set_option maxRecDepth 100000 in
set_option maxHeartbeats 1000000 in
theorem drawDualOf (a : Option Addr) (n cap : Nat) (w : World) (h : Bytes w a n) :
    Calls Try.prog 12 #[.slice a n cap] w (DrawnM w) := by
  have HB := Lib.hid h
  clear h
  go_enter Try.func12, Try.ntmps12
  go_wp2_with fail
  refine (drawPermanentOf _ _ _ _ HB.out).mono ?_
  rintro e w2 ⟨a2, n2, c2, R, rfl, hm, hb2⟩
  have HO := Lib.hid hm
  have HB2 := Lib.hid hb2
  clear hm hb2
  go_wp2
  go_ret
  exact ⟨a2, n2, c2, R, rfl, HO.out, HB2.out⟩
end Go.Proofs.Ytmobcobdpemlnaa.V

namespace Go.Proofs.Ytmobcobdpemlnaa.V
open Go Go.RowKit

end Go.Proofs.Ytmobcobdpemlnaa.V

namespace Go.Proofs.Ytmobcobdpemlnaa.V
open Go Go.RowKit

def mark (D : Nat) : Deferred := { target := .collected D, args := #[] }
/-- The marks Ds lie, all different, at or past lo. -/
def Marks (lo : Nat) (Ds : List Nat) (W : World) : Prop := Ds.Nodup ∧ ∀ D ∈ Ds, lo ≤ D ∧ W.heap[D]? = some (.deferred (some []))
theorem Marks.nil (lo : Nat) (W : World) : Marks lo [] W := ⟨List.nodup_nil, fun D h => by cases h⟩
theorem Marks.keep {lo Bx N : Nat} {Ds : List Nat} {A B : World} {v : Value} (h : Marks lo Ds A) (hx : A.cell? ⟨Bx, 0, none⟩ = some v) (hN : A.heap.size ≤ N) (hk : ∀ k, k < N → k ≠ Bx → B.heap[k]? = A.heap[k]?) : Marks lo Ds B :=
  ⟨h.1, fun D hD => by
    obtain ⟨h1, h2⟩ := h.2 D hD
    have hlt := (Array.getElem?_eq_some_iff.1 h2).1
    refine ⟨h1, (hk D (by omega) ?_).trans h2⟩
    rintro rfl
    simp [World.cell?, h2] at hx⟩
theorem Marks.cons {lo D : Nat} {Ds : List Nat} {A B : World} (h : Marks lo Ds A) (hB : Marks lo Ds B) (hD : A.heap.size ≤ D) (hlo : lo ≤ D) (hd : B.heap[D]? = some (.deferred (some []))) : Marks lo (D :: Ds) B :=
  ⟨List.nodup_cons.2 ⟨fun hm => by
    have := (Array.getElem?_eq_some_iff.1 (h.2 D hm).2).1
    omega, h.1⟩, fun E hE => by
    rcases List.mem_cons.1 hE with rfl | hE
    · exact ⟨hlo, hd⟩
    · exact hB.2 E hE⟩
theorem leaves_marks {P : Program} {n : Nat} {fn : Func} {tmps : Array Value} {R : Ending → World → Prop} {lo : Nat} (Good : World → Prop) (hG : ∀ W D o, Good W → lo ≤ D → W.heap[D]? = some (.deferred (some [])) → Good (W.putObj D o))
    (hfin : ∀ W, Good W → LeavesInM Fence.wide n P fn tmps R [] .returning W) (Ds : List Nat) : ∀ W, Marks lo Ds W → Good W → LeavesInM Fence.wide n P fn tmps R (Ds.map mark) .returning W := by
  induction Ds with
  | nil => intro W _ hg; exact hfin W hg
  | cons D Ds ih =>
    intro W hm hg
    obtain ⟨h1, h2⟩ := hm.2 D (by simp)
    refine ⟨by simp, .inl ⟨D, _, rfl, run_takeDeferred h2, ih _ ?_ (hG _ _ _ hg h1 h2)⟩⟩
    refine ⟨(List.nodup_cons.1 hm.1).2, fun E hE => ?_⟩
    obtain ⟨q1, q2⟩ := hm.2 E (List.mem_cons_of_mem _ hE)
    refine ⟨q1, (World.putObj_heap_other ?_).trans q2⟩
    rintro rfl
    exact (List.nodup_cons.1 hm.1).1 hE
end Go.Proofs.Ytmobcobdpemlnaa.V
