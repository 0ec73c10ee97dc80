/- Texts laid together: MatJ. -/
import Derived.Test.YtlljnfljcdljaabGreatQz23
set_option linter.unusedSimpArgs false
set_option linter.unusedVariables false
set_option linter.unusedSectionVars false
namespace Go.Proofs.YtlljnfljcdljaabGreat
namespace M
section
variable {R : List (List Int)} {n : Nat} (hn : n ≤ 10) (hA : ∀ i j, i < n → j < n → Sm 1000001000000 (ent R i j))
include hn hA
/-- No path is heavier than the star says. -/
theorem along_star (hp : noPos (ent R) n = true) {l : List Int} (h1 : 1 ≤ l.length) (h2 : l.length ≤ 100) (hv : nodesB n l = true) : alongW R l ≤ starF (ent R) n (vx l (l.length - 1)) (vx l 0) := by
  have hd := o_diag hn hA hp
  have hx : ∀ u, u ≤ l.length - 1 → vx l u < n := fun u hu => by
    have := nodesB_at hv (k := u) (by omega)
    unfold vx; omega
  have hs : ∀ u, u < l.length - 1 → Sm 1000001000000 (ent R (vx l (u + 1)) (vx l u)) := fun u hu => hA _ _ (hx _ (by omega)) (hx _ (by omega))
  have e1 : o (starF (ent R) n (vx l (l.length - 1)) (vx l 0)) = obm (fun i j => o (ent R i j)) n n (vx l (l.length - 1)) (vx l 0) := by
    unfold starF
    rw [← clo_star hn hA hp (hx _ (Nat.le_refl _)) (hx 0 (Nat.zero_le _)), o_cbm hA n (by omega) _ _ (hx _ (Nat.le_refl _)) (hx 0 (Nat.zero_le _))]
  have e2 := owk_star hd (vx l) (l.length - 1) hx
  rw [← e1, ← o_wkc (by omega) hs] at e2
  exact (o_le (L := 100000000000000) (sm_up (wkc_sm hs) (by omega)) (sm_up (star_sm hn hA hp (hx _ (Nat.le_refl _)) (hx 0 (Nat.zero_le _))) (by omega)) (by omega)).1 e2
end
section
variable {R : List (List Int)} {n : Nat} (hA : ∀ i j, i < n → j < n → Sm 1000001000000 (ent R i j))
include hA
theorem hv_wkc {t s f : Nat} (hs : s ≤ 10) (ht : t < n) (hf : f < n) (h : cpw (ent R) n s t f ≠ -1000000000000000) (k : Nat) (hk : k ≤ s) :
    wkc (ent R) (xs (ent R) n t s f) k = cpw (ent R) n s t f - cpw (ent R) n (s - k) t (xs (ent R) n t s f k) := by
  induction k with
  | zero => show (0 : Int) = cpw (ent R) n s t f - cpw (ent R) n s t f; omega
  | succ k ih =>
    obtain ⟨h1, h2⟩ := xs_inv hA hs ht hf h k (by omega)
    obtain ⟨h3, h4⟩ := xs_inv hA hs ht hf h (k + 1) hk
    have h5 := xs_need hA hs ht hf h k (by omega)
    have b0 := cpw_sm hA s t f ht hf
    have b1 := cpw_sm hA (s - k) t _ ht h1
    have b2 := cpw_sm hA (s - (k + 1)) t _ ht h3
    have b3 := hA _ _ h3 h1
    have hs' : (1000001000000 : Int) * (s : Int) ≤ 10000010000000 := by omega
    have hk1 : (1000001000000 : Int) * ((s - k : Nat) : Int) ≤ 10000010000000 := by omega
    have hk2 : (1000001000000 : Int) * ((s - (k + 1) : Nat) : Int) ≤ 10000010000000 := by omega
    show times (wkc (ent R) (xs (ent R) n t s f) k) (ent R (xs (ent R) n t s f (k + 1)) (xs (ent R) n t s f k)) = _
    rw [ih (by omega), h5]
    rw [h5] at b2 h4
    unfold Sm at b0 b1 b2 b3
    unfold times
    rw [if_neg (by omega)]
    omega
theorem hv_along {t s f : Nat} (hs : s ≤ 10) (ht : t < n) (hf : f < n) (h : cpw (ent R) n s t f ≠ -1000000000000000) :
    alongW R (hvL (ent R) n t s f (s + 1)) = cpw (ent R) n s t f := by
  have e : wkc (ent R) (vx (hvL (ent R) n t s f (s + 1))) s = wkc (ent R) (xs (ent R) n t s f) s := wkc_congr fun u hu => by
    unfold vx; rw [hvL_at _ _ _ _ _ _ _ (by omega)]; simp
  unfold alongW
  rw [hvL_len, show s + 1 - 1 = s by omega, e, hv_wkc hA hs ht hf h s (Nat.le_refl _), Nat.sub_self, xs_end hA hs ht hf h]
  show _ - unit t t = _
  unfold unit
  rw [if_pos rfl]; omega
theorem hv_nodes {t s f : Nat} (hs : s ≤ 10) (ht : t < n) (hf : f < n) (h : cpw (ent R) n s t f ≠ -1000000000000000) : nodesB n (hvL (ent R) n t s f (s + 1)) = true := by
  unfold nodesB hvL
  rw [List.all_map, List.all_eq_true]
  intro i hi
  have := (xs_inv hA hs ht hf h i (by have := List.mem_range.1 hi; omega)).1
  simp [inN]; omega
end
/-- What an answer of HeaviestPath says. -/
theorem heavy_t {R : List (List Int)} {f t : Int} (h : (heavyRes R f t).2 = 0) : sqB R = true ∧ inN R.length f = true ∧ inN R.length t = true ∧ noPos (ent R) R.length = true ∧ starF (ent R) R.length t.toNat f.toNat ≠ -1000000000000000 ∧ heavyRes R f t = (hvL (ent R) R.length t.toNat (arcs (ent R) R.length f.toNat t.toNat) f.toNat (arcs (ent R) R.length f.toNat t.toNat + 1), 0) := by
  unfold heavyRes at h ⊢
  by_cases h1 : sqB R = true
  · rw [if_pos h1] at h ⊢
    by_cases h2 : (inN R.length f && inN R.length t) = true
    · rw [if_pos h2] at h ⊢
      rw [Bool.and_eq_true] at h2
      by_cases h3 : noPos (ent R) R.length = true
      · rw [if_pos h3] at h ⊢
        by_cases h4 : starF (ent R) R.length t.toNat f.toNat = -1000000000000000
        · rw [if_pos h4] at h; simp at h
        · rw [if_neg h4]; exact ⟨h1, h2.1, h2.2, h3, h4, rfl⟩
      · rw [if_neg h3] at h; simp at h
    · rw [if_neg h2] at h; simp at h
  · rw [if_neg h1] at h; simp at h
theorem path_t {R : List (List Int)} {l : List Int} (h : (pathRes R l).2 = 0) : sqB R = true ∧ 1 ≤ l.length ∧ l.length ≤ 100 ∧ nodesB R.length l = true ∧ pathRes R l = (alongW R l, 0) := by
  unfold pathRes at h ⊢
  by_cases h1 : sqB R = true
  · rw [if_pos h1] at h ⊢
    by_cases h2 : 1 ≤ l.length ∧ l.length ≤ 100 ∧ nodesB R.length l = true
    · rw [if_pos h2] at h ⊢
      by_cases h3 : alongW R l = -1000000000000000
      · rw [if_pos h3] at h; simp at h
      · rw [if_neg h3] at h ⊢
        unfold chk at h ⊢
        by_cases h4 : isVal (alongW R l) = true
        · rw [if_pos h4]; exact ⟨h1, h2.1, h2.2.1, h2.2.2, rfl⟩
        · rw [if_neg h4] at h; simp at h
    · rw [if_neg h2] at h; simp at h
  · rw [if_neg h1] at h; simp at h
theorem star_t {R : List (List Int)} (h : (starRes R).2 = 0) : sqB R = true ∧ noPos (ent R) R.length = true ∧ isMat (starM R R.length) = true ∧ starRes R = (starM R R.length, 0) := by
  unfold starRes at h ⊢
  by_cases h1 : sqB R = true
  · rw [if_pos h1] at h ⊢
    by_cases h3 : noPos (ent R) R.length = true
    · rw [if_pos h3] at h ⊢
      by_cases h4 : isMat (starM R R.length) = true
      · rw [if_pos h4]; exact ⟨h1, h3, h4, rfl⟩
      · rw [if_neg h4] at h; simp at h
    · rw [if_neg h3] at h; simp at h
  · rw [if_neg h1] at h; simp at h
theorem star_l {R : List (List Int)} (h1 : sqB R = true) (h3 : noPos (ent R) R.length = true) (h : (starRes R).2 ≠ 0) : starRes R = ([], 3) := by
  unfold starRes at h ⊢
  rw [if_pos h1, if_pos h3] at h ⊢
  by_cases h4 : isMat (starM R R.length) = true
  · rw [if_pos h4] at h; simp at h
  · rw [if_neg h4]
theorem starM_len (R : List (List Int)) (n : Nat) : (starM R n).length = n := mk_length _ _ _
theorem starM_wid (R : List (List Int)) {n : Nat} (h : 0 < n) : wid (starM R n) = n := mk_wid _ _ _ h
theorem starM_ent (R : List (List Int)) {n i j : Nat} (hi : i < n) (hj : j < n) : ent (starM R n) i j = starF (ent R) n i j := ent_mk _ _ _ _ _ hi hj
theorem starM_row (R : List (List Int)) {n i : Nat} (hi : i < n) : ((starM R n).getD i []).length = n := mk_rowlen _ _ _ _ hi
theorem isMat_ent {R : List (List Int)} (h : isMat R = true) {i j : Nat} (hi : i < R.length) (hj : j < wid R) : isVal (ent R i j) = true := (isMat_t h).2.2.2.2.2 i hi j hj
end M
end Go.Proofs.YtlljnfljcdljaabGreat
