/- Texts laid together: Pcp. -/
import Derived.Test.YtlljnfljcdljaaaQa33
import Derived.Test.YtlljnfljcdljaaaQa23
set_option linter.unusedSimpArgs false
set_option linter.unusedVariables false
set_option linter.unusedSectionVars false
namespace Go.Proofs.Ytlljnfljcdljaaa
namespace M
def cTm (L : List (Int × Int × Int)) (j : Nat) : Int := (L.getD j (0, 0, 0)).2.2
def cEq (L : List (Int × Int × Int)) (p q : Int) (j : Nat) : Int := if (L.getD j (0, 0, 0)).1 = p ∧ (L.getD j (0, 0, 0)).2.1 = q then (L.getD j (0, 0, 0)).2.2 else 0
def Small9 (L : List (Int × Int × Int)) : Prop := L.length ≤ 12 ∧ ∀ j, j < L.length → 0 ≤ cTm L j ∧ cTm L j ≤ 12
theorem sumZ_bd {f : Nat → Int} {m : Int} : ∀ k, (∀ j, j < k → 0 ≤ f j ∧ f j ≤ m) → 0 ≤ sumZ k f ∧ sumZ k f ≤ m * (k : Int)
  | 0, _ => by simp [sumZ]
  | k + 1, h => by
    have a := sumZ_bd k fun j hj => h j (by omega)
    have b := h k (by omega)
    show 0 ≤ sumZ k f + f k ∧ sumZ k f + f k ≤ m * ((k + 1 : Nat) : Int)
    rw [Int.natCast_add, Int.mul_add]
    simp only [Int.natCast_one, Int.mul_one]
    omega
theorem small_T {L : List (Int × Int × Int)} (h : Small9 L) {k : Nat} (hk : k ≤ L.length) : 0 ≤ sumZ k (cTm L) ∧ sumZ k (cTm L) ≤ 144 := by
  have := sumZ_bd (f := cTm L) (m := 12) k fun j hj => h.2 j (by omega)
  have := h.1
  omega
theorem small_E {L : List (Int × Int × Int)} (h : Small9 L) (p q : Int) {k : Nat} (hk : k ≤ L.length) : 0 ≤ sumZ k (cEq L p q) ∧ sumZ k (cEq L p q) ≤ 144 := by
  have := sumZ_bd (f := cEq L p q) (m := 12) k fun j hj => by
    have := h.2 j (by omega)
    unfold cTm at this
    unfold cEq
    split <;> omega
  have := h.1
  omega
theorem cornK_get {c : List Int} {k j : Nat} (h : j < k) : (cornK c k).getD j (0, 0, 0) = cornAt c j := by simp [cornK, h]
theorem corn_is {c : List Int} {A : List (Int × Int × Int)} (h : cornRes c = (A, 0)) : isPoly c = true ∧ A = cornK c ((tL c).length - 1) := by
  unfold cornRes at h
  cases e : isPoly c with
  | false => rw [e] at h; simp at h
  | true =>
    rw [e] at h
    cases e2 : cornOk c with
    | false => rw [e2] at h; simp at h
    | true =>
      rw [e2] at h
      exact ⟨rfl, (congrArg Prod.fst h).symm⟩
theorem corn_small {c : List Int} {A : List (Int × Int × Int)} (h : cornRes c = (A, 0)) : Small9 A := by
  obtain ⟨hc, rfl⟩ := corn_is h
  have h2 := (isPoly_t hc).2.1
  have h3 := tL_len c
  refine ⟨by rw [cornK_len]; omega, fun j hj => ?_⟩
  rw [cornK_len] at hj
  unfold cTm
  rw [cornK_get hj]
  show 0 ≤ ((tL c).getD (j + 1) 0 : Int) - ((tL c).getD j 0 : Int) ∧ ((tL c).getD (j + 1) 0 : Int) - ((tL c).getD j 0 : Int) ≤ 12
  have a := tL_inc (c := c) (i := j) (j := j + 1) (by omega) (by omega)
  have b := tL_lt (c := c) (j := j + 1) (by omega)
  omega
theorem corn_at {c : List Int} {A : List (Int × Int × Int)} (h : cornRes c = (A, 0)) (p q : Int) : sumZ A.length (cEq A p q) = timesAt c p q := by
  obtain ⟨hc, rfl⟩ := corn_is h
  rw [cornK_len]
  exact sumZ_congr fun j hj => by unfold cEq; rw [cornK_get hj]
theorem corn_all {c : List Int} {A : List (Int × Int × Int)} (h : cornRes c = (A, 0)) : sumZ A.length (cTm A) = timesAll c := by
  obtain ⟨hc, rfl⟩ := corn_is h
  rw [cornK_len]
  exact sumZ_congr fun j hj => by unfold cTm; rw [cornK_get hj]
theorem cp_law {c d p : List Int} {A B Y : List (Int × Int × Int)} (hp : mulPRes c d = (p, 0)) (ha : cornRes c = (A, 0)) (hb : cornRes d = (B, 0)) (hy : cornRes p = (Y, 0)) :
    Small9 A ∧ Small9 B ∧ Small9 Y ∧ (∀ i, i < Y.length → sumZ A.length (cEq A (Y.getD i (0, 0, 0)).1 (Y.getD i (0, 0, 0)).2.1) + sumZ B.length (cEq B (Y.getD i (0, 0, 0)).1 (Y.getD i (0, 0, 0)).2.1) = cTm Y i) ∧ sumZ Y.length (cTm Y) = sumZ A.length (cTm A) + sumZ B.length (cTm B) := by
  have hc := (corn_is ha).1
  have hd := (corn_is hb).1
  have hpp := (corn_is hy).1
  have hpe : p = mulP c d := by
    unfold mulPRes at hp
    rw [hc, hd] at hp
    cases e : isPoly (mulP c d) with
    | false => rw [e] at hp; simp at hp
    | true => rw [e] at hp; exact (congrArg Prod.fst hp).symm
  subst hpe
  refine ⟨corn_small ha, corn_small hb, corn_small hy, fun i hi => ?_, ?_⟩
  · rw [corn_at ha, corn_at hb]
    have e := (corn_is hy).2
    have hl : Y.length = (tL (mulP c d)).length - 1 := by rw [e, cornK_len]
    unfold cTm
    rw [e, cornK_get (by omega)]
    exact corner_mul hc hd hpp (by omega)
  · rw [corn_all ha, corn_all hb, corn_all hy]
    exact ends_mul hc hd hpp
end M
end Go.Proofs.Ytlljnfljcdljaaa
