/- Texts laid together: Cex. -/
import Derived.Test.YtlofnadpgnbmdaaGreatQa20
set_option linter.unusedSimpArgs false
set_option linter.unusedVariables false
set_option linter.unusedSectionVars false
namespace Go.Proofs.YtlofnadpgnbmdaaGreat
namespace M
/-- What a place adds to a potential for a ratio. -/
def fExc (r0 r1 : Int) (p : Int × Int × Int × Int) : Int := r1 * p.2.2.1 - r0 * p.2.2.2
theorem exc_bd {r0 r1 p2 p3 : Int} (hr : isRat r0 r1 = true) (h2 : 0 ≤ p2) (h2' : p2 ≤ 1000) (h3 : 0 ≤ p3) (h3' : p3 ≤ 5) : 0 ≤ r1 * p2 ∧ r1 * p2 ≤ 1000000000 ∧ -5000000 ≤ r0 * p3 ∧ r0 * p3 ≤ 5000000 := by
  obtain ⟨a, b, c, d, -⟩ := isRat_t hr
  have e1 : 0 ≤ r1 * p2 := Int.mul_nonneg (by omega) h2
  have e2 : r1 * p2 ≤ 1000000 * p2 := Int.mul_le_mul_of_nonneg_right d h2
  have e3 : r0 * p3 ≤ 1000000 * p3 := Int.mul_le_mul_of_nonneg_right b h3
  have e4 : -1000000 * p3 ≤ r0 * p3 := Int.mul_le_mul_of_nonneg_right a h3
  omega
theorem exc_sm {l : List (Int × Int × Int × Int)} {N : Nat} (he : evOk l N) {r0 r1 : Int} (hr : isRat r0 r1 = true) (i j : Nat) : Sm 1000001000000 (wtF (fExc r0 r1) l i j) := by
  refine wtF_of (P := fun x => Sm 1000001000000 x) (fun p hp => ?_) (by unfold Sm; omega) i j
  obtain ⟨k, hk, rfl⟩ := List.mem_iff_getElem.1 hp
  have := he k hk
  rw [List.getD_eq_getElem?_getD, List.getElem?_eq_getElem hk] at this
  obtain ⟨a1, a2, a3, a4⟩ := exc_bd hr this.2.2.2.2.1 this.2.2.2.2.2.1 this.2.2.2.2.2.2.1 this.2.2.2.2.2.2.2
  simp only [Option.getD_some] at a1 a2 a3 a4
  unfold Sm fExc
  omega
end M
end Go.Proofs.YtlofnadpgnbmdaaGreat
