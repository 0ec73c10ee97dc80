/- Texts laid together: Pdt. -/
import Derived.Test.YtlljnfljcdljaaaQa30
import Derived.Test.YtlljnfljcdljaaaQa20
import Derived.Test.YtlljnfljcdljaaaQa31
import Derived.Test.YtlljnfljcdljaaaQa32
set_option linter.unusedSimpArgs false
set_option linter.unusedVariables false
set_option linter.unusedSectionVars false
namespace Go.Proofs.Ytlljnfljcdljaaa
namespace M
theorem ev_bd {c : List Int} {x : Int} (h : (evalRes c x).2 = 0) : -1000000000000000 ≤ (evalRes c x).1 ∧ (evalRes c x).1 ≤ 1000000 := by
  unfold evalRes at h ⊢
  by_cases hc : isPoly c = true
  · rw [if_pos hc] at h ⊢
    by_cases hx : isVal x = true
    · rw [if_pos hx] at h ⊢
      obtain ⟨h1, h2⟩ := chk_ok h
      rw [h2]
      have := isVal_t h1
      show -1000000000000000 ≤ evalV c x ∧ evalV c x ≤ 1000000
      omega
    · rw [if_neg hx] at h; cases h
  · rw [if_neg hc] at h; cases h
theorem ev_law {c d : List Int} {x : Int} (h1 : (addPRes c d).2 = 0) (h2 : (mulPRes c d).2 = 0) (hx : isFin x = true) {a b s p : Int × Int} (ha : a = evalRes c x) (hb : b = evalRes d x) (hs : s = evalRes (addPRes c d).1 x) (hp : p = evalRes (mulPRes c d).1 x) :
    a.2 = 3 ∨ (a.2 = 0 ∧ b.2 = 3) ∨ (a.2 = 0 ∧ b.2 = 0 ∧ s.2 = 0 ∧ s.1 = max a.1 b.1 ∧ (-2000000000000000 ≤ a.1 + b.1 ∧ a.1 + b.1 ≤ 2000000) ∧ (p.2 = 3 ∨ p.2 = 0 ∧ p.1 = a.1 + b.1)) := by
  obtain ⟨q1, q2, q3, r4, r5⟩ := pv_law h1 h2 hx
  subst ha hb hs hp
  rcases q1 with q1 | q1
  · rcases q2 with q2 | q2
    · right; right
      obtain ⟨r1, r2, r3⟩ := q3 q1 q2
      have b1 := ev_bd q1
      have b2 := ev_bd q2
      rw [r4, r5]
      exact ⟨q1, q2, r1, r2, ⟨by omega, by omega⟩, r3⟩
    · right; left; exact ⟨q1, q2⟩
  · left; exact q1
end M
end Go.Proofs.Ytlljnfljcdljaaa
