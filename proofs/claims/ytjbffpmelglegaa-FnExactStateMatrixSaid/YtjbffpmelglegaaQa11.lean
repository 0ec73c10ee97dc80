/- Texts laid together: OpenP. -/
import Derived.Test.YtjbffpmelglegaaQa2
import Derived.Deep.Slices
import Derived.Deep.Fields
import Derived.Lib.SmallJoins
import Derived.ChangeArms
set_option linter.unusedSimpArgs false
set_option linter.unusedVariables false
set_option linter.unusedSectionVars false
namespace Go.Proofs.Ytjbffpmelglegaa.V
open Go.RowKit Go.ChangeShapes Go.WideShapes Go.Deep Go.Joins
theorem one_of {H : Type} {enc : TypeId × Value → H} {P : Program} {w : World} {base : Nat} {spare : Nat → Bool} {held : Bool} {q : TypeId} {fuel j : Nat} {cs : List Value} {y : DataW H × List MemPlace} (hq : P.underlying q = some (.int .i64)) (hj : j < cs.length)
    (h : DataW.trod enc P w base spare held fuel q ((cs.drop j).take 1) = some y) : ∃ z : Int, cs[j]? = some (.int .i64 z) := by
  obtain ⟨z, hz, -⟩ := DataW.trod_int hq h
  rw [List.drop_eq_getElem_cons hj, List.take_succ_cons] at hz
  injection hz with e _
  exact ⟨z, by rw [List.getElem?_eq_getElem hj, e]⟩
theorem pls_open {H : Type} {enc : TypeId × Value → H} {P : Program} {w : World} {base : Nat} {held : Bool} {t e q : TypeId} {f0 f1 f2 f3 : Field} {fuel : Nat} {cs : List Value} {x : DataW H × List MemPlace} (ht : P.underlying t = some (.slice e)) (he : P.underlying e = some (.struct #[f0, f1, f2, f3]))
    (h0 : f0.type = q ∧ f0.offset = 0) (h1 : f1.type = q ∧ f1.offset = 1) (h2 : f2.type = q ∧ f2.offset = 2) (h3 : f3.type = q ∧ f3.offset = 3) (hq : P.underlying q = some (.int .i64)) (ce : P.cellsOf e = 4) (cq : P.cellsOf q = 1)
    (h : DataW.trod enc P w base (fun _ => true) held fuel t cs = some x) :
    ∃ a len cap l, cs = [.slice a len cap] ∧ Pls w a len l := by
  rcases open_slice ht h with ⟨rfl, -⟩ | ⟨a, len, cap, m, n, D, Pl, rfl, hb, hl, hm, hmm, -, hi⟩
  · exact ⟨none, 0, 0, [], rfl, rfl, Nat.zero_le _, .inl rfl⟩
  · have key : ∀ i, ∃ p : M.Pc, i < len → w.cell? (a.add (i * 4)) = some (.int .i64 p.1) ∧ w.cell? ((a.add (i * 4)).add 1) = some (.int .i64 p.2.1) ∧ w.cell? ((a.add (i * 4)).add 2) = some (.int .i64 p.2.2.1) ∧ w.cell? ((a.add (i * 4)).add 3) = some (.int .i64 p.2.2.2) := fun i => by
      by_cases hil : i < len
      · have him : i < m := by rw [hmm]; simp; omega
        obtain ⟨cs', hc, ht'⟩ := hi i him
        rw [ce] at hc
        obtain ⟨-, hlen, hat⟩ := World.cells?_some hc
        obtain ⟨y0, y1, y2, y3, n', -, -, t0, t1, t2, t3⟩ := trod_struct4 he ht'
        rw [h0.1, h0.2, cq] at t0
        rw [h1.1, h1.2, cq] at t1
        rw [h2.1, h2.2, cq] at t2
        rw [h3.1, h3.2, cq] at t3
        obtain ⟨z0, e0⟩ := one_of hq (by omega) t0
        obtain ⟨z1, e1⟩ := one_of hq (by omega) t1
        obtain ⟨z2, e2⟩ := one_of hq (by omega) t2
        obtain ⟨z3, e3⟩ := one_of hq (by omega) t3
        have a0 : (a.add (i * 4)).add 0 = a.add (i * 4) := by unfold Addr.add; split <;> simp_all
        exact ⟨(z0, z1, z2, z3), fun _ => ⟨by rw [← a0, hat 0 (by omega), e0], by rw [hat 1 (by omega), e1], by rw [hat 2 (by omega), e2], by rw [hat 3 (by omega), e3]⟩⟩
      · exact ⟨M.pz, fun q => absurd q hil⟩
    obtain ⟨f, hf⟩ := Classical.axiomOfChoice key
    refine ⟨some a, len, cap, (List.range len).map f, rfl, by simp, by omega, ?_⟩
    by_cases hz : len = 0
    · exact .inl hz
    · have hsp : a.spot = none := by
        have := (hf 0 (by omega)).1
        simpa [Addr.add] using World.cell?_spot this
      obtain ⟨b, off, spot⟩ := a
      simp only at hsp
      subst hsp
      have ad : ∀ o j, (⟨b, o, none⟩ : Addr).add j = ⟨b, o + j, none⟩ := fun o j => by unfold Addr.add; split <;> simp_all
      refine .inr ⟨b, off, rfl, ?_, fun i hi => ?_⟩
      · have := cell_lt (hf 0 (by omega)).1
        simpa [Addr.add] using this
      · obtain ⟨k0, k1, k2, k3⟩ := hf i hi
        have eL : ((List.range len).map f).getD i M.pz = f i := by simp [hi]
        rw [eL]
        rw [ad] at k0
        rw [ad, ad] at k1 k2 k3
        exact ⟨k0, k1, k2, k3⟩
end Go.Proofs.Ytjbffpmelglegaa.V
