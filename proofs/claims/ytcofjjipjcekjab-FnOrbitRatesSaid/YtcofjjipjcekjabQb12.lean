/- Texts laid together: Sat, Sqr, Reach, Fst. -/
import Derived.Test.YtcofjjipjcekjabQb11
import Derived.Test.YtcofjjipjcekjabQb3
import Derived.Test.YtcofjjipjcekjabQb2
import Derived.Test.YtcofjjipjcekjabQb7
import Derived.DeepKeys
import Derived.BigQuiet
import Derived.Laws.ResultCell
set_option linter.unusedSimpArgs false
set_option linter.unusedVariables false
set_option linter.unusedSectionVars false
namespace Go.Proofs.Ytcofjjipjcekjab.V
set_option maxRecDepth 100000
open Go.RowKit
def lenOf : Option Value → Nat
  | some (.slice _ n _) => n
  | _ => 0
/-- What a series stands on. -/
structure SerB (w0 : World) (a : Option Addr) (n L : Nat) (R F : List (List Int)) : Prop where
  mat : Mat w0 a n R
  rect : Rect R n n
  n1 : 1 ≤ n
  n2 : n ≤ 10
  sm : ∀ i j, i < n → j < n → M.Sm 1000000 (M.ent R i j)
  len : F.length = n
  wid : M.wid F = L
  l1 : 1 ≤ L
  l2 : L ≤ 10
theorem SerB.rlen {w0 : World} {a : Option Addr} {n L : Nat} {R F : List (List Int)} (h : SerB w0 a n L R F) : R.length = n := h.mat.1
theorem SerB.sq {w0 : World} {a : Option Addr} {n L : Nat} {R F : List (List Int)} (h : SerB w0 a n L R F) {k : Nat} (hk : M.okQ R F k = true) : Rect (M.sq7 R F k) n L ∧ ∀ i j, i < n → j < L → M.isVal (M.ent (M.sq7 R F k) i j) = true := by
  have hl := M.sq7_len (R := R) (F := F) (by rw [h.len, h.rlen]) k
  have hw := M.sq7_wid (R := R) (F := F) (by rw [h.rlen]; exact h.n1) k
  have hr := rect_mat hk
  rw [hl, hw, h.rlen, h.wid] at hr
  exact ⟨hr, fun i j hi hj => (M.isMat_t hk).2.2.2.2.2 i (by rw [hl, h.rlen]; exact hi) j (by rw [hw, h.wid]; exact hj)⟩
theorem SerB.next {w0 : World} {a : Option Addr} {n L : Nat} {R F : List (List Int)} (h : SerB w0 a n L R F) (k : Nat) : M.sq7 R F (k + 1) = M.mk n L fun i j => M.dot R (M.sq7 R F k) i j n := by
  show M.mulM R _ = _
  unfold M.mulM
  rw [M.sq7_wid (R := R) (F := F) (by rw [h.rlen]; exact h.n1) k, M.sq7_len (R := R) (F := F) (by rw [h.len, h.rlen]) k, h.rlen, h.wid]
theorem serL (w : World) {p n cap k : Nat} {w0 : World} {a : Option Addr} {R F : List (List Int)} (h : IsSer w0 w p a n cap R F k) : lenOf (w.cell? ⟨p, 2, none⟩) = k + 1 := by
  obtain ⟨-, -, b1, c1, b2, c2, h3, -⟩ := h
  have := World.rowIs.cell h3 (i := 2) (by omega)
  rw [this]
  rfl
set_option maxRecDepth 100000 in
set_option maxHeartbeats 4000000 in
theorem sAt7 (w0 : World) (a : Option Addr) (n cap L : Nat) (R F : List (List Int)) (p k0 q : Nat) (w : World) (hS : SerB w0 a n L R F) (h : IsSer w0 w p a n cap R F k0) (hok : M.okTo R F k0) (hq : q ≤ 200) :
    Calls Try.prog 63 #[.pointer (some ⟨p, 0, none⟩), .int .i64 q] w fun e w' =>
      (∃ k1, q ≤ k1 ∧ k0 ≤ k1 ∧ (k1 = k0 ∨ k1 = q) ∧ M.okTo R F k1 ∧ IsSer w0 w' p a n cap R F k1 ∧ ∃ ra m rc, e = .returned (.tuple #[.slice ra m rc, .bool true]) ∧ Ints .i64 w' ra m (M.sq7 R F q).flatten) ∨
      (∃ j, k0 < j ∧ j ≤ q ∧ M.okTo R F (j - 1) ∧ M.okQ R F j = false ∧ e = .returned (.tuple #[.slice none 0 0, .bool false]) ∧ Below w0.heap.size w0 w') := by
  have HS := Lib.hid hS
  have H0 := Lib.hid h
  have HOk := Lib.hid hok
  have n1 := hS.n1
  have n2 := hS.n2
  have l1 := hS.l1
  have l2 := hS.l2
  have HRB : Hid (∀ i j, i < n → j < n → M.Big (M.ent R i j)) := fun i j hi hj => M.big_sm (hS.sm i j hi hj) (by omega)
  clear hS h hok
  go_enter Try.func63, Try.ntmps63
  go_wp2
  go_loopw [6] (fun _ wr => ∃ k : Nat, k0 ≤ k ∧ (k = k0 ∨ k ≤ q) ∧ Hid (M.okTo R F k) ∧ Hid (IsSer w0 wr p a n cap R F k)) (fun _ wr => q + 1 - lenOf (wr.cell? ⟨p, 2, none⟩))
  case atStart => exact ⟨k0, Nat.le_refl _, .inl rfl, HOk, H0⟩
  case round =>
    obtain ⟨k, hk1, hk2, HOkk, HI⟩ := hrel
    obtain ⟨wo, rfl⟩ : ∃ x, x = wr := ⟨_, rfl⟩
    obtain ⟨hb0, hp, b1, c1, b2, c2, hrow, ho1, ho2⟩ := HI.out
    have HB := Lib.hid hb0
    have HRow := Lib.hid hrow
    have HO1 := Lib.hid ho1
    have HO2 := Lib.hid ho2
    have hpl := World.rowIs.lt hrow
    have s0 : wo.cell? ⟨p, 0, none⟩ = some (.slice a n cap) := World.rowIs.cell hrow (i := 0) (by omega)
    have s1 : wo.cell? ⟨p, 1, none⟩ = some (.slice b1 n c1) := World.rowIs.cell hrow (i := 1) (by omega)
    have s2 : wo.cell? ⟨p, 2, none⟩ = some (.slice b2 (k + 1) c2) := World.rowIs.cell hrow (i := 2) (by omega)
    clear hb0 hrow ho1 ho2
    by_cases hlt : k < q
    · have hle : (k : Int) + 1 ≤ (q : Int) := by omega
      obtain ⟨hrk, hvk⟩ := HS.out.sq (HOkk.out k (Nat.le_refl _))
      have HRk := Lib.hid hrk
      have HVk : Hid (∀ i j, i < n → j < L → M.Big (M.ent (M.sq7 R F k) i j)) := fun i j hi hj => M.big_val (hvk i j hi hj)
      have HNx := Lib.hid (HS.out.next k)
      clear hrk hvk
      go_wp2
      go_region_law (go_simp; go_at_call 105; refine (sMultiplyB a n cap n R b1 c1 L (M.sq7 R F k) _ ?ha ?hb1 HS.out.rect HRk.out HRB.out HVk.out n1 n2 n1 n2 l1 l2).mono ?_; (case ha => exact (HS.out.mat.below HB.out).below (Below.refl _ _).drew); (case hb1 => exact HO1.out.toM.mat.below (Below.refl _ _).drew); rintro e w1 ⟨b3, c3, rfl, ho3, hb3⟩; rw [← HNx.out] at ho3; have HO3 := Lib.hid ho3; have HB3 := Lib.hid hb3; have HR3 := Lib.hid (World.rowIs.of_block (w' := w1) HRow.out (hb3.block p hpl)); have t1 := World.rowIs.cell HR3.out (i := 1) (by omega); have t2 := World.rowIs.frozen HR3.out 1; clear ho3 hb3)
      all_goals
        have HRs := Lib.hid ((World.rowIs.set HR3.out 1 (.slice b3 n c3)).congr (serF_set1 _ _ _ _))
        have HO2s : Hid (OwnP (w1.setCell ⟨p, 1, none⟩ (.slice b3 n c3)) w0.heap.size (fun q => q ≠ p) (.slice b2 (k + 1) c2) (M.sqL R F (k + 1))) := (HO2.out.keep (w' := w1) fun j _ _ hj => HB3.out.block j hj).keep fun j hj _ _ => Below.heap_setCell _ _ _ _ hj
        have HO3s : Hid (OwnP (w1.setCell ⟨p, 1, none⟩ (.slice b3 n c3)) w0.heap.size (fun q => wo.heap.size ≤ q) (.slice b3 n c3) (M.sq7 R F (k + 1))) := ((HO3.out.toP (P := fun q => wo.heap.size ≤ q) fun j h1 _ => h1).mono (HB.out.size)).keep fun j hj _ _ => Below.heap_setCell _ _ _ _ (by show j ≠ p; omega)
        have HLb : Hid (∀ j, (Value.slice b2 (k + 1) c2).ownBlock = some j → j ≠ p ∧ j < wo.heap.size) := fun j hj => by
          obtain ⟨V, q0, q1, -⟩ := HO2.out
          exact ⟨q1 j hj, (own_lt q0.2.1 hj).2⟩
        have HBs : Hid (Below w0.heap.size w0 (w1.setCell ⟨p, 1, none⟩ (.slice b3 n c3))) := (HB.out.trans (((Below.refl _ wo).drew.trans (HB3.out.mono (Nat.le_refl _))).mono HB.out.size)).setCell hp _
        have HI0 := HI
        clear HR3 HO2 HO3 HB3 HRow HO1 HB HI t1 t2 s0 s1 s2
        generalize w1.setCell ⟨p, 1, none⟩ (.slice b3 n c3) = ws at *
        have u1 : ws.cell? ⟨p, 1, none⟩ = some (.slice b3 n c3) := World.rowIs.cell HRs.out (i := 1) (by omega)
        obtain ⟨bv, hbv⟩ : ∃ b, b = M.isMat (M.sq7 R F (k + 1)) := ⟨_, rfl⟩
        have HBv := Lib.hid hbv.symm
        clear hbv
        cases bv with
        | false =>
          go_wp2_with fail
          refine (sIsMatrixB_b _ _ _ (M.sq7 R F (k + 1)) _ false HBv.out HO3s.out.toM.mat).mono ?_
          rintro e w' ⟨rfl, hb⟩
          have HBe := Lib.hid (HBs.out.trans (hb.mono HBs.out.size))
          clear hb u1
          go_wp2
          go_ret2
          exact .inr ⟨k + 1, by omega, by omega, HOkk.out, HBv.out, rfl, HBe.out⟩
        | true =>
          have HOk2 : Hid (M.okTo R F (k + 1)) := fun j hj => by
            by_cases e : j = k + 1
            · subst e; exact HBv.out
            · exact HOkk.out j (by omega)
          have HRk2 := Lib.hid (HS.out.sq (k := k + 1) HBv.out).1
          go_wp2_with fail
          refine (sIsMatrixB_b _ _ _ (M.sq7 R F (k + 1)) _ true HBv.out HO3s.out.toM.mat).mono ?_
          rintro e w2 ⟨rfl, hb⟩
          have HR2 := Lib.hid (World.rowIs.of_block (w' := w2) HRs.out (hb.block p (World.rowIs.lt HRs.out)))
          have HL2 := Lib.hid (HO2s.out.below hb)
          have HM2 := Lib.hid (HO3s.out.below hb)
          have HB2 := Lib.hid (HBs.out.trans (hb.mono HBs.out.size))
          clear hb u1 HRs HO2s HO3s HBs
          have hp2 := World.rowIs.lt HR2.out
          have v1 : w2.cell? ⟨p, 1, none⟩ = some (.slice b3 n c3) := World.rowIs.cell HR2.out (i := 1) (by omega)
          have v2 : w2.cell? ⟨p, 2, none⟩ = some (.slice b2 (k + 1) c2) := World.rowIs.cell HR2.out (i := 2) (by omega)
          have HSl : Hid ((M.sqL R F (k + 1)).length = k + 1) := M.sqL_len _ _ _
          have HSn : Hid (M.sqL R F (k + 1) ++ [(M.sq7 R F (k + 1)).flatten] = M.sqL R F (k + 1 + 1)) := (M.sqL_next _ _ _).symm
          have hz2 : w0.heap.size ≤ w2.heap.size := HB2.out.size
          go_wp2
          go_region_law (first
            | (refine step_appendRowP w2.drew _ rfl _ _ rfl w0.heap.size (fun q => q ≠ p) _ (.slice b4 m4 c4) (M.sqL R F (k + 1)) (M.sq7 R F (k + 1)).flatten (k + 1) _ HSl.out rfl ?hown ?hb ?hro rfl ?hy (by omega) hz2 ?hP ?_; (case hown => exact HL2.out.below (Below.refl _ _).drew); (case hb => exact HB4.out.trans ((b_alloc _ _).mono HB4.out.size)); (case hro => exact HO4.out.below (b_alloc _ _)); (case hy => simp); (case hP => intro j hj; have : w2.heap.size ≤ j := hj; omega); intro b5 c5 w5 ho5 hb5 hk5; rw [HSn.out] at ho5; have HO5 := Lib.hid ho5; have HB5 := Lib.hid hb5; have HR5 := Lib.hid (World.rowIs.of_block (w' := w5) HR4.out ((hk5 p (by simp; have := HB4.out.size; have e : w2.drew.heap.size = w2.heap.size := rfl; omega) (fun e => (HLb.out p e).1 rfl)).trans (Below.heap_alloc _ _ _ (World.rowIs.lt HR4.out)))); have HK5 := Lib.hid hk5; have t2 := World.rowIs.cell HR5.out (i := 2) (by omega); have t3 := World.rowIs.frozen HR5.out 2; clear ho5 hb5 hk5)
            | (go_simp; go_at_call 103; refine (sFlat7 b3 n c3 L (M.sq7 R F (k + 1)) _ ?hm HRk2.out n2 l1 l2).mono ?_; (case hm => exact HM2.out.toM.mat.below (Below.refl _ _).drew); rintro e w4 ⟨b4, m4, c4, rfl, ho4, hb4⟩; have HO4 := Lib.hid ho4; have HB4 := Lib.hid hb4; have HR4 := Lib.hid (World.rowIs.of_block (w' := w4) HR2.out (hb4.block p hp2)); have t4 := World.rowIs.cell HR4.out (i := 2) (by omega); have t5 : ∀ o, (w4.alloc o).cell? ⟨p, 2, none⟩ = some (.slice b2 (k + 1) c2) := (fun o => (World.cell?_alloc_old _ _ _ (Nat.ne_of_lt (World.rowIs.lt HR4.out))).trans t4); clear ho4 hb4))
          all_goals
            have HIn : Hid (IsSer w0 (w5.setCell ⟨p, 2, none⟩ (.slice b5 (k + 1 + 1) c5)) p a n cap R F (k + 1)) := by
              refine ⟨?_, hp, b3, c3, b5, c5, (World.rowIs.set HR5.out 2 (.slice b5 (k + 1 + 1) c5)).congr (serF_set2 _ _ _ _), ?_, ?_⟩
              · have q1 : Below w0.heap.size w0 w4 := HB2.out.trans (((Below.refl _ w2).drew.trans (HB4.out.mono (Nat.le_refl _))).mono hz2)
                have q2 := (q1.trans ((b_alloc w4 (.cells #[.slice b4 m4 c4] 25)).mono q1.size)).trans HB5.out
                exact q2.setCell hp _
              · refine OwnP.imp (P := fun q => wo.heap.size ≤ q) (OwnP.keep (w := w5) (OwnP.keep (w := w2) HM2.out fun j hj h1 h2 => ?_) fun j hj _ _ => Below.heap_setCell _ _ _ _ (by show j ≠ p; omega)) fun j hj => by omega
                have hj4 : j < w4.heap.size := by have := HB4.out.size; have e : w2.drew.heap.size = w2.heap.size := rfl; omega
                exact ((HK5.out j (by simp; omega) (fun e => by have := (HLb.out j e).2; omega)).trans (Below.heap_alloc _ _ _ hj4)).trans (HB4.out.block j h2)
              · exact HO5.out.keep fun j hj _ _ => Below.heap_setCell _ _ _ _ hj
            go_wp2
            go_roundw
            case rel => exact ⟨k + 1, by omega, .inr (by omega), HOk2, HIn⟩
            case measure => rw [serL _ HIn.out, serL _ HI0.out]; omega
    · have hgt : ¬ ((k : Int) + 1 ≤ (q : Int)) := by omega
      have hqk : (q : Int) < (k : Int) + 1 := by omega
      obtain ⟨g2, ra, rc, rfl, hcr, hro⟩ := HO2.out.toM.row q (by omega)
      rw [M.sqL_get (show q < k + 1 by omega)] at hcr hro
      obtain ⟨mm, hmm⟩ : ∃ mm, mm = (M.sq7 R F q).flatten.length := ⟨_, rfl⟩
      rw [← hmm] at hcr hro
      have HRo := Lib.hid hro.ints'
      clear hro hmm
      go_wp2
      go_ret2
      refine .inl ⟨k, by omega, hk1, by omega, HOkk.out, HI.out, ?_⟩
      first
        | exact ⟨ra, mm, rc, rfl, HRo.out⟩
        | exact ⟨ra, mm, ⟨rc, rfl⟩, HRo.out⟩
end Go.Proofs.Ytcofjjipjcekjab.V

namespace Go.Proofs.Ytcofjjipjcekjab.V
set_option maxRecDepth 100000
open Go.RowKit
/-- The cells of the first k elements. -/
def elvs (R F : List (List Int)) (k : Nat) : List Value := ((List.range k).map fun i => elV (M.sq7 R F i)).flatten
theorem elvs_next (R F : List (List Int)) (k : Nat) : elvs R F (k + 1) = elvs R F k ++ elV (M.sq7 R F k) := by simp [elvs, List.range_succ]
theorem elvs_one (R F : List (List Int)) : elvs R F 1 = elV F := by simp [elvs, M.sq7]
theorem elvs_len (R F : List (List Int)) : ∀ k, (elvs R F k).length = k * 101
  | 0 => rfl
  | k + 1 => by rw [elvs_next, List.length_append, elvs_len R F k, elV_len]; omega
theorem elvs_at (R F : List (List Int)) (i t : Nat) (ht : t < 101) : ∀ k, i < k → (elvs R F k)[i * 101 + t]? = (elV (M.sq7 R F i))[t]?
  | 0, h => by omega
  | k + 1, h => by
    rw [elvs_next]
    by_cases e : i < k
    · rw [List.getElem?_append_left (by rw [elvs_len]; omega)]
      exact elvs_at R F i t ht k e
    · obtain rfl : i = k := by omega
      rw [List.getElem?_append_right (by rw [elvs_len]; omega), elvs_len]
      congr 1
      omega
theorem heap_lt {w : World} {r : Nat} {o : Obj} (h : w.heap[r]? = some o) : r < w.heap.size := (Array.getElem?_eq_some_iff.1 h).1
theorem ownE_keep {w w' : World} {B : Nat} {T : TypeId} {s : Nat} {v : Value} {n : Nat} {xs : List Value} (h : w.ownsRow B T s v n xs) (hk : ∀ k, v.ownBlock = some k → w'.heap[k]? = w.heap[k]?) : w'.ownsRow B T s v n xs := by
  obtain ⟨h1, h2⟩ := h
  refine ⟨h1, ?_⟩
  rcases h2 with h2 | ⟨g, cap, cur, hv, hg, hh, r⟩
  · exact .inl h2
  · exact .inr ⟨g, cap, cur, hv, hg, by rw [hk g (by rw [hv]; rfl)]; exact hh, r⟩
/-- A sequence that has been looked at up to its element k. -/
def IsSeq (w0 w : World) (p : Nat) (a : Option Addr) (n cap : Nat) (R F : List (List Int)) (k : Nat) (G : Option (Nat × Obj)) : Prop :=
  Below w0.heap.size w0 w ∧ w0.heap.size ≤ p ∧ ∃ b1 c1 g2 c2, w.rowIs p 93 3 (serF (.slice a n cap) (.slice b1 n c1) (.slice (some ⟨g2, 0, none⟩) (k + 1) c2)) ∧
    OwnP w w0.heap.size (fun q => q ≠ p) (.slice b1 n c1) (M.sq7 R F k) ∧ g2 ≠ p ∧ w.ownsRow w0.heap.size 90 101 (.slice (some ⟨g2, 0, none⟩) (k + 1) c2) (k + 1) (elvs R F (k + 1)) ∧ ∀ r o, G = some (r, o) → r ≠ g2 ∧ r ≠ p ∧ w.heap[r]? = some o
theorem IsSeq.keep {w0 w w' : World} {p n cap k : Nat} {a : Option Addr} {R F : List (List Int)} {G : Option (Nat × Obj)} (h : IsSeq w0 w p a n cap R F k G) (hb : Below w.heap.size w w') : IsSeq w0 w' p a n cap R F k G := by
  obtain ⟨h1, h2, b1, c1, b2, c2, h3, h4, h5, h6, h7⟩ := h
  exact ⟨h1.trans (hb.mono h1.size), h2, b1, c1, b2, c2, World.rowIs.of_block h3 (hb.block p (World.rowIs.lt h3)), h4.below hb, h5, ownE_keep h6 fun j hj => hb.block j (World.ownsRow.lt h6 j hj).2, fun r o e => ⟨(h7 r o e).1, (h7 r o e).2.1, (hb.block r (heap_lt (h7 r o e).2.2)).trans (h7 r o e).2.2⟩⟩
theorem infoEb : (Try.prog.info? 90).map (fun i => (i.zero, i.size, i.bytes)) = some (some (.agg zE), 101, 808) := by kernel_rfl
/-- A guest comes. -/
theorem IsSeq.guest {w0 w w' : World} {p n cap k : Nat} {a : Option Addr} {R F : List (List Int)} {o : Obj} (h : IsSeq w0 w p a n cap R F k none) : IsSeq w0 (w.alloc o) p a n cap R F k (some (w.heap.size, o)) := by
  have hb : Below w.heap.size w (w.alloc o) := b_alloc _ _
  obtain ⟨h1, h2, b1, c1, b2, c2, h3, h4, h5, h6, h7⟩ := h.keep hb
  obtain ⟨-, -, b1', c1', b2', c2', k3, -, -, k6, -⟩ := h
  refine ⟨h1, h2, b1, c1, b2, c2, h3, h4, h5, h6, fun r o' e => ?_⟩
  have er : r = w.heap.size := by cases e; rfl
  have eo : o' = o := by cases e; rfl
  subst er
  clear e
  have e1 := World.rowIs.cell h3 (i := 2) (by omega)
  have e2 := World.rowIs.cell (World.rowIs.of_block (w' := w.alloc o) k3 (hb.block p (World.rowIs.lt k3))) (i := 2) (by omega)
  rw [e1] at e2
  have e3 : b2 = b2' := by
    have : (Value.slice (some ⟨b2, 0, none⟩) (k + 1) c2) = (Value.slice (some ⟨b2', 0, none⟩) (k + 1) c2') := Option.some.inj e2
    simpa using (Value.slice.inj this).1
  have := (World.ownsRow.lt k6 b2' rfl).2
  have := World.rowIs.lt k3
  exact ⟨by omega, by omega, by rw [eo]; exact heap_alloc_last _ _⟩
/-- An element is appended, at a step of a region. -/
theorem step_appendE (w : World) {ops : Array Oper} {o : Oper} {a : Act} {K : Act → World → Prop} {Q : Exit → Act → World → Prop} {E : Prop} (hgd : o.guard = none) (s x : Operand)
    (ho : o.op = .call { callee := .builtin .append, args := #[s, x], argTypes := #[91, 91] }) (B : Nat) (v : Value) (xs ys : List Value) (n g : Nat) (hs : a.eval s = v) (hown : w.ownsRow B 90 101 v n xs)
    (hx : a.eval x = .slice (some ⟨g, 0, none⟩) 1 1) (hy : w.heap[g]? = some (.cells ys.toArray 90 (0, 0))) (hyl : ys.length = 101) (hy1 : ∀ u ∈ ys, u.oneCell' = true) (hlen : n ≤ 1000) (hB : B ≤ w.heap.size)
    (h : ∀ g' c' w', w'.ownsRow B 90 101 (.slice (some ⟨g', 0, none⟩) (n + 1) c') (n + 1) (xs ++ ys) → Below B w w' → (∀ k, k < w.heap.size → v.ownBlock ≠ some k → w'.heap[k]? = w.heap[k]?) → (v.ownBlock = some g' ∨ g' = w.heap.size) → K (a.put o.dst (.slice (some ⟨g', 0, none⟩) (n + 1) c')) w') :
    if Region.wanted o (yielded ops a.tmps) = true then Oper.wp Try.prog o a w K Q else E := by
  obtain ⟨i0, hi, hz0, hz1, hz2⟩ := info_parts infoEb
  refine step_append_lies w hgd s x 91 ho B 90 i0 (.agg zE) 101 808 Try.underlying91 hi hz0 hz1 hz2 zE_size (by decide) v n xs hs hown ⟨g, 0, none⟩ 1 1 ys hx (by rw [hyl]) ?c1 hy1 (by decide) ?c3 ?c4 hB w.heap.size rfl ?_
  case c1 =>
    intro j u hu
    exact World.news_of_block hy j u (by simpa using hu)
  case c3 => unfold maxLen; omega
  case c4 => omega
  · intro g' cap' w' hown' hgrow hat hlt
    have hg : ∀ k, k < w.heap.size → v.ownBlock ≠ some k → w'.heap[k]? = w.heap[k]? := fun k hk hne => by
      obtain ⟨_, _, _, _, g5⟩ := hgrow
      exact g5 k hk (fun e => hne e.symm)
    exact h g' cap' w' hown' ((Below.refl B w).grown hgrow hB (fun k hk => (World.ownsRow.lt hown k hk).1)) hg hat
theorem elV_one {X : List (List Int)} : ∀ v ∈ elV X, v.oneCell' = true := fun v hv => by
  unfold elV at hv
  rcases List.mem_append.1 hv with h | h
  · obtain ⟨t, -, rfl⟩ := List.mem_map.1 h; rfl
  · rw [List.mem_singleton.1 h]; rfl
theorem fold_zip_at (i : Nat) : ∀ (l : List Value) (k : Nat) (A : Array Value), A.size = k + l.length → ((l.zipIdx k).foldl (fun cs x => cs.setIfInBounds x.2 x.1) A)[i]? = if i < k then A[i]? else l[i - k]?
  | [], k, A, h => by
    show A[i]? = _
    by_cases e : i < k
    · rw [if_pos e]
    · rw [if_neg e, Array.getElem?_eq_none (by simp at h; omega)]; rfl
  | x :: l, k, A, h => by
    simp only [List.length_cons] at h
    rw [List.zipIdx_cons, List.foldl_cons, fold_zip_at i l (k + 1) _ (by rw [Array.size_setIfInBounds]; omega), Array.getElem?_setIfInBounds]
    by_cases e : i < k
    · rw [if_pos e, if_pos (by omega), if_neg (by show ¬ k = i; omega)]
    · rw [if_neg e]
      by_cases q : i = k
      · subst q
        rw [if_pos (by omega), if_pos rfl, if_pos (by show i < A.size; omega)]
        simp
      · rw [if_neg (by omega), show i - k = (i - (k + 1)) + 1 by omega, List.getElem?_cons_succ]
theorem fold_zip (l : List Value) (A : Array Value) (h : A.size = l.length) : (l.zipIdx).foldl (fun cs x => cs.setIfInBounds x.2 x.1) A = l.toArray := by
  apply Array.ext_getElem?
  intro i
  rw [fold_zip_at i l 0 A (by omega), if_neg (by omega)]
  simp
theorem size_lit101 {A : Array Value} {F : List (List Int)} (h : A.size = 101) : A.size = (elV F).length := by rw [h, elV_len]
set_option maxRecDepth 100000 in
set_option maxHeartbeats 1000000 in
theorem sequenceFrom (w0 : World) (a : Option Addr) (n cap L : Nat) (R F : List (List Int)) (b : Option Addr) (c : Nat) (w : World) (hb0 : Below w0.heap.size w0 w) (hF : OwnM w w0.heap.size (.slice b n c) F) (hr : Rect F n L) (n1 : 1 ≤ n) (n2 : n ≤ 10) (l1 : 1 ≤ L) (l2 : L ≤ 10) (hv : ∀ i j, i < n → j < L → M.isVal (M.ent F i j) = true) :
    Calls Try.prog 107 #[.slice a n cap, .slice b n c] w fun e w' => ∃ p, e = .returned (.pointer (some ⟨p, 0, none⟩)) ∧ IsSeq w0 w' p a n cap R F 0 none := by
  have HB0 := Lib.hid hb0
  have HF := Lib.hid hF
  have hz0 := hb0.size
  have HR := Lib.hid hr
  have HV := Lib.hid hv
  clear hb0 hF hr hv
  go_enter Try.func107, Try.ntmps107
  go_wp2_with fail
  refine (elementOf _ _ _ L F _ HF.out.mat HR.out n1 n2 l1 l2 HV.out).mono ?_
  rintro e w1 ⟨rfl, hb⟩
  have HF1 := Lib.hid (HF.out.below hb)
  have HB1 := Lib.hid (HB0.out.trans (hb.mono hz0))
  have hz1 := hb.size
  clear hb HF
  obtain ⟨hz, hs⟩ := zero_of_info infoE
  have hel : (elV F).length = 101 := elV_len F
  go_wp2
  rw [fold_zip _ _ (size_lit101 rfl)]
  go_ret
  refine ⟨w1.heap.size + 1, by simp, ?_⟩
  have hA : Below w1.heap.size w1 (w1.alloc (.cells (elV F).toArray 90)) := b_alloc _ _
  have hz : (w1.alloc (.cells (elV F).toArray 90)).heap.size = w1.heap.size + 1 := by simp
  have hLi : (w1.alloc (.cells (elV F).toArray 90)).ownsRow w0.heap.size 90 101 (.slice (some ⟨w1.heap.size, 0, none⟩) 1 1) 1 (elvs R F 1) := by
    rw [elvs_one]
    refine ⟨by rw [elV_len], .inr ⟨w1.heap.size, 1, (elV F).toArray, rfl, by omega, heap_alloc_last _ _, Nat.le_refl _, by unfold maxLen; omega, by simp [elV_len], ?_⟩⟩
    exact List.take_of_length_le (by simp [elV_len])
  have hFi := HF1.out.below hA
  have hBi := HB1.out.trans (hA.mono (Nat.le_trans hz0 hz1))
  generalize w1.alloc (.cells (elV F).toArray 90) = wa at *
  have hA2 : ∀ o, Below wa.heap.size wa (wa.alloc o) := fun o => b_alloc _ _
  refine ⟨hBi.trans ((hA2 _).mono (by omega)), by omega, b, c, w1.heap.size, 1, ?_, OwnP.below (hFi.toP fun k _ hk => by omega) (hA2 _), by omega, World.ownsRow.alloc hLi _, fun r o e => by cases e⟩
  have := World.rowIs_alloc wa #[.slice a n cap, .slice b n c, .slice (some ⟨w1.heap.size, 0, none⟩) 1 1] 93 (serF (.slice a n cap) (.slice b n c) (.slice (some ⟨w1.heap.size, 0, none⟩) 1 1)) (fun i hi => by
    have hi : i < 3 := hi
    match i, hi with
    | 0, _ => rfl
    | 1, _ => rfl
    | 2, _ => rfl)
  rw [hz] at this
  exact this
end Go.Proofs.Ytcofjjipjcekjab.V

namespace Go.Proofs.Ytcofjjipjcekjab.V
set_option maxRecDepth 100000
open Go.RowKit
theorem seqL (w : World) {p n cap k : Nat} {w0 : World} {a : Option Addr} {R F : List (List Int)} {G : Option (Nat × Obj)} (h : IsSeq w0 w p a n cap R F k G) : lenOf (w.cell? ⟨p, 2, none⟩) = k + 1 := by
  obtain ⟨-, -, b1, c1, b2, c2, h3, -⟩ := h
  have := World.rowIs.cell h3 (i := 2) (by omega)
  rw [this]
  rfl
set_option maxRecDepth 100000 in
set_option maxHeartbeats 4000000 in
theorem reach (w0 : World) (a : Option Addr) (n cap L : Nat) (R F : List (List Int)) (p k0 q : Nat) (G : Option (Nat × Obj)) (w : World) (hS : SerB w0 a n L R F) (h : IsSeq w0 w p a n cap R F k0 G) (hok : M.okTo R F k0) (hq : q ≤ 200) :
    Calls Try.prog 95 #[.pointer (some ⟨p, 0, none⟩), .int .i64 q] w fun e w' =>
      (∃ k1, q ≤ k1 ∧ k0 ≤ k1 ∧ (k1 = k0 ∨ k1 = q) ∧ M.okTo R F k1 ∧ IsSeq w0 w' p a n cap R F k1 G ∧ e = .returned (.bool true)) ∨
      (∃ j, k0 < j ∧ j ≤ q ∧ M.okTo R F (j - 1) ∧ M.okQ R F j = false ∧ e = .returned (.bool false) ∧ Below w0.heap.size w0 w' ∧ ∀ r o, G = some (r, o) → w'.heap[r]? = some o) := by
  have HS := Lib.hid hS
  have H0 := Lib.hid h
  have HOk := Lib.hid hok
  have n1 := hS.n1
  have n2 := hS.n2
  have l1 := hS.l1
  have l2 := hS.l2
  have HRB : Hid (∀ i j, i < n → j < n → M.Big (M.ent R i j)) := fun i j hi hj => M.big_sm (hS.sm i j hi hj) (by omega)
  clear hS h hok
  go_enter Try.func95, Try.ntmps95
  go_wp2
  go_loopw [5] (fun _ wr => ∃ k : Nat, k0 ≤ k ∧ (k = k0 ∨ k ≤ q) ∧ Hid (M.okTo R F k) ∧ Hid (IsSeq w0 wr p a n cap R F k G)) (fun _ wr => q + 1 - lenOf (wr.cell? ⟨p, 2, none⟩))
  case atStart => exact ⟨k0, Nat.le_refl _, .inl rfl, HOk, H0⟩
  case round =>
    obtain ⟨k, hk1, hk2, HOkk, HI⟩ := hrel
    obtain ⟨wo, rfl⟩ : ∃ x, x = wr := ⟨_, rfl⟩
    obtain ⟨hb0, hp, b1, c1, g2, c2, hrow, ho1, hg2, ho2, hgu⟩ := HI.out
    have HB := Lib.hid hb0
    have HRow := Lib.hid hrow
    have HO1 := Lib.hid ho1
    have HO2 := Lib.hid ho2
    have hpl := World.rowIs.lt hrow
    have s0 : wo.cell? ⟨p, 0, none⟩ = some (.slice a n cap) := World.rowIs.cell hrow (i := 0) (by omega)
    have s1 : wo.cell? ⟨p, 1, none⟩ = some (.slice b1 n c1) := World.rowIs.cell hrow (i := 1) (by omega)
    have s2 : wo.cell? ⟨p, 2, none⟩ = some (.slice (some ⟨g2, 0, none⟩) (k + 1) c2) := World.rowIs.cell hrow (i := 2) (by omega)
    have HGo := Lib.hid hgu
    clear hb0 hrow ho1 ho2 hgu
    by_cases hlt : k < q
    · have hle : (k : Int) + 1 ≤ (q : Int) := by omega
      obtain ⟨hrk, hvk⟩ := HS.out.sq (HOkk.out k (Nat.le_refl _))
      have HRk := Lib.hid hrk
      have HVk : Hid (∀ i j, i < n → j < L → M.Big (M.ent (M.sq7 R F k) i j)) := fun i j hi hj => M.big_val (hvk i j hi hj)
      have HNx := Lib.hid (HS.out.next k)
      clear hrk hvk
      go_wp2
      go_region_law (first
        | (go_simp; go_at_call 92; refine (maxPlus _).mono ?_; rintro e wm ⟨rfl, hbm⟩; have HBm := Lib.hid hbm; have HRm := Lib.hid (World.rowIs.of_block (w' := wm) HRow.out (hbm.block p hpl)); have m0 : wm.cell? ⟨p, 0, none⟩ = some (.slice a n cap) := World.rowIs.cell HRm.out (i := 0) (by omega); have m1 : wm.cell? ⟨p, 1, none⟩ = some (.slice b1 n c1) := World.rowIs.cell HRm.out (i := 1) (by omega); clear hbm)
        | (go_simp; go_at_call 91; refine (multipliedB a n cap n R b1 c1 L (M.sq7 R F k) _ ?ha ?hb1 HS.out.rect HRk.out HRB.out HVk.out n1 n2 n1 n2 l1 l2).mono ?_; (case ha => exact ((HS.out.mat.below HB.out).below (Below.refl _ _).drew).below HBm.out); (case hb1 => exact (HO1.out.toM.mat.below (Below.refl _ _).drew).below HBm.out); rintro e w1 ⟨b3, c3, rfl, ho3, hb3⟩; rw [← HNx.out] at ho3; have HO3 := Lib.hid ho3; have HB3 := Lib.hid hb3; clear ho3 hb3))
      all_goals
        have HBt : Hid (Below wo.heap.size wo w1) := Lib.hid (((Below.refl _ wo).drew.trans HBm.out).trans (HB3.out.mono HBm.out.size))
        have HRs := Lib.hid (World.rowIs.of_block (w' := w1) HRow.out (HBt.out.block p hpl))
        have HO2s := Lib.hid (ownE_keep (w' := w1) HO2.out fun j hj => HBt.out.block j (World.ownsRow.lt HO2.out j hj).2)
        have HO3s : Hid (OwnP w1 w0.heap.size (fun q => wo.heap.size ≤ q) (.slice b3 n c3) (M.sq7 R F (k + 1))) := Lib.hid ((HO3.out.toP (P := fun q => wo.heap.size ≤ q) fun j h1 _ => Nat.le_trans HBm.out.size h1).mono (Nat.le_trans HB.out.size HBm.out.size))
        have HLb : Hid (g2 ≠ p ∧ g2 < wo.heap.size) := ⟨hg2, (World.ownsRow.lt HO2.out g2 rfl).2⟩
        have HBs : Hid (Below w0.heap.size w0 w1) := Lib.hid (HB.out.trans (HBt.out.mono HB.out.size))
        have hw1 : wo.heap.size ≤ w1.heap.size := HBt.out.size
        have HGu : Hid (∀ r o, G = some (r, o) → r ≠ g2 ∧ r ≠ p ∧ r < w1.heap.size ∧ w1.heap[r]? = some o) := Lib.hid (fun r o e => ⟨(HGo.out r o e).1, (HGo.out r o e).2.1, Nat.lt_of_lt_of_le (heap_lt (HGo.out r o e).2.2) hw1, (HBt.out.block r (heap_lt (HGo.out r o e).2.2)).trans (HGo.out r o e).2.2⟩)
        have HI0 := HI
        clear HBt HO2 HO3 HB3 HBm HRm HRow HO1 HB HI m0 m1 s0 s1 s2
        obtain ⟨bv, hbv⟩ : ∃ b, b = M.isMat (M.sq7 R F (k + 1)) := ⟨_, rfl⟩
        have HBv := Lib.hid hbv.symm
        clear hbv
        cases bv with
        | false =>
          go_wp2_with fail
          refine (isMatrix_b _ _ _ (M.sq7 R F (k + 1)) _ false HBv.out HO3s.out.toM.mat).mono ?_
          rintro e w' ⟨rfl, rfl⟩
          go_wp2
          go_ret
          exact .inr ⟨k + 1, by omega, by omega, HOkk.out, HBv.out, by simp, HBs.out, fun r o e => (HGu.out r o e).2.2.2⟩
        | true =>
          have HOk2 : Hid (M.okTo R F (k + 1)) := fun j hj => by
            by_cases e : j = k + 1
            · subst e; exact HBv.out
            · exact HOkk.out j (by omega)
          have HRk2 := Lib.hid (HS.out.sq (k := k + 1) HBv.out)
          go_wp2_with fail
          refine (isMatrix_b _ _ _ (M.sq7 R F (k + 1)) _ true HBv.out HO3s.out.toM.mat).mono ?_
          rintro e w2 ⟨rfl, rfl⟩
          have hp2 := World.rowIs.lt HRs.out
          have v2 : w1.cell? ⟨p, 2, none⟩ = some (.slice (some ⟨g2, 0, none⟩) (k + 1) c2) := World.rowIs.cell HRs.out (i := 2) (by omega)
          have HEn := Lib.hid (elvs_next R F (k + 1)).symm
          have hz2 : w0.heap.size ≤ w1.heap.size := HBs.out.size
          obtain ⟨hz, hs⟩ := zero_of_info infoE
          have hel : (elV (M.sq7 R F (k + 1))).length = 101 := elV_len _
          go_wp2
          go_region_law (first
            | (refine step_appendE _ rfl _ _ rfl w0.heap.size _ (elvs R F (k + 1)) (elV (M.sq7 R F (k + 1))) (k + 1) w4.heap.size rfl ?hown rfl ?hy (elV_len _) elV_one (by omega) ?hB ?_; (case hown => exact World.ownsRow.alloc HO4.out _); (case hy => rw [heap_alloc_last, fold_zip _ _ (size_lit101 rfl)]); (case hB => have := HB4.out.size; have e : w1.drew.heap.size = w1.heap.size := rfl; simp; omega); intro g5 c5 w5 ho5 hb5 hk5 hat5; rw [HEn.out] at ho5; have HO5 := Lib.hid ho5; have HB5 := Lib.hid hb5; have HAt5 := Lib.hid hat5; have HR5 := Lib.hid (World.rowIs.of_block (w' := w5) HR4.out ((hk5 p (by simp; have := HB4.out.size; have e : w1.drew.heap.size = w1.heap.size := rfl; omega) (fun e => HLb.out.1 (Option.some.inj e))).trans (Below.heap_alloc _ _ _ (World.rowIs.lt HR4.out)))); have HK5 := Lib.hid hk5; have x1 := World.rowIs.cell HR5.out (i := 1) (by omega); have x2 := World.rowIs.frozen HR5.out 1; have HR6 := Lib.hid ((World.rowIs.set HR5.out 1 (.slice b3 n c3)).congr (serF_set1 _ _ _ _)); have x3 := World.rowIs.cell HR6.out (i := 2) (by omega); have x4 := World.rowIs.frozen HR6.out 2; clear ho5 hb5 hk5 hat5)
            | (go_simp; go_at_call 118; refine (elementOf b3 n c3 L (M.sq7 R F (k + 1)) _ ?hm HRk2.out.1 n1 n2 l1 l2 HRk2.out.2).mono ?_; (case hm => exact HO3s.out.toM.mat.below (Below.refl _ _).drew); rintro e w4 ⟨rfl, hb4⟩; have HB4 := Lib.hid hb4; have HR4 := Lib.hid (World.rowIs.of_block (w' := w4) HRs.out (hb4.block p hp2)); have HO4 := Lib.hid (ownE_keep (w' := w4) HO2s.out fun j hj => hb4.block j (World.ownsRow.lt HO2s.out j hj).2); have t4 : w4.cell? ⟨p, 2, none⟩ = some (.slice (some ⟨g2, 0, none⟩) (k + 1) c2) := World.rowIs.cell HR4.out (i := 2) (by omega); have t5 : ∀ o, (w4.alloc o).cell? ⟨p, 2, none⟩ = some (.slice (some ⟨g2, 0, none⟩) (k + 1) c2) := (fun o => (World.cell?_alloc_old _ _ _ (Nat.ne_of_lt (World.rowIs.lt HR4.out))).trans t4); clear hb4))
          all_goals
            have HIn : Hid (IsSeq w0 ((w5.setCell ⟨p, 1, none⟩ (.slice b3 n c3)).setCell ⟨p, 2, none⟩ (.slice (some ⟨g5, 0, none⟩) (k + 1 + 1) c5)) p a n cap R F (k + 1) G) := by
              have q0 : Below w1.heap.size w1 w4 := (Below.refl _ w1).drew.trans (HB4.out.mono (Nat.le_refl _))
              have q1 : Below w0.heap.size w0 w4 := HBs.out.trans (q0.mono hz2)
              have q2 := (q1.trans ((b_alloc w4 (.cells _ 90)).mono q1.size)).trans HB5.out
              have hg5 : g5 ≠ p := by
                rcases HAt5.out with e | e
                · have e : g2 = g5 := Option.some.inj e
                  rw [← e]; exact hg2
                · have e : g5 = w4.heap.size + 1 := by simpa using e
                  have := q0.size
                  omega
              refine ⟨(q2.setCell hp _).setCell hp _, hp, b3, c3, g5, c5, (World.rowIs.set HR6.out 2 (.slice (some ⟨g5, 0, none⟩) (k + 1 + 1) c5)).congr (serF_set2 _ _ _ _), ?_, hg5, ?_, fun r o e => ?_⟩
              · refine OwnP.imp (P := fun q => wo.heap.size ≤ q) (OwnP.keep (w := w1) HO3s.out fun j hj h1 h2 => ?_) fun j hj => by omega
                have hj : wo.heap.size ≤ j := hj
                have hjp : j ≠ p := by omega
                have hj4 : j < w4.heap.size := by have := q0.size; omega
                rw [Below.heap_setCell _ _ _ _ hjp, Below.heap_setCell _ _ _ _ hjp]
                exact ((HK5.out j (by simp; omega) (fun e => by have e : g2 = j := Option.some.inj e; have := HLb.out.2; omega)).trans (Below.heap_alloc _ _ _ hj4)).trans (q0.block j h2)
              · exact ownE_keep HO5.out fun j hj => by
                  have hj : g5 = j := Option.some.inj hj
                  rw [Below.heap_setCell _ _ _ _ (by show j ≠ p; omega), Below.heap_setCell _ _ _ _ (by show j ≠ p; omega)]
              · obtain ⟨r1, r2, r3, r4⟩ := HGu.out r o e
                have hr4 : r < w4.heap.size := by have := q0.size; omega
                refine ⟨?_, r2, ?_⟩
                · rcases HAt5.out with e | e
                  · have e : g2 = g5 := Option.some.inj e
                    omega
                  · have e : g5 = w4.heap.size + 1 := by simpa using e
                    omega
                · rw [Below.heap_setCell _ _ _ _ (by show r ≠ p; exact r2), Below.heap_setCell _ _ _ _ (by show r ≠ p; exact r2)]
                  exact (((HK5.out r (by simp; omega) (fun e => by have e : g2 = r := Option.some.inj e; omega)).trans (Below.heap_alloc _ _ _ hr4)).trans (q0.block r r3)).trans r4
            go_wp2
            go_roundw
            case rel => exact ⟨k + 1, by omega, .inr (by omega), HOk2, HIn⟩
            case measure => rw [seqL _ HIn.out, seqL _ HI0.out]; omega
    · have hgt : ¬ ((k : Int) + 1 ≤ (q : Int)) := by omega
      go_wp2
      go_ret
      exact .inl ⟨k, by omega, hk1, by omega, HOkk.out, HI.out, rfl⟩
end Go.Proofs.Ytcofjjipjcekjab.V

namespace Go.Proofs.Ytcofjjipjcekjab.V
set_option maxRecDepth 100000
open Go.RowKit
theorem mapM_some {α β : Type} (g : α → β) : ∀ l : List α, (l.mapM fun i => some (g i)) = some (l.map g)
  | [] => rfl
  | x :: l => by rw [List.mapM_cons, mapM_some g l]; rfl
theorem chunks {α : Type} (l : List α) (s : Nat) : ∀ n, ((List.range n).map fun i => (l.drop (i * s)).take s).flatten = l.take (n * s)
  | 0 => by simp
  | n + 1 => by
    rw [List.range_succ, List.map_append, List.flatten_append, chunks l s n]
    simp only [List.map_cons, List.map_nil, List.flatten_cons, List.flatten_nil, List.append_nil]
    rw [Nat.succ_mul, List.take_add]
theorem keyLits_arr {P : Program} {d n s : Nat} {t e : TypeId} (hu : P.underlying t = some (.array n e)) (hc : P.cellsOf t = n * s) (he : P.cellsOf e = s) (Q : Int → Prop)
    (h : ∀ p : List Int, p.length = s → (∀ x ∈ p, Q x) → P.keyLits d e (p.map (Value.int .i64)) = some (p.map (Lit.int .i64))) (l : List Int) (hl : l.length = n * s) (hq : ∀ x ∈ l, Q x) :
    P.keyLits (d + 1) t (l.map (Value.int .i64)) = some (l.map (Lit.int .i64)) := by
  unfold Program.keyLits
  simp only [hu]
  rw [if_pos (by rw [List.length_map, hl, hc]), he]
  have : ((List.range n).mapM fun i => P.keyLits d e (((l.map (Value.int .i64)).drop (i * s)).take s)) = (List.range n).mapM fun i => some (((l.map (Lit.int .i64)).drop (i * s)).take s) := by
    have : ∀ m, m ≤ n → ((List.range m).mapM fun i => P.keyLits d e (((l.map (Value.int .i64)).drop (i * s)).take s)) = (List.range m).mapM fun i => some (((l.map (Lit.int .i64)).drop (i * s)).take s) := by
      intro m
      induction m with
      | zero => intro _; rfl
      | succ m ih =>
        intro hm
        rw [List.range_succ, List.mapM_append, List.mapM_append, ih (by omega)]
        have hs : (m + 1) * s ≤ n * s := Nat.mul_le_mul_right _ hm
        rw [Nat.succ_mul] at hs
        have e1 : P.keyLits d e (((l.map (Value.int .i64)).drop (m * s)).take s) = some (((l.map (Lit.int .i64)).drop (m * s)).take s) := by
          rw [← List.map_drop, ← List.map_take, ← List.map_drop, ← List.map_take]
          exact h _ (by rw [List.length_take, List.length_drop]; omega) fun x hx => hq x (List.mem_of_mem_drop (List.mem_of_mem_take hx))
        simp only [List.mapM_cons, List.mapM_nil, e1]
    exact this n (Nat.le_refl _)
  rw [this, mapM_some, Option.map_some, chunks, List.take_of_length_le (by rw [List.length_map, hl]; exact Nat.le_refl _)]
theorem pat_keys (l : List Int) (hl : l.length = 100) (hq : ∀ x ∈ l, (Lit.int .i64 x).wf = true) : Try.prog.keyLits 3 87 (l.map (Value.int .i64)) = some (l.map (Lit.int .i64)) := by
  refine keyLits_arr (n := 10) (s := 10) (e := 85) Try.underlying87 (by kernel_rfl) (by kernel_rfl) (fun x => (Lit.int .i64 x).wf = true) (fun p hp hpq => ?_) l (by rw [hl]) hq
  refine keyLits_arr (n := 10) (s := 1) (e := 2) Try.underlying85 (by kernel_rfl) (by kernel_rfl) (fun x => (Lit.int .i64 x).wf = true) (fun p hp hpq => ?_) p (by rw [hp]) hpq
  obtain ⟨x, rfl⟩ : ∃ x, p = [x] := List.length_eq_one_iff.1 hp
  have hx := hpq x (by simp)
  unfold Program.keyLits
  simp only [Try.underlying2, List.map_cons, List.map_nil]
  simp [hx]
theorem agg_pat (w : World) : (isAgg 87).run Try.prog w = .ok true w := by
  unfold isAgg
  rw [Sem.run_bind, run_underlying Try.underlying87 w]
  rfl
theorem size_pat (w : World) : (sizeOf 87).run Try.prog w = .ok 100 w := by
  have : (Try.prog.info? 87).map (·.size) = some 100 := by kernel_rfl
  cases hq : Try.prog.info? 87 with
  | none => rw [hq] at this; cases this
  | some i => rw [hq] at this; simp at this; simp [sizeOf, typeInfo, hq, this]
theorem quiet_loadV {P : Program} {C : World → Prop} {K : Act → Prop} {o : Oper} {a : Act} (ty : TypeId) (x : Operand) (b off : Nat) (v : Value) (ho : o.op = .load ty x) (hx : a.eval x = .pointer (some ⟨b, off, none⟩))
    (hr : ∀ w, C w → (loadVar ty ⟨b, off, none⟩).run P w = .ok v w) (hk : K (a.put o.dst v)) : o.quiet P a C K :=
  ⟨v, fun w hw => by
    unfold Oper.quietAt execOp
    simp only [ho, hx, Instr.loadAt, Instr.sureAddr, Sem.run_bind, Sem.run_pure, Result.andThen_ok, hr w hw]
    exact ⟨rfl, rfl⟩, hk⟩
theorem quiet_eqlV {P : Program} {C : World → Prop} {K : Act → Prop} {o : Oper} {a : Act} (ty ty2 : TypeId) (x y : Operand) (u v : Array Value) (b : Bool) (ho : o.op = .binOp .eql ty x y ty2) (hx : a.eval x = .agg u) (hy : a.eval y = .agg v)
    (hm : P.eqGuardType P.depth ty = false) (hr : ∀ w, C w → (Op.equal ty (.agg u) (.agg v)).run P w = .ok b w) (hk : K (a.put o.dst (.bool b))) : o.quiet P a C K :=
  ⟨.bool b, fun w hw => by
    have h1 := run_eqGuard_agg (P := P) (w := w) .eql ty x y u v hm
    have h2 : (binOp .eql ty (.agg u) (.agg v)).run P w = .ok (.bool b) w := by simp [binOp, Sem.run_bind, hr w hw, Result.andThen]
    unfold Oper.quietAt execOp
    simp only [ho, hx, hy, Sem.run_bind, Sem.run_pure, Result.andThen_ok, h1, h2]
    exact ⟨rfl, rfl⟩, hk⟩
theorem pat_equal (w : World) (l r : List Int) (hl : l.length = 100) (hr : r.length = 100) (hlq : ∀ x ∈ l, (Lit.int .i64 x).wf = true) (hrq : ∀ x ∈ r, (Lit.int .i64 x).wf = true) :
    (Op.equal 87 (.agg (l.map (Value.int .i64)).toArray) (.agg (r.map (Value.int .i64)).toArray)).run Try.prog w = .ok (decide (l = r)) w := by
  have hf : ∀ z : List Int, z.length = 100 → Value.formed Try.prog 87 (.agg (z.map (Value.int .i64)).toArray) = true := fun z hz => by
    have hc : Try.prog.cellsOf 87 = 100 := by kernel_rfl
    simp [Value.formed, Try.underlying87, hc, hz]
  obtain ⟨b, hb, hiff⟩ := run_equalIn_deep (P := Try.prog) 9997 3 87 (by kernel_rfl) w 3 3 _ _ _ _ (hf l hl) (hf r hr) (by simpa [Value.cells] using pat_keys l hl hlq) (by simpa [Value.cells] using pat_keys r hr hrq)
  have e : b = decide (l = r) := by
    have : b = true ↔ l = r := by
      rw [hiff]
      constructor
      · intro e
        exact (List.map_inj_right (fun x y e => by cases e; rfl)).1 e
      · intro e; rw [e]
    by_cases q : l = r
    · rw [this.2 q]; simp [q]
    · cases b with
      | true => exact absurd (this.1 rfl) q
      | false => simp [q]
  rw [e] at hb
  exact hb
theorem IsSeq.none {w0 w : World} {p n cap k : Nat} {a : Option Addr} {R F : List (List Int)} {G : Option (Nat × Obj)} (h : IsSeq w0 w p a n cap R F k G) : IsSeq w0 w p a n cap R F k none := by
  obtain ⟨h1, h2, b1, c1, b2, c2, h3, h4, h5, h6, -⟩ := h
  exact ⟨h1, h2, b1, c1, b2, c2, h3, h4, h5, h6, fun r o e => by cases e⟩
theorem elV_pat {X : List (List Int)} {t : Nat} (ht : t < 100) : (elV X)[t]? = ((M.patC X (M.maxL X.flatten)).map (Value.int .i64))[t]? := by
  unfold elV
  rw [List.getElem?_append_left (by rw [List.length_map, M.patC_len]; exact ht)]
theorem elV_top {X : List (List Int)} : (elV X)[100]? = some (.int .i64 (M.maxL X.flatten)) := by
  unfold elV
  rw [List.getElem?_append_right (by rw [List.length_map, M.patC_len]; omega), List.length_map, M.patC_len]
  rfl
theorem els_load {w : World} {B k i g c : Nat} {R F : List (List Int)} (h : w.ownsRow B 90 101 (.slice (some ⟨g, 0, none⟩) k c) k (elvs R F k)) (hi : i < k) :
    (loadCellsFrom ⟨g, i * 101, none⟩ 0 100 #[]).run Try.prog w = .ok ((M.patC (M.sq7 R F i) (M.maxL (M.sq7 R F i).flatten)).map (Value.int .i64)).toArray w := by
  have := run_loadCells_list (P := Try.prog) (w := w) ⟨g, i * 101, none⟩ ((M.patC (M.sq7 R F i) (M.maxL (M.sq7 R F i).flatten)).map (Value.int .i64)) (fun t v hv => by
    have hadd : (⟨g, i * 101, none⟩ : Addr).add t = ⟨g, i * 101 + t, none⟩ := by unfold Addr.add; split <;> simp_all
    have ht : t < 100 := by
      have := (List.getElem?_eq_some_iff.1 hv).1
      rw [List.length_map, M.patC_len] at this
      exact this
    rw [hadd, World.ownsRow.cellAt h _ (by omega), elvs_at R F i t (by omega) k hi, elV_pat ht]
    exact hv)
  rw [List.length_map, M.patC_len] at this
  simpa [loadCells] using this
theorem els_loadV {w : World} {B k i g c : Nat} {R F : List (List Int)} (h : w.ownsRow B 90 101 (.slice (some ⟨g, 0, none⟩) k c) k (elvs R F k)) (hi : i < k) :
    (loadVar 87 ⟨g, i * 101, none⟩).run Try.prog w = .ok (.agg ((M.patC (M.sq7 R F i) (M.maxL (M.sq7 R F i).flatten)).map (Value.int .i64)).toArray) w := by
  have := els_load h hi
  simp [loadVar, agg_pat, size_pat, loadCells, this, Sem.run_bind, Result.andThen]
theorem els_top {w : World} {B k i g c : Nat} {R F : List (List Int)} (h : w.ownsRow B 90 101 (.slice (some ⟨g, 0, none⟩) k c) k (elvs R F k)) (hi : i < k) :
    w.cell? ⟨g, i * 101 + 100, none⟩ = some (.int .i64 (M.maxL (M.sq7 R F i).flatten)) := by
  rw [World.ownsRow.cellAt h _ (by omega), elvs_at R F i 100 (by omega) k hi, elV_top]
theorem pat_wf {X : List (List Int)} (hm : M.isMat X = true) : ∀ x ∈ M.patC X (M.maxL X.flatten), (Lit.int .i64 x).wf = true := fun x hx => by
  have hv := M.isVal_t (M.maxL_vals (M.flat_vals hm))
  have hb : -4000000000000000 ≤ x ∧ x ≤ 4000000000000000 := by
    unfold M.patC at hx
    obtain ⟨t, -, rfl⟩ := List.mem_map.1 hx
    by_cases q : t / 10 < X.length ∧ t % 10 < M.wid X
    · rw [if_pos q]
      have hw := M.isVal_t ((M.isMat_t hm).2.2.2.2.2 _ q.1 _ q.2)
      unfold M.times
      split <;> omega
    · rw [if_neg q]; omega
  have e1 : IntKind.i64.min = -9223372036854775808 := by kernel_rfl
  have e2 : IntKind.i64.max = 9223372036854775807 := by kernel_rfl
  simp only [Lit.wf, e1, e2, Bool.and_eq_true, decide_eq_true_eq]
  omega
theorem rep_pat {w0 : World} {a : Option Addr} {n L : Nat} {R F : List (List Int)} (hS : SerB w0 a n L R F) {k e : Nat} (hk : M.okQ R F k = true) (he : M.okQ R F e = true) :
    decide ((M.patC (M.sq7 R F k) (M.maxL (M.sq7 R F k).flatten)) = (M.patC (M.sq7 R F e) (M.maxL (M.sq7 R F e).flatten))) = M.repQ R F k e := by
  have hl := M.sq7_len (R := R) (F := F) (by rw [hS.len, hS.rlen])
  have hw := M.sq7_wid (R := R) (F := F) (by rw [hS.rlen]; exact hS.n1)
  have := M.nrm_pat (X := M.sq7 R F k) (Y := M.sq7 R F e) hk he (by rw [hl, hl]) (by rw [hw, hw])
  unfold M.repQ
  rw [decide_eq_decide]
  exact this
/-- The elements of a sequence. -/
def IsEls (w0 w : World) (p : Nat) (R F : List (List Int)) (k : Nat) : Prop :=
  Below w0.heap.size w0 w ∧ ∃ v0 v1 g2 c2, w.rowIs p 93 3 (serF v0 v1 (.slice (some ⟨g2, 0, none⟩) (k + 1) c2)) ∧ w.ownsRow w0.heap.size 90 101 (.slice (some ⟨g2, 0, none⟩) (k + 1) c2) (k + 1) (elvs R F (k + 1))
theorem res_facts {w : World} {r : Nat} (h : w.heap[r]? = some (.cells #[.int .i64 0, .int .i64 0, .int .i64 0] 81 (0, 0))) :
    (w.cell? ⟨r, 0, none⟩ = some (.int .i64 0) ∧ w.cell? ⟨r, 1, none⟩ = some (.int .i64 0) ∧ w.cell? ⟨r, 2, none⟩ = some (.int .i64 0)) ∧ w.frozen? ⟨r, 0, none⟩ = false ∧ w.frozen? ⟨r, 1, none⟩ = false ∧ w.frozen? ⟨r, 2, none⟩ = false :=
  ⟨⟨by rw [cell_of_row _ _ _ _ _ _ h]; rfl, by rw [cell_of_row _ _ _ _ _ _ h]; rfl, by rw [cell_of_row _ _ _ _ _ _ h]; rfl⟩, by simp [World.frozen?, h], by simp [World.frozen?, h], by simp [World.frozen?, h]⟩
theorem res_heap {w : World} {r : Nat} (h : w.heap[r]? = some (.cells #[.int .i64 0, .int .i64 0, .int .i64 0] 81 (0, 0))) (x y z : Value) :
    (((w.setCell ⟨r, 0, none⟩ x).setCell ⟨r, 1, none⟩ y).setCell ⟨r, 2, none⟩ z).heap[r]? = some (.cells #[x, y, z] 81 (0, 0)) := by
  rw [setCell_eq_setRow w r 0 _ _ _ _ h]
  have h1 := setRow_heap w r _ (#[.int .i64 0, .int .i64 0, .int .i64 0].setIfInBounds 0 x) _ _ h
  rw [setCell_eq_setRow _ r 1 _ _ _ _ h1]
  have h2 := setRow_heap _ r _ ((#[.int .i64 0, .int .i64 0, .int .i64 0].setIfInBounds 0 x).setIfInBounds 1 y) _ _ h1
  rw [setCell_eq_setRow _ r 2 _ _ _ _ h2]
  exact setRow_heap _ r _ (((#[.int .i64 0, .int .i64 0, .int .i64 0].setIfInBounds 0 x).setIfInBounds 1 y).setIfInBounds 2 z) _ _ h2
theorem first_res (tmps : Array Value) (w : World) (r : Nat) (x y z d : Int) (h2 : tmps.getD 2 undef = .pointer (some ⟨r, 0, none⟩)) (h3 : tmps.getD 3 undef = .int .i64 d) (hg : w.heap[r]? = some (.cells #[.int .i64 x, .int .i64 y, .int .i64 z] 81 (0, 0))) :
    (results Try.f81 tmps).run Try.prog w = .ok (.tuple #[.agg #[.int .i64 x, .int .i64 y, .int .i64 z], .int .i64 d]) w := by
  have hs : (Try.prog.info? 81).map (·.size) = some 3 := by kernel_rfl
  have := run_loadVar_row (P := Try.prog) w r 81 81 #[.int .i64 x, .int .i64 y, .int .i64 z] (0, 0) _ hg Try.underlying81 rfl hs
  rw [results_cell_tmp rfl, h2, h3]
  simp [asAddr, this, Result.andThen]
def FPost (w0 : World) (p : Nat) (R F : List (List Int)) (e : Ending) (w' : World) : Prop :=
  ∃ s c g d : Int, M.fnd R F = (s, c, g, d) ∧ e = .returned (.tuple #[.agg #[.int .i64 s, .int .i64 c, .int .i64 g], .int .i64 d]) ∧ Below w0.heap.size w0 w' ∧
    (d = 0 → ∃ i j k : Nat, s = i ∧ c = j ∧ 1 ≤ j ∧ i + j ≤ k ∧ i + j ≤ 100 ∧ M.okTo R F k ∧ IsEls w0 w' p R F k)
set_option maxRecDepth 100000 in
set_option maxHeartbeats 4000000 in
theorem firstRepeat (w0 : World) (a : Option Addr) (n cap L : Nat) (R F : List (List Int)) (p : Nat) (w : World) (hS : SerB w0 a n L R F) (h : IsSeq w0 w p a n cap R F 0 none) (hok : M.okTo R F 0) :
    Calls Try.prog 81 #[.pointer (some ⟨p, 0, none⟩)] w (FPost w0 p R F) := by
  have HS := Lib.hid hS
  have H0 := Lib.hid (h.guest (w' := w) (o := .cells #[.int .i64 0, .int .i64 0, .int .i64 0] 81))
  have HOk := Lib.hid hok
  have n1 := hS.n1
  have n2 := hS.n2
  have l1 := hS.l1
  have l2 := hS.l2
  have hr0 : w0.heap.size ≤ w.heap.size := h.1.size
  obtain ⟨r, hr⟩ : ∃ r, r = w.heap.size := ⟨_, rfl⟩
  have HFn : Hid (M.out (M.okQ R F) (M.repQ R F) (M.grQ R F) 100 0 = M.fnd R F) := Lib.hid rfl
  clear hS h hok
  go_enter Try.func81, Try.ntmps81
  go_wp2
  rw [← hr] at H0 hr0 ⊢
  generalize w.alloc _ = wa at *
  clear hr
  go_loopw [8] (fun kv wr => ∃ k k1 : Nat, k ≤ k1 ∧ k ≤ 100 ∧ kv = .int .i64 k ∧ Hid (M.okTo R F k1) ∧ Hid (IsSeq w0 wr p a n cap R F k1 (some (r, .cells #[.int .i64 0, .int .i64 0, .int .i64 0] 81))) ∧ Hid (M.out (M.okQ R F) (M.repQ R F) (M.grQ R F) (100 - k) k = M.fnd R F)) (fun kv _ => 100 - (intOf kv).toNat)
  case atStart => exact ⟨0, 0, by omega, by omega, rfl, HOk, H0, HFn⟩
  case round =>
    obtain ⟨k, k1, hkk, hk, rfl, HOkk, HI, HO⟩ := hrel
    obtain ⟨wo, rfl⟩ : ∃ x, x = wr := ⟨_, rfl⟩
    clear H0 HOk HFn
    by_cases hlt : k < 100
    · have hki : (k : Int) < 100 := by omega
      have HO2 : Hid (M.outI (M.okQ R F) (M.repQ R F) (M.grQ R F) k (k + 1) = M.fnd R F) := Lib.hid ((M.out_start hlt).symm.trans HO.out)
      clear HO
      go_wp2
      go_loopw [5] (fun ev wr => ∃ e k1 : Nat, e ≤ k1 + 1 ∧ k + 1 ≤ e ∧ e ≤ 101 ∧ ev = .int .i64 e ∧ Hid (M.okTo R F k1) ∧ Hid (IsSeq w0 wr p a n cap R F k1 (some (r, .cells #[.int .i64 0, .int .i64 0, .int .i64 0] 81))) ∧ Hid (M.outI (M.okQ R F) (M.repQ R F) (M.grQ R F) k e = M.fnd R F)) (fun ev _ => 101 - (intOf ev).toNat)
      case atStart => exact ⟨k + 1, k1, by omega, Nat.le_refl _, by omega, by go_num, HOkk, HI, HO2⟩
      case round =>
        obtain ⟨e, k2, hek, he1, he2, rfl, HOke, HIe, HOe⟩ := hrel
        obtain ⟨wi, rfl⟩ : ∃ x, x = wr := ⟨_, rfl⟩
        clear HOkk HI HO2
        by_cases hle : e ≤ 100
        · have hei : (e : Int) ≤ 100 := by omega
          go_wp2_with fail
          refine (reach w0 a n cap L R F p k2 e _ _ HS.out HIe.out HOke.out (by omega)).mono ?_
          rintro e2 w2 (⟨k3, hk3, hk4, -, hok3, hi3, rfl⟩ | ⟨j, hj1, hj2, -, hbad, rfl, hb2, hg2⟩)
          · have HOk3 := Lib.hid hok3
            have HI3 := Lib.hid hi3
            clear hok3 hi3 HIe HOke
            obtain ⟨hb3, hp, b1, c1, g2, c2, hrow, -, -, hown, hgu⟩ := HI3.out
            have HOw := Lib.hid hown
            have s2 : w2.cell? ⟨p, 2, none⟩ = some (.slice (some ⟨g2, 0, none⟩) (k3 + 1) c2) := World.rowIs.cell hrow (i := 2) (by omega)
            have hke : (k : Int) < (k3 : Int) + 1 := by omega
            have hee : (e : Int) < (k3 : Int) + 1 := by omega
            clear hb3 hrow hown hgu
            go_wp2
            go_quiet (fail)
            go_wp2
            have HI4 := Lib.hid (HI3.out.keep (w' := w2.drewN nq) (below_drewN (Below.refl _ _) nq))
            have s2' : (w2.drewN nq).cell? ⟨p, 2, none⟩ = some (.slice (some ⟨g2, 0, none⟩) (k3 + 1) c2) := s2
            clear HOw s2 HI3
            generalize w2.drewN nq = w3 at *
            obtain ⟨hb4, -, b1', c1', g3, c3, hrow, -, -, hown, hgu⟩ := id HI4.out
            obtain ⟨rfl, rfl⟩ : g3 = g2 ∧ c3 = c2 := by
              have := World.rowIs.cell hrow (i := 2) (by omega)
              rw [s2'] at this
              have := Option.some.inj this
              exact ⟨by simpa using ((Value.slice.inj this).1).symm, by simpa using ((Value.slice.inj this).2.2).symm⟩
            have HOw := Lib.hid hown
            have HRow := Lib.hid hrow
            have HGu := Lib.hid (hgu r _ rfl)
            have HB4 := Lib.hid hb4
            clear hb4 hown hrow hgu
            have hA := agg_pat
            have hZ := size_pat
            have hL1 := fun m => els_loadV (w := w3.drewN m) (i := k) (ownE_keep HOw.out fun _ _ => rfl) (show k < k3 + 1 by omega)
            have hL2 := fun m => els_loadV (w := w3.drewN m) (i := e) (ownE_keep HOw.out fun _ _ => rfl) (show e < k3 + 1 by omega)
            have hok1 := HOk3.out k (by omega)
            have hok2 := HOk3.out e (by omega)
            obtain ⟨bq, hbq⟩ : ∃ b, b = M.repQ R F k e := ⟨_, rfl⟩
            have heq := fun w => pat_equal w _ _ (M.patC_len _ _) (M.patC_len _ _) (pat_wf hok1) (pat_wf hok2)
            simp only [rep_pat HS.out hok1 hok2, ← hbq] at heq
            have HBq := Lib.hid hbq.symm
            have HOk2 := Lib.hid hok2
            clear hbq hok1 hok2
            generalize M.patC (M.sq7 R F k) (M.maxL (M.sq7 R F k).flatten) = P1 at *
            generalize M.patC (M.sq7 R F e) (M.maxL (M.sq7 R F e).flatten) = P2 at *
            refine wp_region_quiet_lit (by kernel_rfl) (by kernel_rfl) ?_
            repeat (go_big_quiet_step (fail))
            refine BigFrame.wpQuiet_want rfl (fun K hK => quiet_loadV 87 (.tmp 36) g3 (k * 101) _ rfl (by go_simp) (fun w hw => by obtain ⟨m, rfl⟩ := hw; exact hL1 m) (hK _ ?_))
            clear hK K
            simp only [Act.put, List.setIfInBounds_toArray, List.set_cons_succ, List.set_cons_zero]
            repeat (go_big_quiet_step (fail))
            refine BigFrame.wpQuiet_want rfl (fun K hK => quiet_loadV 87 (.tmp 40) g3 (e * 101) _ rfl (by go_simp) (fun w hw => by obtain ⟨m, rfl⟩ := hw; exact hL2 m) (hK _ ?_))
            clear hK K
            simp only [Act.put, List.setIfInBounds_toArray, List.set_cons_succ, List.set_cons_zero]
            refine BigFrame.wpQuiet_want rfl (fun K hK => quiet_eqlV 87 87 (.tmp 37) (.tmp 41) _ _ bq rfl (by go_simp) (by go_simp) (by kernel_rfl) (fun w hw => heq w) (hK _ ?_))
            clear hK K
            simp only [Act.put, List.setIfInBounds_toArray, List.set_cons_succ, List.set_cons_zero]
            refine wpQuiet_nil ?_
            rintro _ ⟨m, rfl⟩
            have hok1 := HOk3.out k (by omega)
            have hx1 := M.isVal_t (M.maxL_vals (M.flat_vals hok1))
            have hx2 := M.isVal_t (M.maxL_vals (M.flat_vals HOk2.out))
            have HI5 := Lib.hid (HI4.out.keep (w' := w3.drewN m) (below_drewN (Below.refl _ _) m))
            have tk : (w3.drewN m).cell? ⟨g3, k * 101 + 100, none⟩ = some (.int .i64 (M.maxL (M.sq7 R F k).flatten)) := els_top (w := w3.drewN m) (ownE_keep HOw.out fun _ _ => rfl) (by omega)
            have te : (w3.drewN m).cell? ⟨g3, e * 101 + 100, none⟩ = some (.int .i64 (M.maxL (M.sq7 R F e).flatten)) := els_top (w := w3.drewN m) (ownE_keep HOw.out fun _ _ => rfl) (by omega)
            have HOw' : Hid ((w3.drewN m).ownsRow w0.heap.size 90 101 (.slice (some ⟨g3, 0, none⟩) (k3 + 1) c3) (k3 + 1) (elvs R F (k3 + 1))) := Lib.hid (ownE_keep HOw.out fun _ _ => rfl)
            have HRow' := Lib.hid (World.rowIs.of_block (w' := w3.drewN m) HRow.out rfl)
            have HB' : Hid (Below w0.heap.size w0 (w3.drewN m)) := Lib.hid (below_drewN HB4.out m)
            have HGu' : Hid (r ≠ g3 ∧ r ≠ p ∧ (w3.drewN m).heap[r]? = some (.cells #[.int .i64 0, .int .i64 0, .int .i64 0] 81)) := HGu
            have hGr : M.grQ R F k e = M.maxL (M.sq7 R F e).flatten - M.maxL (M.sq7 R F k).flatten := rfl
            clear HI4 HOw HRow HB4 HGu hL1 hL2 heq s2' hok1 hA hZ
            generalize M.maxL (M.sq7 R F k).flatten = x1 at *
            generalize M.maxL (M.sq7 R F e).flatten = x2 at *
            generalize w3.drewN m = w4 at *
            have HGr := Lib.hid hGr
            clear hGr
            cases bq with
            | true =>
              have HFo : Hid (M.fnd R F = ((k : Int), (e : Int) - k, M.grQ R F k e, 0)) := Lib.hid (HOe.out.symm.trans (M.outI_found hle HOk2.out HBq.out))
              obtain ⟨⟨z0, z1, z2⟩, f0, f1, f2⟩ := res_facts HGu'.out.2.2
              have hwk : IntKind.i64.wrap ((e : Int) - (k : Int)) = (e : Int) - (k : Int) := IntWalk.i64_in _ (by omega)
              have hwx : IntKind.i64.wrap (x2 - x1) = x2 - x1 := IntWalk.i64_in _ (by omega)
              go_wp2
              go_region
              all_goals
                go_wp2
                refine bodyPost_ret (first_res _ _ r (k : Int) ((e : Int) - k) (x2 - x1) 0 rfl rfl (res_heap HGu'.out.2.2 _ _ _)) rfl ⟨k, (e : Int) - k, x2 - x1, 0, by rw [HFo.out, HGr.out], rfl, ?_, fun _ => ⟨k, e - k, k3, rfl, by omega, by omega, by omega, by omega, HOk3.out, ?_, _, _, g3, c3, World.rowIs.of_block HRow'.out ?_, ownE_keep HOw'.out fun j hj => ?_⟩⟩
                · exact (((HB'.out.setCell hr0 _).setCell hr0 _).setCell hr0 _).drew
                · exact (((HB'.out.setCell hr0 _).setCell hr0 _).setCell hr0 _).drew
                · exact ((Below.heap_setCell _ _ _ _ (fun e => HGu'.out.2.1 e.symm)).trans (Below.heap_setCell _ _ _ _ (fun e => HGu'.out.2.1 e.symm))).trans (Below.heap_setCell _ _ _ _ (fun e => HGu'.out.2.1 e.symm))
                · have hj : g3 = j := Option.some.inj hj
                  have hjr : j ≠ r := fun e => HGu'.out.1 (e.symm.trans hj.symm)
                  exact ((Below.heap_setCell _ _ _ _ hjr).trans (Below.heap_setCell _ _ _ _ hjr)).trans (Below.heap_setCell _ _ _ _ hjr)
            | false =>
              go_wp2
              go_roundw
              case rel => exact ⟨e + 1, k3, by omega, by omega, by omega, by go_num, HOk3, HI5, Lib.hid ((M.outI_next hle HOk2.out HBq.out).symm.trans HOe.out)⟩
              case measure => simp [intOf]; omega
          · have HB2 := Lib.hid hb2
            have HG2 := Lib.hid (hg2 r _ rfl)
            have HBad := Lib.hid (show M.okQ R F j = false from hbad)
            obtain ⟨⟨z0, z1, z2⟩, f0, f1, f2⟩ := res_facts HG2.out
            clear hb2 hg2 hbad
            go_wp2
            refine bodyPost_ret (first_res _ _ r 0 0 0 3 rfl rfl (res_heap HG2.out _ _ _)) rfl ⟨0, 0, 0, 3, by have e : j = e := (by omega); subst e; exact HOe.out.symm.trans (M.outI_limit hle HBad.out), rfl, ((HB2.out.setCell hr0 _).setCell hr0 _).setCell hr0 _, fun h => by omega⟩
        · go_wp2
          go_roundw
          case rel => exact ⟨k + 1, k2, by omega, by omega, by go_num, HOke, HIe, Lib.hid ((by rw [← M.outI_end hle hlt]; exact HOe.out))⟩
          case measure => simp [intOf]; omega
    · obtain ⟨hb3, -, b1, c1, g2, c2, -, -, -, -, hgu⟩ := id HI.out
      obtain ⟨⟨z0, z1, z2⟩, f0, f1, f2⟩ := res_facts (hgu r _ rfl).2.2
      have HB3 := Lib.hid hb3
      have HG3 := Lib.hid (hgu r _ rfl).2.2
      clear hb3 hgu
      go_wp2
      obtain rfl : k = 100 := by omega
      refine bodyPost_ret (first_res _ _ r 0 0 0 4 rfl rfl (res_heap (HG3.out) _ _ _)) rfl ⟨0, 0, 0, 4, HO.out.symm, rfl, ((HB3.out.setCell hr0 _).setCell hr0 _).setCell hr0 _, fun h => by omega⟩
end Go.Proofs.Ytcofjjipjcekjab.V
