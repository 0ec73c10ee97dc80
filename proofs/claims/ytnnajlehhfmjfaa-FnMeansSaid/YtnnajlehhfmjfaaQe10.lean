/- Texts laid together: MatKp, Powm, Tabm, Gr1, Gr2. -/
import Derived.Test.YtnnajlehhfmjfaaQe9
import Derived.Test.YtnnajlehhfmjfaaQe2
import Derived.Test.YtnnajlehhfmjfaaQe1
import Derived.Test.YtnnajlehhfmjfaaQe8
import Derived.Test.YtnnajlehhfmjfaaQe4
set_option linter.unusedSimpArgs false
set_option linter.unusedVariables false
set_option linter.unusedSectionVars false
namespace Go.Proofs.Ytnnajlehhfmjfaa.V
open Go.RowKit
/-- As appendR, with what stays as it was. -/
theorem appendR2 (w : World) {ops : Array Oper} {rest : List Oper} {o : Oper} {a : Act} {Q : Exit → Act → World → Prop} (hgd : o.guard = none) (s x : Operand)
    (ho : o.op = .call { callee := .builtin .append, args := #[s, x], argTypes := #[104, 104] }) (B : Nat) (v : Value) (l : List (Int × Int)) (p : Int × Int) (n g : Nat) (hn : l.length = n) (hs : a.eval s = v) (hown : OwnR w B v l)
    (hx : a.eval x = .slice (some ⟨g, 0, none⟩) 1 1) (hy1 : w.cell? ⟨g, 0, none⟩ = some (.int .i64 p.1)) (hy2 : w.cell? ⟨g, 1, none⟩ = some (.int .i64 p.2)) (hlen : l.length ≤ 2000000) (hB : B ≤ w.heap.size)
    (h : ∀ b' c' w', OwnR w' B (.slice b' (n + 1) c') (l ++ [p]) → Below B w w' → (∀ k, k < w.heap.size → v.ownBlock ≠ some k → w'.heap[k]? = w.heap[k]?) → ((Value.slice b' (n + 1) c').ownBlock = v.ownBlock ∨ (Value.slice b' (n + 1) c').ownBlock = some w.heap.size) → wpList Try.prog ops Q rest (a.put o.dst (.slice b' (n + 1) c')) w') :
    wpList Try.prog ops Q (o :: rest) a w := by
  subst hn
  obtain ⟨i0, hi, hz0, hz1, hz2⟩ := info_parts infoR
  refine wpList_append_own_at (w := w) hgd s x 104 ho B 27 i0 (.agg #[.int .i64 0, .int .i64 0]) 2 16 Try.underlying104 hi hz0 hz1 hz2 rfl (by decide) v _ _ hs hown ⟨g, 0, none⟩ 1 1 [.int .i64 p.1, .int .i64 p.2] hx rfl ?c1 ?c2 ?c3 ?c4 hB ?_
  case c1 =>
    intro j u hj
    match j, hj with
    | 0, hj => simp at hj; subst hj; exact hy1
    | 1, hj => simp at hj; subst hj; exact hy2
    | j + 2, hj => simp at hj
  case c2 => intro u hu; simp at hu; rcases hu with rfl | rfl <;> rfl
  case c3 => unfold maxLen; omega
  case c4 => omega
  · intro v' w' hown' hgrow hz hvb
    have ho' : OwnR w' B v' (l ++ [p]) := by
      show w'.ownsRow B _ 2 v' (l ++ [p]).length (rcells (l ++ [p]))
      rw [rcells_snoc]
      simpa using hown'
    obtain ⟨b', c', hv', _⟩ := ho'.form
    rw [show (l ++ [p]).length = l.length + 1 by simp] at hv'
    subst hv'
    have hb := (Below.refl B w).grown hgrow hB (fun k hk => (OwnR.lt hown hk).1)
    obtain ⟨g1, g2, g3, g4, g5⟩ := hgrow
    exact h b' c' w' ho' hb (fun k hk hne => g5 k hk (fun e => hne e.symm)) hvb
/-- A matrix whose blocks lie apart from a list that grows. -/
def MatK (wr : World) (v : Value) (a : Option Addr) (n : Nat) (R : List (List Int)) : Prop :=
  ∃ lo hi, (∀ w', Below 0 wr w' → (∀ k, lo ≤ k → k < hi → w'.heap[k]? = wr.heap[k]?) → Mat w' a n R) ∧ hi ≤ wr.heap.size ∧ ∀ g, v.ownBlock = some g → g < lo ∨ hi ≤ g
theorem MatK.mat {wr : World} {v : Value} {a : Option Addr} {n : Nat} {R : List (List Int)} (h : MatK wr v a n R) : Mat wr a n R := by
  obtain ⟨lo, hi, h1, -, -⟩ := h
  exact h1 wr (Below.refl _ _) fun _ _ _ => rfl
theorem below0 {B : Nat} {w w' : World} (hb : Below B w w') : Below 0 w w' := hb.mono (Nat.zero_le _)
theorem MatK.step {wr w' : World} {v v' : Value} {a : Option Addr} {n : Nat} {R : List (List Int)} (h : MatK wr v a n R) (hb : Below 0 wr w') (hk : ∀ k, k < wr.heap.size → v.ownBlock ≠ some k → w'.heap[k]? = wr.heap[k]?)
    (hv : v'.ownBlock = v.ownBlock ∨ v'.ownBlock = some wr.heap.size) : MatK w' v' a n R := by
  obtain ⟨lo, hi, h1, h2, h3⟩ := h
  have hs := hb.size
  refine ⟨lo, hi, fun w2 hb2 hk2 => h1 w2 (hb.trans hb2) fun k k1 k2 => (hk2 k k1 k2).trans (hk k (by omega) fun e => ?_), by omega, fun g hg => ?_⟩
  · have := h3 k e; omega
  · rcases hv with hv | hv
    · exact h3 g (hv.symm.trans hg)
    · rw [hv] at hg; injection hg with hg; omega
theorem MatK.below {wr w' : World} {v : Value} {a : Option Addr} {n : Nat} {R : List (List Int)} (h : MatK wr v a n R) (hb : Below wr.heap.size wr w') : MatK w' v a n R :=
  h.step (below0 hb) (fun k hk _ => hb.block k hk) (.inl rfl)
/-- At the start: a matrix that was there before the list. -/
theorem matK_old {w wr : World} {v : Value} {a : Option Addr} {n : Nat} {R : List (List Int)} (h : Mat w a n R) (hb : Below w.heap.size w wr) (hv : ∀ g, v.ownBlock = some g → w.heap.size ≤ g) : MatK wr v a n R :=
  ⟨0, w.heap.size, fun _ hb2 hk => h.below ⟨hb2.os.trans hb.os, hb2.tape.trans hb.tape, hb2.output.trans hb.output, Nat.le_trans hb.size hb2.size, fun k hk2 => (hk k (Nat.zero_le _) hk2).trans (hb.block k hk2)⟩, hb.size, fun g hg => .inr (hv g hg)⟩
/-- A matrix that was made after the list's last growth. -/
theorem matK_new {w wr : World} {v : Value} {a : Option Addr} {n c : Nat} {R : List (List Int)} (h : OwnM wr w.heap.size (.slice a n c) R) (hv : ∀ g, v.ownBlock = some g → g < w.heap.size) : MatK wr v a n R :=
  ⟨w.heap.size, wr.heap.size, fun _ _ hk => (h.keep hk).mat, Nat.le_refl _, fun g hg => .inl (hv g hg)⟩
end Go.Proofs.Ytnnajlehhfmjfaa.V

namespace Go.Proofs.Ytnnajlehhfmjfaa.V
open Go.RowKit
/-- The result's box, with its two zeros. -/
def MBox0 (w wr : World) : Prop :=
  Below (w.heap.size + 2) wr wr ∧ Below w.heap.size w wr ∧ w.heap.size + 1 < wr.heap.size ∧ wr.cell? ⟨w.heap.size + 1, 0, none⟩ = some (.int .i64 0) ∧ wr.cell? ⟨w.heap.size + 1, 1, none⟩ = some (.int .i64 0) ∧ wr.frozen? ⟨w.heap.size + 1, 0, none⟩ = false ∧ wr.frozen? ⟨w.heap.size + 1, 1, none⟩ = false
theorem MBox0.keep {w w1 w2 : World} (h : MBox0 w w1) (hb : Below (w.heap.size + 2) w1 w2) : MBox0 w w2 := by
  obtain ⟨_, h1, h2, a1, a2, a3, a4⟩ := h
  have hs := hb.size
  refine ⟨Below.refl _ _, h1.trans (hb.mono (by omega)), by omega, ?_, ?_, ?_, ?_⟩
  · rw [hb.cell (p := ⟨w.heap.size + 1, 0, none⟩) (by show w.heap.size + 1 < _; omega)]; exact a1
  · rw [hb.cell (p := ⟨w.heap.size + 1, 1, none⟩) (by show w.heap.size + 1 < _; omega)]; exact a2
  · rw [hb.frozen (p := ⟨w.heap.size + 1, 0, none⟩) (by show w.heap.size + 1 < _; omega)]; exact a3
  · rw [hb.frozen (p := ⟨w.heap.size + 1, 1, none⟩) (by show w.heap.size + 1 < _; omega)]; exact a4
set_option maxRecDepth 100000 in
set_option maxHeartbeats 2000000 in
theorem powerMean (a : Option Addr) (n cap : Nat) (R : List (List Int)) (w : World) (h : Sq w a n R) (hA : ∀ i j, i < n → j < n → M.Sm 1000000 (M.ent R i j)) (hc : M.hasCyc (M.ent R) n = true) :
    Calls Try.prog 60 #[.agg #[], .slice a n cap] w fun e w' => e = .returned (.agg #[.int .i64 (M.bestR (M.ent R) n).1, .int .i64 (M.bestR (M.ent R) n).2]) ∧ Below w.heap.size w w' := by
  have HS := Lib.hid h
  have HSm := Lib.hid hA
  have HC := Lib.hid hc
  obtain ⟨n1, n2⟩ := h.2.2.2
  clear h hA hc
  go_enter Try.func60, Try.ntmps60
  go_wp2
  go_loopw [5, 6, 7, 8, 9, 13] (fun ms pw _ _ _ i wr => ∃ (k : Nat) (b : Option Addr) (c : Nat) (pb : Option Addr) (pc : Nat) (P : List (List Int)), k ≤ n ∧ i = .int .i64 k ∧ ms = .slice b (M.mnL (M.ent R) n k).length c ∧ pw = .slice pb n pc ∧ Hid (OwnR wr (w.heap.size + 2) (.slice b (M.mnL (M.ent R) n k).length c) (M.mnL (M.ent R) n k)) ∧ Hid (MatK wr (.slice b (M.mnL (M.ent R) n k).length c) pb n P) ∧ Hid (Rect P n n) ∧ Hid (∀ i j, i < n → j < n → M.ent P i j = M.bpw (M.ent R) n k i j) ∧ Hid (MBox0 w wr)) (fun _ _ _ _ _ i _ => n - (intOf i).toNat)
  case atStart => exact ⟨0, none, 0, _, _, R, Nat.zero_le _, rfl, rfl, rfl, ownR_nil _ _, matK_old HS.out.1 (b_alloc2 _ _ _) (fun g hg => by cases hg), HS.out.2.1, fun _ _ _ _ => rfl, ⟨Below.refl _ _, b_alloc2 _ _ _, by simp, by simp [go_sem], by simp [go_sem], by simp [go_sem], by simp [go_sem]⟩⟩
  case round =>
    obtain ⟨k, b, c, pb, pc, P, hk, rfl, rfl, rfl, HO, HK, HT, HE, HM⟩ := hrel
    obtain ⟨wo, rfl⟩ : ∃ x, x = wr := ⟨_, rfl⟩
    by_cases hlt : k < n
    · have hki : (k : Int) < (n : Int) := by omega
      have hki1 : (k : Int) + 1 ≤ 10 := by omega
      go_wp2
      go_loopw [5, 8, 9, 18] (fun ms _ _ j wr => ∃ (t : Nat) (b : Option Addr) (c : Nat), t ≤ n ∧ j = .int .i64 t ∧ ms = .slice b (M.mnL (M.ent R) n k ++ M.dgL (M.ent R) n k t).length c ∧ Hid (OwnR wr (w.heap.size + 2) (.slice b (M.mnL (M.ent R) n k ++ M.dgL (M.ent R) n k t).length c) (M.mnL (M.ent R) n k ++ M.dgL (M.ent R) n k t)) ∧ Hid (MatK wr (.slice b (M.mnL (M.ent R) n k ++ M.dgL (M.ent R) n k t).length c) pb n P) ∧ Hid (MBox0 w wr)) (fun _ _ _ j _ => n - (intOf j).toNat)
      case atStart =>
        have e : M.mnL (M.ent R) n k ++ M.dgL (M.ent R) n k 0 = M.mnL (M.ent R) n k := List.append_nil _
        refine ⟨0, b, c, Nat.zero_le _, rfl, ?_⟩
        rw [e]
        exact ⟨rfl, HO, HK, HM⟩
      case round =>
        clear HO HK HM
        obtain ⟨t, b1, c1, ht, rfl, rfl, HO, HK, HM⟩ := hrel
        obtain ⟨wi, rfl⟩ : ∃ x, x = wr := ⟨_, rfl⟩
        by_cases htl : t < n
        · have hti : (t : Int) < (n : Int) := by omega
          obtain ⟨d, od, rr, rcr, rfl, hbr, hcr0, hIr⟩ := HK.out.mat.rect_at HT.out t htl
          obtain ⟨rrb, rro, x, rfl, -, hx, hcx⟩ := hIr.at t htl
          have hxe : x = M.bpw (M.ent R) n k t t := hx.trans (HE.out t t htl htl)
          have HX := Lib.hid hxe
          clear hIr hx hxe
          by_cases hxb : x = -1000000000000000
          · have hxb2 : (x != -1000000000000000) = false := by simp [hxb]
            have e : M.mnL (M.ent R) n k ++ M.dgL (M.ent R) n k (t + 1) = M.mnL (M.ent R) n k ++ M.dgL (M.ent R) n k t := by
              rw [M.dgL_next, if_pos (HX.out.symm.trans hxb), List.append_nil]
            have HNe := Lib.hid e
            clear e hxb
            go_wp2
            go_roundw
            case rel =>
              refine ⟨t + 1, b1, c1, by omega, by go_num, ?_⟩
              rw [HNe.out]
              exact ⟨rfl, HO, HK, HM⟩
            case measure => simp [intOf]; omega
          · have hxb2 : (x != -1000000000000000) = true := by simp [hxb]
            have e : M.mnL (M.ent R) n k ++ M.dgL (M.ent R) n k (t + 1) = (M.mnL (M.ent R) n k ++ M.dgL (M.ent R) n k t) ++ [M.meanR x ((k : Int) + 1)] := by
              rw [M.dgL_next, if_neg (fun q => hxb (HX.out.trans q)), ← HX.out, List.append_assoc]
            have HNe := Lib.hid e
            have hbd : -1000000000000 ≤ x ∧ x ≤ 1000000000000 := by
              have := M.bpw_sm HSm.out k t t htl htl
              rw [← HX.out] at this
              rcases this with q | q
              · exact absurd q hxb
              · omega
            obtain ⟨hbd1, hbd2⟩ := hbd
            have hll : (M.mnL (M.ent R) n k ++ M.dgL (M.ent R) n k t).length ≤ 200 := by
              have q1 := M.mnL_len (M.ent R) n k
              have q2 := M.dgL_len (M.ent R) n k t
              have q3 : k * n ≤ 10 * 10 := Nat.mul_le_mul (by omega) n2
              rw [List.length_append]; omega
            have HLL := Lib.hid hll
            clear e hxb hll
            generalize M.mnL (M.ent R) n k ++ M.dgL (M.ent R) n k t = l at *
            go_wp2_with fail
            refine (reduced _ _ _ (by omega) (by omega) (by omega) (by omega) (by omega)).mono ?_
            rintro e w2 ⟨rfl, hb2⟩
            have HB2 := Lib.hid hb2
            have hz2 := hb2.size
            clear hb2
            go_wp2_with (at_builtin; refine appendR2 (w2.alloc (.cells #[.int .i64 (M.ratN x ((k : Int) + 1)), .int .i64 (M.ratD x ((k : Int) + 1))] 27)) rfl (.tmp 28) (.tmp 36) rfl (w.heap.size + 2) _ l (M.meanR x ((k : Int) + 1)) _ w2.heap.size rfl rfl ((HO.out.below HB2.out).below (b_alloc _ _)) rfl (by simp [go_sem, M.meanR]) (by simp [go_sem, M.meanR]) (by have := HLL.out; omega) ?hB ?_)
            case hB => have := HM.out.2.2.1; simp; omega
            intro b4 c4 w4 hO4 hb4 hk4 hv4
            have HO4 := Lib.hid hO4
            have HK4 : Hid (MatK w4 (.slice b4 (l.length + 1) c4) (some ⟨d, od, none⟩) n P) := ((HK.out.below HB2.out).below (b_alloc _ _)).step (below0 hb4) (fun q hq => hk4 q (by simpa using hq)) (by simpa using hv4)
            have HM4 : Hid (MBox0 w w4) := ((HM.out.keep (HB2.out.mono HM.out.2.2.1)).keep ((Below.refl _ _).alloc (by have := HM.out.2.2.1; omega) _)).keep hb4
            clear hO4 hb4 hk4 hv4
            go_wp2
            go_roundw
            case rel =>
              refine ⟨t + 1, b4, c4, by omega, by go_num, ?_⟩
              rw [HNe.out, List.length_append]
              exact ⟨rfl, HO4, HK4, HM4⟩
            case measure => simp [intOf]; omega
        · obtain rfl : t = n := by omega
          have e : M.mnL (M.ent R) t k ++ M.dgL (M.ent R) t k t = M.mnL (M.ent R) t (k + 1) := (M.mnL_next _ _ _).symm
          rw [e] at HO HK ⊢
          clear e
          have HPB : Hid (∀ i j, i < t → j < t → M.Big (M.ent P i j)) := fun i j hi hj => by
            rw [HE.out i j hi hj]
            exact M.big_sm (M.bpw_sm HSm.out k i j hi hj) (by omega)
          have HRB : Hid (∀ i j, i < t → j < t → M.Big (M.ent R i j)) := fun i j hi hj => M.big_sm (HSm.out i j hi hj) (by omega)
          go_wp2_with fail
          refine (maxPlus _).mono ?_
          rintro e w2 ⟨rfl, hb2⟩
          have HB2 := Lib.hid hb2
          have hz2 := hb2.size
          clear hb2
          go_wp2_with fail
          refine (multipliedB _ _ _ t P _ _ t R _ (HK.out.mat.below HB2.out) (HS.out.1.below (HM.out.2.1.trans (HB2.out.mono (by have := HM.out.2.2.1; omega)))) HT.out HS.out.2.1 HPB.out HRB.out n1 n2 n1 n2 n1 n2).mono ?_
          rintro e w3 ⟨a3, c3, rfl, hP, hb3⟩
          have HB3 := Lib.hid hb3
          have HP := Lib.hid hP
          clear hb3 hP
          have HO3 := Lib.hid ((HO.out.below HB2.out).below HB3.out)
          have HM3 : Hid (MBox0 w w3) := (HM.out.keep (HB2.out.mono HM.out.2.2.1)).keep (HB3.out.mono (by have := HM.out.2.2.1; omega))
          have HK3 : Hid (MatK w3 (.slice b1 (M.mnL (M.ent R) t (k + 1)).length c1) a3 t (M.mk t t fun i j => M.dot P R i j t)) := matK_new HP.out (fun g hg => by have := (OwnR.lt HO.out hg).2; omega)
          go_wp2
          go_roundw
          case rel =>
            exact ⟨k + 1, b1, c1, a3, c3, _, by omega, by go_num, rfl, rfl, HO3, HK3, rect_mk _ _ _, fun i j hi hj => by
              rw [M.ent_mk _ _ _ _ _ hi hj]
              show _ = M.sumN t fun u => M.times (M.bpw (M.ent R) t k i u) (M.ent R u j)
              unfold M.dot
              refine M.sumN_congr fun u hu => ?_
              rw [HE.out i u hi hu], HM3⟩
          case measure => simp [intOf]; omega
    · obtain rfl : k = n := by omega
      have h1 := M.mnL_some n2 HSm.out HC.out
      have h2 : (M.mnL (M.ent R) k k).length ≤ 1000 := by
        have q1 := M.mnL_len (M.ent R) k k
        have q3 : k * k ≤ 10 * 10 := Nat.mul_le_mul n2 n2
        omega
      have H1 := Lib.hid h1
      have H2 := Lib.hid h2
      have HBD : Hid (∀ i, i < (M.mnL (M.ent R) k k).length → M.Rb ((M.mnL (M.ent R) k k).getD i (0, 0))) := fun i hi => by
        rw [List.getD_eq_getElem?_getD, List.getElem?_eq_getElem hi]
        obtain ⟨q1, q2, q3, q4⟩ := M.mnL_bd HSm.out n2 (List.getElem_mem hi)
        exact ⟨by simp only [Option.getD_some]; omega, by simp only [Option.getD_some]; omega, q3, by simp only [Option.getD_some]; omega⟩
      have HBR : Hid (M.bestR (M.ent R) k = M.maxR (M.mnL (M.ent R) k k)) := rfl
      obtain ⟨p, hp⟩ : ∃ p, p = M.bestR (M.ent R) k := ⟨_, rfl⟩
      have HPp := Lib.hid hp
      clear h1 h2 hp HK
      generalize M.mnL (M.ent R) k k = l at *
      go_wp2_with fail
      refine (maxFunc _ _ _ _ l _ HO.out H1.out H2.out HBD.out).mono ?_
      rintro e w3 ⟨rfl, hb3⟩
      rw [← HBR.out, ← HPp.out]
      have HM3 := Lib.hid (HM.out.keep (hb3.mono HM.out.2.2.1))
      obtain ⟨-, hb, hz, a1, a2, a3, a4⟩ := HM3.out
      have HBB := Lib.hid hb
      clear hb3 hb
      go_wp2
      exact bodyPost_ret (v := .agg #[.int .i64 p.1, .int .i64 p.2]) (by simp [results, Try.results60, go_sem, hz, a1, a2, a3, a4]) rfl ⟨by rw [HPp.out], (HBB.out.setCell (by show w.heap.size ≤ w.heap.size + 1; omega) _).setCell (by show w.heap.size ≤ w.heap.size + 1; omega) _⟩
theorem cycleMean (a : Option Addr) (n cap : Nat) (R : List (List Int)) (w : World) (h : Mat w a n R) :
    Calls Try.prog 15 #[.slice a n cap] w fun e w' => e = .returned (.tuple #[.agg #[.int .i64 (M.cycMeanRes R).1.1, .int .i64 (M.cycMeanRes R).1.2], .int .i64 (M.cycMeanRes R).2]) ∧ Below w.heap.size w w' :=
  cycleMean_of a n cap R w h fun hs hc W hW => powerMean a n cap R W (sq_of hW hs) (sm_of hW hs) hc
end Go.Proofs.Ytnnajlehhfmjfaa.V

namespace Go.Proofs.Ytnnajlehhfmjfaa.V
open Go.RowKit
theorem OwnM.cap {w : World} {B n cap : Nat} {a : Option Addr} {R : List (List Int)} (h : OwnM w B (.slice a n cap) R) : n ≤ cap ∧ cap ≤ maxLen := by
  obtain ⟨V, h1, h2, _⟩ := h
  obtain ⟨a', c', hv, k1, k2, _⟩ := own_form h2
  injection hv with e1 e2 e3
  subst e2 e3
  exact ⟨k1, k2⟩
set_option maxRecDepth 100000 in
set_option maxHeartbeats 2000000 in
theorem tableWay (a : Option Addr) (n cap : Nat) (R : List (List Int)) (w : World) (h : Sq w a n R) (hA : ∀ i j, i < n → j < n → M.Sm 1000000 (M.ent R i j)) (hc : M.hasCyc (M.ent R) n = true) :
    Calls Try.prog 161 #[.agg #[], .slice a n cap] w fun e w' => e = .returned (.agg #[.int .i64 (M.tabR (M.ent R) n).1, .int .i64 (M.tabR (M.ent R) n).2]) ∧ Below w.heap.size w w' := by
  have HS := Lib.hid h
  have HSm := Lib.hid hA
  have HC := Lib.hid hc
  obtain ⟨n1, n2⟩ := h.2.2.2
  clear h hA hc
  go_enter Try.func161, Try.ntmps161
  go_wp2_with fail
  refine (endWeights _ _ _ R _ (HS.out.below (b_alloc2 _ _ _)) HSm.out).mono ?_
  rintro e wt ⟨tb, tc, rfl, hO, hb⟩
  have HM0 : Hid (MBox0 w ((w.alloc (.cells #[] 70)).alloc (.cells #[.int .i64 0, .int .i64 0] 27))) := ⟨Below.refl _ _, b_alloc2 _ _ _, by simp, by simp [go_sem], by simp [go_sem], by simp [go_sem], by simp [go_sem]⟩
  have HM : Hid (MBox0 w wt) := HM0.out.keep (hb.mono (by simp))
  have HTM := Lib.hid hO.mat
  have HTR : Hid (Rect (M.endM (M.ent R) n (n + 1)) (n + 1) n) := rect_mk _ _ _
  have hcap := hO.cap
  obtain ⟨hcap1, hcap2⟩ := hcap
  unfold maxLen at hcap2
  obtain ⟨d, od, rr, rcr, rfl, hbr, hcr0, hIr⟩ := HTM.out.rect_at HTR.out n (by omega)
  have HIr := Lib.hid hIr
  have hn1 : n ≤ tc := by omega
  clear hO hb HM0 hIr
  go_wp2
  clear hcr0
  go_loopw [7, 8, 9, 10, 11, 12, 22] (fun ms _ _ _ _ _ i wr => ∃ (v : Nat) (b : Option Addr) (c : Nat), v ≤ n ∧ i = .int .i64 v ∧ ms = .slice b (M.tbL (M.ent R) n v).length c ∧ Hid (OwnR wr wt.heap.size (.slice b (M.tbL (M.ent R) n v).length c) (M.tbL (M.ent R) n v)) ∧ Hid (Below wt.heap.size wt wr)) (fun _ _ _ _ _ _ i _ => n - (intOf i).toNat)
  case atStart => exact ⟨0, none, 0, Nat.zero_le _, rfl, rfl, ownR_nil _ _, Below.refl _ _⟩
  case round =>
    obtain ⟨v, b, c, hv, rfl, rfl, HO, HB⟩ := hrel
    obtain ⟨wo, rfl⟩ : ∃ x, x = wr := ⟨_, rfl⟩
    have hzt := HB.out.size
    by_cases hlt : v < n
    · have hki : (v : Int) < (n : Int) := by omega
      obtain ⟨rb, ro, y, rfl, -, hy, hcy⟩ := (HIr.out.below HB.out).at v hlt
      have hye : y = M.Fk (M.ent R) n n v := hy.trans (M.ent_mk _ _ _ _ _ (Nat.lt_succ_self n) hlt)
      have HY := Lib.hid hye
      clear hy hye
      by_cases hyb : y = -1000000000000000
      · have hyb2 : (y == -1000000000000000) = true := by simp [hyb]
        have e : M.tbL (M.ent R) n (v + 1) = M.tbL (M.ent R) n v := by rw [M.tbL_next, if_pos (HY.out.symm.trans hyb), List.append_nil]
        have HNe := Lib.hid e
        clear e hyb
        go_wp2
        go_roundw
        case rel =>
          refine ⟨v + 1, b, c, by omega, by go_num, ?_⟩
          rw [HNe.out]
          exact ⟨rfl, HO, HB⟩
        case measure => simp [intOf]; omega
      · have hyb2 : (y == -1000000000000000) = false := by simp [hyb]
        have HYB := Lib.hid hyb
        have e : M.tbL (M.ent R) n (v + 1) = M.tbL (M.ent R) n v ++ [M.minR (M.slL (M.ent R) n v n)] := by rw [M.tbL_next, if_neg (fun q => hyb (HY.out.trans q))]
        have HNe := Lib.hid e
        have hll := M.tbL_len (M.ent R) n v
        have HLL := Lib.hid hll
        clear e hyb hll
        generalize M.tbL (M.ent R) n v = l at *
        go_wp2
        clear hcy
        go_loopw [10, 11, 12, 33] (fun ms _ _ j wr => ∃ (k : Nat) (b : Option Addr) (c : Nat), k ≤ n ∧ j = .int .i64 k ∧ ms = .slice b k c ∧ Hid (OwnR wr wo.heap.size (.slice b k c) (M.slL (M.ent R) n v k)) ∧ Hid (Below wo.heap.size wo wr)) (fun _ _ _ j _ => n - (intOf j).toNat)
        case atStart => exact ⟨0, none, 0, Nat.zero_le _, rfl, rfl, ownR_nil _ _, Below.refl _ _⟩
        case round =>
          obtain ⟨k, b1, c1, hk, rfl, rfl, HO1, HB1⟩ := hrel
          obtain ⟨wi, rfl⟩ : ∃ x, x = wr := ⟨_, rfl⟩
          have hzo := HB1.out.size
          by_cases hkl : k < n
          · have hkk : (k : Int) < (n : Int) := by omega
            obtain ⟨d2, od2, rk, rkc, hdd, -, hck, hIk⟩ := (HTM.out.below (HB.out.trans (HB1.out.mono hzt))).rect_at HTR.out k (by omega)
            injection hdd with hdd
            injection hdd with e1 e2
            subst e1 e2
            obtain ⟨kb, ko, z, rfl, -, hz, hcz⟩ := hIk.at v hlt
            have hze : z = M.Fk (M.ent R) n k v := hz.trans (M.ent_mk _ _ _ _ _ (by omega) hlt)
            have hzb : z ≠ -1000000000000000 := by
              rw [hze]
              exact M.Fk_less HSm.out (m := n) (by omega) hlt (by omega) (fun q => HYB.out (HY.out.trans q))
            have hb1 : -10000000 ≤ z ∧ z ≤ 10000000 := by
              have := M.Fk_sm HSm.out k v hlt
              rw [← hze] at this
              rcases this with q | q
              · exact absurd q hzb
              · omega
            have hb2 : -10000000 ≤ y ∧ y ≤ 10000000 := by
              have := M.Fk_sm HSm.out n v hlt
              rw [← HY.out] at this
              rcases this with q | q
              · exact absurd q HYB.out
              · omega
            obtain ⟨z1, z2⟩ := hb1
            obtain ⟨y1, y2⟩ := hb2
            have e : M.slL (M.ent R) n v (k + 1) = M.slL (M.ent R) n v k ++ [M.meanR (y - z) ((n : Int) - k)] := by rw [M.slL_next, ← HY.out, ← hze]
            have HNk := Lib.hid e
            have HLk := Lib.hid (M.slL_len (M.ent R) n v k)
            clear e hz hze hzb hIk
            have ew : IntKind.i64.wrap (y - z) = y - z := IntWalk.i64_in _ (by omega)
            have ew2 : IntKind.i64.wrap ((n : Int) - k) = (n : Int) - k := IntWalk.i64_in _ (by omega)
            go_wp2_with fail
            refine (reduced _ _ _ (by omega) (by omega) (by omega) (by omega) (by omega)).mono ?_
            rintro e w2 ⟨rfl, hb2⟩
            have HB2 := Lib.hid hb2
            have hz2 := hb2.size
            clear hb2
            go_wp2_with (at_builtin; refine appendR2 (w2.alloc (.cells #[.int .i64 (M.ratN (y - z) ((n : Int) - k)), .int .i64 (M.ratD (y - z) ((n : Int) - k))] 27)) rfl (.tmp 38) (.tmp 49) rfl wo.heap.size _ (M.slL (M.ent R) n v k) (M.meanR (y - z) ((n : Int) - k)) k w2.heap.size HLk.out rfl ((HO1.out.below HB2.out).below (b_alloc _ _)) rfl (by simp [go_sem, M.meanR]) (by simp [go_sem, M.meanR]) (by have := HLk.out; omega) (by simp; omega) ?_)
            intro b4 c4 w4 hO4 hb4 hk4 hv4
            have HO4 := Lib.hid hO4
            have HB4 : Hid (Below wo.heap.size wo w4) := ((HB1.out.trans (HB2.out.mono hzo)).alloc (by omega) _).trans hb4
            rw [← HNk.out] at HO4
            clear hO4 hb4 hk4 hv4
            go_wp2
            go_roundw
            case rel => exact ⟨k + 1, b4, c4, by omega, by go_num, rfl, HO4, HB4⟩
            case measure => simp [intOf]; omega
          · obtain rfl : k = n := by omega
            have HLk := Lib.hid (M.slL_len (M.ent R) k v k)
            have HBD : Hid (∀ i, i < k → M.Rb ((M.slL (M.ent R) k v k).getD i (0, 0))) := fun i hi => by
              have hi2 : i < (M.slL (M.ent R) k v k).length := by rw [M.slL_len]; exact hi
              rw [List.getD_eq_getElem?_getD, List.getElem?_eq_getElem hi2]
              obtain ⟨q1, q2, q3, q4, -⟩ := M.slL_bd n2 HSm.out hlt (fun q => HYB.out (HY.out.trans q)) (Nat.le_refl _) (List.getElem_mem hi2)
              exact ⟨by simp only [Option.getD_some]; omega, by simp only [Option.getD_some]; omega, q3, by simp only [Option.getD_some]; omega⟩
            generalize M.slL (M.ent R) k v k = s at *
            go_wp2_with fail
            refine (minFunc _ _ _ _ s _ HO1.out n1 (by omega) HBD.out).mono ?_
            rintro e w2 ⟨rfl, hb2⟩
            have HB2 := Lib.hid hb2
            have hz2 := hb2.size
            clear hb2
            obtain ⟨p, hp⟩ : ∃ p, p = M.minR s := ⟨_, rfl⟩
            rw [← hp] at HNe ⊢
            clear hp
            go_wp2_with (at_builtin; refine appendR2 (w2.alloc (.cells #[.int .i64 p.1, .int .i64 p.2] 27)) rfl (.tmp 52) (.tmp 55) rfl wt.heap.size _ l p _ w2.heap.size rfl rfl (((HO.out.below HB1.out).below HB2.out).below (b_alloc _ _)) rfl (by simp [go_sem]) (by simp [go_sem]) (by have := HLL.out; omega) (by simp; omega) ?_)
            intro b4 c4 w4 hO4 hb4 hk4 hv4
            have HO4 := Lib.hid hO4
            have HB4 : Hid (Below wt.heap.size wt w4) := (((HB.out.trans (HB1.out.mono hzt)).trans (HB2.out.mono (by omega))).alloc (by omega) _).trans hb4
            clear hO4 hb4 hk4 hv4
            go_wp2
            go_roundw
            case rel =>
              refine ⟨v + 1, b4, c4, by omega, by go_num, ?_⟩
              rw [HNe.out, List.length_append]
              exact ⟨rfl, HO4, HB4⟩
            case measure => simp [intOf]; omega
    · obtain rfl : v = n := by omega
      have h1 := M.tbL_some HC.out
      have h2 : (M.tbL (M.ent R) v v).length ≤ 1000 := by
        have q1 := M.tbL_len (M.ent R) v v
        omega
      have H1 := Lib.hid h1
      have H2 := Lib.hid h2
      have HBD : Hid (∀ i, i < (M.tbL (M.ent R) v v).length → M.Rb ((M.tbL (M.ent R) v v).getD i (0, 0))) := fun i hi => by
        rw [List.getD_eq_getElem?_getD, List.getElem?_eq_getElem hi]
        obtain ⟨q1, q2, q3, q4, -⟩ := M.tbL_bd n2 HSm.out (Nat.le_refl _) (List.getElem_mem hi)
        exact ⟨by simp only [Option.getD_some]; omega, by simp only [Option.getD_some]; omega, q3, by simp only [Option.getD_some]; omega⟩
      have HBR : Hid (M.tabR (M.ent R) v = M.maxR (M.tbL (M.ent R) v v)) := rfl
      obtain ⟨p, hp⟩ : ∃ p, p = M.tabR (M.ent R) v := ⟨_, rfl⟩
      have HPp := Lib.hid hp
      clear h1 h2 hp
      generalize M.tbL (M.ent R) v v = l at *
      go_wp2_with fail
      refine (maxFunc _ _ _ _ l _ HO.out H1.out H2.out HBD.out).mono ?_
      rintro e w3 ⟨rfl, hb3⟩
      rw [← HBR.out, ← HPp.out]
      have HM3 := Lib.hid (HM.out.keep ((HB.out.trans (hb3.mono hzt)).mono HM.out.2.2.1))
      obtain ⟨-, hb, hz, a1, a2, a3, a4⟩ := HM3.out
      have HBB := Lib.hid hb
      clear hb3 hb
      go_wp2
      exact bodyPost_ret (v := .agg #[.int .i64 p.1, .int .i64 p.2]) (by simp [results, Try.results161, go_sem, hz, a1, a2, a3, a4]) rfl ⟨by rw [HPp.out], (HBB.out.setCell (by show w.heap.size ≤ w.heap.size + 1; omega) _).setCell (by show w.heap.size ≤ w.heap.size + 1; omega) _⟩
theorem tableMean (a : Option Addr) (n cap : Nat) (R : List (List Int)) (w : World) (h : Mat w a n R) :
    Calls Try.prog 17 #[.slice a n cap] w fun e w' => e = .returned (.tuple #[.agg #[.int .i64 (M.tabRes R).1.1, .int .i64 (M.tabRes R).1.2], .int .i64 (M.tabRes R).2]) ∧ Below w.heap.size w w' :=
  tableMean_of a n cap R w h fun hs hc W hW => tableWay a n cap R W (sq_of hW hs) (sm_of hW hs) hc
end Go.Proofs.Ytnnajlehhfmjfaa.V

namespace Go.Proofs.Ytnnajlehhfmjfaa.V
open Go.RowKit

theorem keepg {w0 w w' : World} {B : Nat} {p q : Addr} {x y : Value} (h : w.cell? p = some x ∧ w.cell? q = some y ∧ Below B w0 w) (hp : p.block < B) (hq : q.block < B) (hb : Below B w w') : w'.cell? p = some x ∧ w'.cell? q = some y ∧ Below B w0 w' :=
  ⟨(hb.cell hp).trans h.1, (hb.cell hq).trans h.2.1, h.2.2.trans hb⟩
theorem belowg {w0 w : World} {B : Nat} {P Q : Prop} (h : P ∧ Q ∧ Below B w0 w) : Below B w0 w := h.2.2
set_option maxRecDepth 100000 in
set_option maxHeartbeats 4000000 in
theorem sGrow (a : Option Addr) (n cap : Nat) (R : List (List Int)) (over : Int) (f : Nat) : ∀ (b : Option Addr) (N c : Nat) (p : List Int) (wt : Int) (B : Nat) (w : World), Sq w a n R → Own w B (.slice b N c) p → M.nodesB n p = true → M.diffB p = true → 1 ≤ N → n + 1 ≤ f + N → -1000001000000 * (N : Int) ≤ wt → wt ≤ 1000001000000 * (N : Int) → B ≤ w.heap.size →
    Calls Try.prog 122 #[.slice a n cap, .slice b N c, .int .i64 wt, .int .i64 over] w fun e w' => ∃ b' n' c', e = .returned (.slice b' n' c') ∧ Own w' B (.slice b' n' c') (M.grow (M.ent R) n over f p wt) ∧ Below w.heap.size w w' := by
  induction f with
  | zero =>
    intro b N c p wt B w hS hO hn hd h1 hf hw1 hw2 hB
    have := M.diffB_len hn hd
    have := hO.len
    omega
  | succ f IH =>
    intro b N c p wt B w hS hO hn hd h1 hf hw1 hw2 hB
    obtain ⟨N, rfl⟩ : ∃ m, N = m + 1 := ⟨N - 1, by omega⟩
    have HIH := Lib.hid IH
    have hpl : p.length = N + 1 := hO.len.symm
    have hle := M.diffB_len hn hd
    have hn10 := hS.2.2.2.2
    have h0 := M.nodesB_at hn (k := 0) (by omega)
    have hN := M.nodesB_at hn (k := N) (by omega)
    obtain ⟨pb, po, x0, rfl, -, hx0, c0⟩ := hO.ints'.at 0 (by omega)
    obtain ⟨pb2, po2, x1, hpe, -, hx1, c1⟩ := hO.ints'.at N (by omega)
    injection hpe with hpe
    injection hpe with e1 e2 e3
    subst e1 e2
    rw [← hx0] at h0
    rw [← hx1] at hN
    obtain ⟨i, rfl⟩ := Int.eq_ofNat_of_zero_le h0.1
    obtain ⟨j, rfl⟩ := Int.eq_ofNat_of_zero_le hN.1
    have hi : i < n := by omega
    have hj : j < n := by omega
    have hvi : M.vx p 0 = i := by unfold M.vx; rw [← hx0]; simp
    have hvj : M.lastV p = j := by unfold M.lastV M.vx; rw [hpl, Nat.add_sub_cancel, ← hx1]; simp
    obtain ⟨ab, ao, ra, rc, L, lr, rfl, -, hlr, cr, hIr⟩ := hS.1.at i hi
    have hL : L = n := by rw [← hIr.1, hlr]; exact hS.2.1.2 i hi
    subst hL
    obtain ⟨rb, ro, z, rfl, -, hz, cz⟩ := hIr.at j hj
    have hze : z = M.ent R i j := by rw [hz, hlr]; rfl
    have hzs := hS.2.2.1 i j hi hj
    rw [← hze] at hzs
    unfold M.Sm at hzs
    have HS := Lib.hid hS
    have HO := Lib.hid hO
    have HNd := Lib.hid hn
    have HDf := Lib.hid hd
    have HPl := Lib.hid hpl
    have HVi := Lib.hid hvi
    have HVj := Lib.hid hvj
    have ht1 : ((N : Int) + 1 - 1) = (N : Int) := by omega
    have hNb : N ≤ 10 := by omega
    simp only [Nat.add_zero] at c0
    have HC : Hid (M.clB (M.ent R) over p wt = (decide (z ≠ -1000000000000000) && decide (over < wt + z))) := by show _ = _; unfold M.clB; rw [hvi, hvj, ← hze]
    clear hlr hIr hz hze hx0 hx1 h0 hN hvi hvj hn hd IH e3 hpl hS hO
    have HCR := Lib.hid cr
    have HCZ := Lib.hid cz
    clear cr cz
    go_enter Try.func122, Try.ntmps122
    go_wp2
    go_quiet (fail)
    generalize hwq : World.drewN w _ = wq
    have hbq : Below w.heap.size w wq := by rw [← hwq]; exact b_draws w _
    have cr := (hbq.cell (cell_lt HCR.out)).trans HCR.out
    have cz := (hbq.cell (cell_lt HCZ.out)).trans HCZ.out
    have HBq := Lib.hid hbq
    clear hwq c0 c1 hbq
    by_cases hc : M.clB (M.ent R) over p wt = true
    · have hcc := hc
      rw [HC.out, Bool.and_eq_true, decide_eq_true_eq, decide_eq_true_eq] at hcc
      obtain ⟨g1, g2⟩ := hcc
      have g3 : (z != -1000000000000000) = true := by simpa using g1
      have HG := Lib.hid (M.grow_yes (A := M.ent R) (n := L) (f := f) hc)
      clear hc g1
      go_wp2
      go_ret
      exact ⟨_, _, _, rfl, by rw [HG.out]; exact HO.out.below HBq.out, HBq.out⟩
    · simp only [Bool.not_eq_true] at hc
      have HG := Lib.hid (M.grow_no (A := M.ent R) (n := L) (f := f) hc)
      have hi1 : IntKind.i64.wrap ((i : Int) + 1) = (i : Int) + 1 := IntWalk.i64_in _ (by omega)
      obtain ⟨g, hg⟩ : ∃ g, g = M.stepG (M.ent R) L over f p wt := ⟨_, rfl⟩
      have HGg := Lib.hid hg
      rw [← hg, HVi.out] at HG
      have hgd : z ≠ -1000000000000000 → decide (over < wt + z) = false := fun hz => by
        rw [HC.out] at hc
        simpa [hz] using hc
      clear hc hg
      by_cases hzb : z = -1000000000000000
      · subst hzb
        clear hgd
        go_wp2
        go_loopw [11, 12] (fun v _ wr => ∃ k : Nat, i + 1 ≤ k ∧ k ≤ L ∧ v = .int .i64 k ∧ Hid (M.pick g (L - (i + 1)) (i + 1) = M.pick g (L - k) k) ∧ Below w.heap.size w wr) (fun v _ _ => L - (intOf v).toNat)
        case atStart => exact ⟨i + 1, by omega, by omega, by go_num, rfl, HBq.out⟩
        case round =>
          obtain ⟨k, hk1, hk2, rfl, HK, hb⟩ := hrel
          have HB1 := Lib.hid hb
          have hz1 : w.heap.size ≤ wr.heap.size := hb.size
          clear hb
          by_cases hk : k < L
          · have hki : (k : Int) < (L : Int) := by omega
            obtain ⟨ab', ao', ra', rc', L', lr, e', -, hlr, ck, hIr⟩ := (HS.out.below HB1.out).1.at k hk
            injection e' with e'
            injection e' with e1 e2 e3
            subst e1 e2
            have hL' : L' = L := by rw [← hIr.1, hlr]; exact HS.out.2.1.2 k hk
            subst hL'
            obtain ⟨rb', ro', y, rfl, -, hy, cy⟩ := hIr.at j hj
            have hye : y = M.ent R k j := by rw [hy, hlr]; rfl
            have hys := HS.out.2.2.1 k j hk hj
            rw [← hye] at hys
            unfold M.Sm at hys
            have HYe := Lib.hid hye
            clear hlr hIr hy hye e3
            by_cases hyb : y = -1000000000000000
            · have hg0 : (g k).length = 0 := by rw [HGg.out]; exact M.step_bot (by rw [HVj.out, ← HYe.out]; exact hyb)
              have HKn : Hid (M.pick g (L' - (i + 1)) (i + 1) = M.pick g (L' - (k + 1)) (k + 1)) := HK.out.trans (M.pick_no hk hg0)
              subst hyb
              clear hg0
              go_wp2
              go_roundw
              case rel => exact ⟨k + 1, by omega, by omega, by go_num, HKn, HB1.out⟩
              case measure => simp [intOf]; omega
            · have gy : (y == -1000000000000000) = false := by simpa using hyb
              have HIr := Lib.hid (HO.out.below HB1.out).ints'
              obtain ⟨hb0, hhb⟩ : ∃ hb0, hb0 = M.hasB p (k : Int) := ⟨_, rfl⟩
              have HHb := Lib.hid hhb
              clear hhb
              cases hb0 with
              | true =>
                have hg0 : (g k).length = 0 := by rw [HGg.out]; exact M.step_has HHb.out.symm
                have HKn : Hid (M.pick g (L' - (i + 1)) (i + 1) = M.pick g (L' - (k + 1)) (k + 1)) := HK.out.trans (M.pick_no hk hg0)
                clear hg0
                go_wp2_with (go_at_call 124; refine (sHas _ _ _ p _ _ (by exact HIr.out)).mono ?_; rintro e w' ⟨rfl, rfl⟩; rw [← HHb.out])
                go_roundw
                case rel => exact ⟨k + 1, by omega, by omega, by go_num, HKn, HB1.out⟩
                case measure => simp [intOf]; omega
              | false =>
                obtain ⟨t, ht⟩ : ∃ t, t = M.grow (M.ent R) L' over f (p ++ [(k : Int)]) (wt + y) := ⟨_, rfl⟩
                have HTt := Lib.hid ht
                have HGk : Hid (g k = t) := by show _ = _; rw [HGg.out, M.step_go (by rw [HVj.out, ← HYe.out]; exact hyb) HHb.out.symm, HVj.out, ← HYe.out]; exact ht.symm
                have HN2 := Lib.hid (M.nodesB_snoc HNd.out hk)
                have HD2 := Lib.hid (M.diffB_snoc HDf.out HHb.out.symm)
                have HIq : Hid (Ints .i64 wr.drew (some ⟨pb, po, none⟩) (N + 1) p) := HIr.out.below (Below.refl _ _).drew
                have hwy : IntKind.i64.wrap (wt + y) = wt + y := IntWalk.i64_in _ (by omega)
                have hA := cell_lt ck
                have hBb := cell_lt cy
                clear ht
                go_wp2_with (go_at_call 124; refine (sHas _ _ _ p _ _ (by exact HIr.out)).mono ?_; rintro e w' ⟨rfl, rfl⟩; rw [← HHb.out])
                go_region_held3 (fun w' => w'.cell? ⟨ab, ao + k, none⟩ = some (.slice (some ⟨rb', ro', none⟩) L' rc') ∧ w'.cell? ⟨rb', ro' + j, none⟩ = some (.int .i64 y) ∧ Below wr.heap.size wr w')
                  (first
                    | exact ⟨ck, cy, (Below.refl _ _).drew⟩
                    | exact keepg ‹_ ∧ _ ∧ Below _ _ _› hA hBb HBa.out
                    | exact keepg ‹_ ∧ _ ∧ Below _ _ _› hA hBb (HBo.out.mono (belowg ‹_ ∧ _ ∧ Below _ _ _›).size)
                    | exact keepg ‹_ ∧ _ ∧ Below _ _ _› hA hBb (HBc.out.mono (belowg ‹_ ∧ _ ∧ Below _ _ _›).size)
                    | exact keepg ‹_ ∧ _ ∧ Below _ _ _› hA hBb ((b_alloc _ _).mono (belowg ‹_ ∧ _ ∧ Below _ _ _›).size))
                  (first
                    | (go_at_call 126; refine (sOwn _ _ _ p _ ?hh ?h1 ?h2).mono ?_; (case hh => (first | exact HIq.out | exact HIq.out.below (b_alloc _ _))); (case h1 => omega); (case h2 => omega); rintro e w1 ⟨b1, c1, rfl, ho, hb⟩; have HO1 := Lib.hid ho; have HBo := Lib.hid hb; clear ho hb)
                    | (go_at_call 122; refine (HIH.out _ (N + 1 + 1) _ _ (wt + y) wr.heap.size _ ?hs HO2.out HN2.out HD2.out (by omega) (by omega) (by omega) (by omega) ?hz).mono ?_; (case hs => exact HS.out.below (HB1.out.trans ((belowg ‹_ ∧ _ ∧ Below _ _ _›).mono hz1))); (case hz => exact (belowg ‹_ ∧ _ ∧ Below _ _ _›).size); rintro e w3 ⟨b3, n3, c3, rfl, ho, hb⟩; have HO3 := Lib.hid ho; have HBc := Lib.hid hb; clear ho hb)
                    | (refine step_append1 _ rfl _ _ rfl wr.heap.size _ p (k : Int) _ (N + 1) HPl.out rfl ?ho rfl ?hy ?hl ?hb ?_; (case ho => (first | exact HO1.out.mono (Nat.le_refl _) | exact HO1.out.mono (by simp) | exact (HO1.out.below (b_alloc _ _)).mono (Nat.le_refl _))); (case hy => (first | (simp; done) | exact new_kept (wd := wr.drew) HBo.out)); (case hl => omega); (case hb => exact (belowg ‹_ ∧ _ ∧ Below _ _ _›).size); intro b2 c2 w2 ho hb; have HO2 := Lib.hid ho; have HBa := Lib.hid hb; clear ho hb))
                all_goals
                  have hbz : Below wr.heap.size wr w3 := by
                    first
                      | exact belowg ‹_ ∧ _ ∧ Below _ _ _›
                      | exact (belowg ‹_ ∧ _ ∧ Below wr.heap.size wr w2›).trans (HBc.out.mono (belowg ‹_ ∧ _ ∧ Below wr.heap.size wr w2›).size)
                  have HBz := Lib.hid (HB1.out.trans (hbz.mono hz1))
                  rw [← HTt.out] at HO3
                  have hlt := HO3.out.len
                  clear hbz
                  by_cases hn3 : n3 = 0
                  · subst hn3
                    have HKn : Hid (M.pick g (L' - (i + 1)) (i + 1) = M.pick g (L' - (k + 1)) (k + 1)) := HK.out.trans (M.pick_no hk (by rw [HGk.out]; exact hlt.symm))
                    clear hlt
                    go_wp2
                    go_roundw
                    case rel => exact ⟨k + 1, by omega, by omega, by go_num, HKn, HBz.out⟩
                    case measure => simp [intOf]; omega
                  · have HE : Hid (M.grow (M.ent R) L' over (f + 1) p wt = t) := HG.out.trans (HK.out.trans ((M.pick_yes hk (by rw [HGk.out]; omega)).trans HGk.out))
                    have hn3p : 0 < n3 := by omega
                    clear hlt
                    go_wp2
                    go_ret
                    exact ⟨_, _, _, rfl, by rw [HE.out]; exact HO3.out.mono (Nat.le_trans hB hz1), HBz.out⟩
          · obtain rfl : k = L := by omega
            have HE : Hid (M.grow (M.ent R) k over (f + 1) p wt = []) := HG.out.trans (HK.out.trans M.pick_end)
            go_wp2
            go_ret
            exact ⟨_, _, _, rfl, by rw [HE.out]; exact own_nil _ _, HB1.out⟩
      · have g3 : (z != -1000000000000000) = true := by simpa using hzb
        have g4 := hgd hzb
        clear hgd hzb
        go_wp2
        go_loopw [11, 12] (fun v _ wr => ∃ k : Nat, i + 1 ≤ k ∧ k ≤ L ∧ v = .int .i64 k ∧ Hid (M.pick g (L - (i + 1)) (i + 1) = M.pick g (L - k) k) ∧ Below w.heap.size w wr) (fun v _ _ => L - (intOf v).toNat)
        case atStart => exact ⟨i + 1, by omega, by omega, by go_num, rfl, HBq.out⟩
        case round =>
          obtain ⟨k, hk1, hk2, rfl, HK, hb⟩ := hrel
          have HB1 := Lib.hid hb
          have hz1 : w.heap.size ≤ wr.heap.size := hb.size
          clear hb
          by_cases hk : k < L
          · have hki : (k : Int) < (L : Int) := by omega
            obtain ⟨ab', ao', ra', rc', L', lr, e', -, hlr, ck, hIr⟩ := (HS.out.below HB1.out).1.at k hk
            injection e' with e'
            injection e' with e1 e2 e3
            subst e1 e2
            have hL' : L' = L := by rw [← hIr.1, hlr]; exact HS.out.2.1.2 k hk
            subst hL'
            obtain ⟨rb', ro', y, rfl, -, hy, cy⟩ := hIr.at j hj
            have hye : y = M.ent R k j := by rw [hy, hlr]; rfl
            have hys := HS.out.2.2.1 k j hk hj
            rw [← hye] at hys
            unfold M.Sm at hys
            have HYe := Lib.hid hye
            clear hlr hIr hy hye e3
            by_cases hyb : y = -1000000000000000
            · have hg0 : (g k).length = 0 := by rw [HGg.out]; exact M.step_bot (by rw [HVj.out, ← HYe.out]; exact hyb)
              have HKn : Hid (M.pick g (L' - (i + 1)) (i + 1) = M.pick g (L' - (k + 1)) (k + 1)) := HK.out.trans (M.pick_no hk hg0)
              subst hyb
              clear hg0
              go_wp2
              go_roundw
              case rel => exact ⟨k + 1, by omega, by omega, by go_num, HKn, HB1.out⟩
              case measure => simp [intOf]; omega
            · have gy : (y == -1000000000000000) = false := by simpa using hyb
              have HIr := Lib.hid (HO.out.below HB1.out).ints'
              obtain ⟨hb0, hhb⟩ : ∃ hb0, hb0 = M.hasB p (k : Int) := ⟨_, rfl⟩
              have HHb := Lib.hid hhb
              clear hhb
              cases hb0 with
              | true =>
                have hg0 : (g k).length = 0 := by rw [HGg.out]; exact M.step_has HHb.out.symm
                have HKn : Hid (M.pick g (L' - (i + 1)) (i + 1) = M.pick g (L' - (k + 1)) (k + 1)) := HK.out.trans (M.pick_no hk hg0)
                clear hg0
                go_wp2_with (go_at_call 124; refine (sHas _ _ _ p _ _ (by exact HIr.out)).mono ?_; rintro e w' ⟨rfl, rfl⟩; rw [← HHb.out])
                go_roundw
                case rel => exact ⟨k + 1, by omega, by omega, by go_num, HKn, HB1.out⟩
                case measure => simp [intOf]; omega
              | false =>
                obtain ⟨t, ht⟩ : ∃ t, t = M.grow (M.ent R) L' over f (p ++ [(k : Int)]) (wt + y) := ⟨_, rfl⟩
                have HTt := Lib.hid ht
                have HGk : Hid (g k = t) := by show _ = _; rw [HGg.out, M.step_go (by rw [HVj.out, ← HYe.out]; exact hyb) HHb.out.symm, HVj.out, ← HYe.out]; exact ht.symm
                have HN2 := Lib.hid (M.nodesB_snoc HNd.out hk)
                have HD2 := Lib.hid (M.diffB_snoc HDf.out HHb.out.symm)
                have HIq : Hid (Ints .i64 wr.drew (some ⟨pb, po, none⟩) (N + 1) p) := HIr.out.below (Below.refl _ _).drew
                have hwy : IntKind.i64.wrap (wt + y) = wt + y := IntWalk.i64_in _ (by omega)
                have hA := cell_lt ck
                have hBb := cell_lt cy
                clear ht
                go_wp2_with (go_at_call 124; refine (sHas _ _ _ p _ _ (by exact HIr.out)).mono ?_; rintro e w' ⟨rfl, rfl⟩; rw [← HHb.out])
                go_region_held3 (fun w' => w'.cell? ⟨ab, ao + k, none⟩ = some (.slice (some ⟨rb', ro', none⟩) L' rc') ∧ w'.cell? ⟨rb', ro' + j, none⟩ = some (.int .i64 y) ∧ Below wr.heap.size wr w')
                  (first
                    | exact ⟨ck, cy, (Below.refl _ _).drew⟩
                    | exact keepg ‹_ ∧ _ ∧ Below _ _ _› hA hBb HBa.out
                    | exact keepg ‹_ ∧ _ ∧ Below _ _ _› hA hBb (HBo.out.mono (belowg ‹_ ∧ _ ∧ Below _ _ _›).size)
                    | exact keepg ‹_ ∧ _ ∧ Below _ _ _› hA hBb (HBc.out.mono (belowg ‹_ ∧ _ ∧ Below _ _ _›).size)
                    | exact keepg ‹_ ∧ _ ∧ Below _ _ _› hA hBb ((b_alloc _ _).mono (belowg ‹_ ∧ _ ∧ Below _ _ _›).size))
                  (first
                    | (go_at_call 126; refine (sOwn _ _ _ p _ ?hh ?h1 ?h2).mono ?_; (case hh => (first | exact HIq.out | exact HIq.out.below (b_alloc _ _))); (case h1 => omega); (case h2 => omega); rintro e w1 ⟨b1, c1, rfl, ho, hb⟩; have HO1 := Lib.hid ho; have HBo := Lib.hid hb; clear ho hb)
                    | (go_at_call 122; refine (HIH.out _ (N + 1 + 1) _ _ (wt + y) wr.heap.size _ ?hs HO2.out HN2.out HD2.out (by omega) (by omega) (by omega) (by omega) ?hz).mono ?_; (case hs => exact HS.out.below (HB1.out.trans ((belowg ‹_ ∧ _ ∧ Below _ _ _›).mono hz1))); (case hz => exact (belowg ‹_ ∧ _ ∧ Below _ _ _›).size); rintro e w3 ⟨b3, n3, c3, rfl, ho, hb⟩; have HO3 := Lib.hid ho; have HBc := Lib.hid hb; clear ho hb)
                    | (refine step_append1 _ rfl _ _ rfl wr.heap.size _ p (k : Int) _ (N + 1) HPl.out rfl ?ho rfl ?hy ?hl ?hb ?_; (case ho => (first | exact HO1.out.mono (Nat.le_refl _) | exact HO1.out.mono (by simp) | exact (HO1.out.below (b_alloc _ _)).mono (Nat.le_refl _))); (case hy => (first | (simp; done) | exact new_kept (wd := wr.drew) HBo.out)); (case hl => omega); (case hb => exact (belowg ‹_ ∧ _ ∧ Below _ _ _›).size); intro b2 c2 w2 ho hb; have HO2 := Lib.hid ho; have HBa := Lib.hid hb; clear ho hb))
                all_goals
                  have hbz : Below wr.heap.size wr w3 := by
                    first
                      | exact belowg ‹_ ∧ _ ∧ Below _ _ _›
                      | exact (belowg ‹_ ∧ _ ∧ Below wr.heap.size wr w2›).trans (HBc.out.mono (belowg ‹_ ∧ _ ∧ Below wr.heap.size wr w2›).size)
                  have HBz := Lib.hid (HB1.out.trans (hbz.mono hz1))
                  rw [← HTt.out] at HO3
                  have hlt := HO3.out.len
                  clear hbz
                  by_cases hn3 : n3 = 0
                  · subst hn3
                    have HKn : Hid (M.pick g (L' - (i + 1)) (i + 1) = M.pick g (L' - (k + 1)) (k + 1)) := HK.out.trans (M.pick_no hk (by rw [HGk.out]; exact hlt.symm))
                    clear hlt
                    go_wp2
                    go_roundw
                    case rel => exact ⟨k + 1, by omega, by omega, by go_num, HKn, HBz.out⟩
                    case measure => simp [intOf]; omega
                  · have HE : Hid (M.grow (M.ent R) L' over (f + 1) p wt = t) := HG.out.trans (HK.out.trans ((M.pick_yes hk (by rw [HGk.out]; omega)).trans HGk.out))
                    have hn3p : 0 < n3 := by omega
                    clear hlt
                    go_wp2
                    go_ret
                    exact ⟨_, _, _, rfl, by rw [HE.out]; exact HO3.out.mono (Nat.le_trans hB hz1), HBz.out⟩
          · obtain rfl : k = L := by omega
            have HE : Hid (M.grow (M.ent R) k over (f + 1) p wt = []) := HG.out.trans (HK.out.trans M.pick_end)
            go_wp2
            go_ret
            exact ⟨_, _, _, rfl, by rw [HE.out]; exact own_nil _ _, HB1.out⟩
end Go.Proofs.Ytnnajlehhfmjfaa.V

namespace Go.Proofs.Ytnnajlehhfmjfaa
namespace V
open Go.RowKit
theorem rlit (w : World) (B : Nat) (x : Int) (h : B ≤ w.heap.size) : Own (w.alloc (.cells #[.int .i64 x] 2)) B (.slice (some ⟨w.heap.size, 0, none⟩) 1 1) [x] := World.ownsRow_lit w #[.int .i64 x] 1 h (by decide) rfl
set_option maxRecDepth 100000 in
set_option maxHeartbeats 1000000 in
theorem sOver (a : Option Addr) (n cap : Nat) (R : List (List Int)) (over : Int) (w : World) (h : Sq w a n R) :
    Calls Try.prog 83 #[.slice a n cap, .int .i64 over] w fun e w' => ∃ b' n' c', e = .returned (.slice b' n' c') ∧ Own w' w.heap.size (.slice b' n' c') (M.overL (M.ent R) n over) ∧ Below w.heap.size w w' := by
  have HS := Lib.hid h
  have hn10 := h.2.2.2.2
  obtain ⟨g, hg⟩ : ∃ g : Nat → List Int, g = fun v : Nat => M.grow (M.ent R) n over n [(v : Int)] 0 := ⟨_, rfl⟩
  have HG : Hid (M.overL (M.ent R) n over = M.pick g n 0) := by show _ = _; rw [hg]; rfl
  have HGg : Hid (∀ v : Nat, g v = M.grow (M.ent R) n over n [(v : Int)] 0) := fun v => by rw [hg]
  clear h hg
  go_enter Try.func83, Try.ntmps83
  go_wp2
  go_loopw [5, 6] (fun v _ wr => ∃ k : Nat, k ≤ n ∧ v = .int .i64 k ∧ Hid (M.pick g n 0 = M.pick g (n - k) k) ∧ Below w.heap.size w wr) (fun v _ _ => n - (intOf v).toNat)
  case atStart => exact ⟨0, Nat.zero_le _, rfl, rfl, Below.refl _ _⟩
  case round =>
    obtain ⟨k, hk2, rfl, HK, hb⟩ := hrel
    have HB1 := Lib.hid hb
    have hz1 : w.heap.size ≤ wr.heap.size := hb.size
    clear hb
    by_cases hk : k < n
    · have hki : (k : Int) < (n : Int) := by omega
      obtain ⟨t, ht⟩ : ∃ t, t = M.grow (M.ent R) n over n [(k : Int)] 0 := ⟨_, rfl⟩
      have HTt := Lib.hid ht
      have HGk : Hid (g k = t) := (HGg.out k).trans ht.symm
      have HN2 : Hid (M.nodesB n [(k : Int)] = true) := by show _ = _; unfold M.nodesB; simp [M.inN]; omega
      have HD2 : Hid (M.diffB [(k : Int)] = true) := M.diffB_of (fun i hi => by
        simp at hi; subst hi; rfl)
      have HLit := Lib.hid (rlit wr w.heap.size (k : Int) hz1)
      have HSl := Lib.hid (HS.out.below (HB1.out.alloc hz1 (.cells #[.int .i64 (k : Int)] 2)))
      clear ht
      go_wp2_with fail
      refine (sGrow _ _ _ R over n _ 1 _ [(k : Int)] 0 w.heap.size _ HSl.out HLit.out HN2.out HD2.out (by omega) (by omega) (by omega) (by omega) (by simp; omega)).mono ?_
      rintro e w3 ⟨b3, n3, c3, rfl, ho, hb⟩
      rw [← HTt.out] at ho
      have hlt := ho.len
      have HO3 := Lib.hid ho
      have HBz := Lib.hid ((HB1.out.alloc hz1 (.cells #[.int .i64 (k : Int)] 2)).trans (hb.mono (by simp; omega)))
      clear ho hb
      by_cases hn3 : n3 = 0
      · subst hn3
        have HKn : Hid (M.pick g n 0 = M.pick g (n - (k + 1)) (k + 1)) := HK.out.trans (M.pick_no hk (by rw [HGk.out]; exact hlt.symm))
        clear hlt
        go_wp2
        go_roundw
        case rel => exact ⟨k + 1, by omega, by go_num, HKn, HBz.out⟩
        case measure => simp [intOf]; omega
      · have HE : Hid (M.overL (M.ent R) n over = t) := HG.out.trans (HK.out.trans ((M.pick_yes hk (by rw [HGk.out]; omega)).trans HGk.out))
        have hn3p : 0 < n3 := by omega
        clear hlt
        go_wp2
        go_ret
        exact ⟨_, _, _, rfl, by rw [HE.out]; exact HO3.out, HBz.out⟩
    · obtain rfl : k = n := by omega
      have HE : Hid (M.overL (M.ent R) k over = []) := HG.out.trans (HK.out.trans M.pick_end)
      go_wp2
      go_ret
      exact ⟨_, _, _, rfl, by rw [HE.out]; exact own_nil _ _, HB1.out⟩
end V
end Go.Proofs.Ytnnajlehhfmjfaa
