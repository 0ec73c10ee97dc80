/- Texts laid together: Cms, Cmm, Ndp, Ndm. -/
import Derived.Test.YtmcihaihbnnblaaGreatQz8
import Derived.Test.YtmcihaihbnnblaaGreatQz13
import Derived.Test.YtmcihaihbnnblaaGreatQz14
import Derived.Test.YtmcihaihbnnblaaGreatQz5
import Derived.Test.YtmcihaihbnnblaaGreatQz7
import Derived.StillTailTactics
import Derived.Lib.SlicesCompact
import Derived.Test.YtmcihaihbnnblaaGreatQz9
set_option linter.unusedSimpArgs false
set_option linter.unusedVariables false
set_option linter.unusedSectionVars false
namespace Go.Proofs.YtmcihaihbnnblaaGreat
namespace M
def arcsQ (R : List (List Int)) (j i : Nat) : List (List Int) := arcsP R j ++ arcRow R j i
theorem arcsQ_zero (R : List (List Int)) (j : Nat) : arcsQ R j 0 = arcsP R j := by simp [arcsQ, arcRow]
theorem arcsQ_next (R : List (List Int)) (j i : Nat) : arcsQ R j (i + 1) = arcsQ R j i ++ (if crB R j i then [[(j : Int), (i : Int)]] else []) := by
  unfold arcsQ; rw [arcRow_next, List.append_assoc]
theorem arcsQ_end (R : List (List Int)) (j : Nat) : arcsQ R j R.length = arcsP R (j + 1) := by unfold arcsQ; rw [arcsP_next]
theorem arcsQ_len (R : List (List Int)) {j i : Nat} (hj : j ≤ R.length) (hi : i ≤ R.length) (hn : R.length ≤ 10) : (arcsQ R j i).length ≤ 200 := by
  have h1 := arcsP_len R j
  have h2 := arcRow_len R j i
  have h3 := Nat.mul_le_mul hj (Nat.le_refl R.length)
  have h4 := Nat.mul_le_mul hn hn
  unfold arcsQ
  rw [List.length_append]
  omega
end M
namespace V
set_option maxRecDepth 100000
open Go.RowKit
set_option maxRecDepth 100000 in
set_option maxHeartbeats 1000000 in
theorem sCode (a : Option Addr) (n cap : Nat) (R : List (List Int)) (w : World) (h : Mat w a n R) :
    Calls Tryz.prog 81 #[.slice a n cap] w fun e w' => e = .returned (.int .i64 (M.crCode R)) ∧ Below w.heap.size w w' := by
  have HA := Lib.hid h
  have HRn := Lib.hid h.1
  by_cases hs : M.sqB R = true
  · have HS := Lib.hid hs
    obtain ⟨c, hc⟩ : ∃ c, c = M.hasCyc (M.ent R) n := ⟨_, rfl⟩
    have HNo := Lib.hid hc.symm
    have HE : Hid (M.crCode R = if c then 0 else 4) := by show _ = _; unfold M.crCode; rw [if_pos hs, HRn.out, ← hc]
    clear h hs hc
    go_enter Tryz.func81, Tryz.ntmps81
    go_wp2_with fail
    refine (sSquare_b _ _ _ R _ true HS.out HA.out).mono ?_
    rintro e w' ⟨rfl, qd, rfl⟩
    go_wp2_with fail
    refine (sBest _ _ _ R _ (HA.out.below (b_draws _ _)) HS.out).mono ?_
    rintro e w1 ⟨b', n', c', rfl, ho, hb0⟩
    rw [HNo.out]
    have HB := Lib.hid ((b_draws w qd).trans hb0)
    clear ho hb0
    cases c with
    | false =>
      go_wp2
      go_ret
      exact ⟨by rw [HE.out]; rfl, HB.out⟩
    | true =>
      go_wp2
      go_ret
      exact ⟨by rw [HE.out]; rfl, HB.out⟩
  · simp only [Bool.not_eq_true] at hs
    have HS := Lib.hid hs
    have HE : Hid (M.crCode R = 1) := by show _ = _; unfold M.crCode; rw [if_neg (by rw [hs]; exact Bool.false_ne_true)]
    clear h hs
    go_enter Tryz.func81, Tryz.ntmps81
    go_wp2_with fail
    refine (sSquare_b _ _ _ R _ false HS.out HA.out).mono ?_
    rintro e w' ⟨rfl, qd, rfl⟩
    go_wp2
    go_ret
    exact ⟨by rw [HE.out]; rfl, b_draws _ _⟩
theorem ownLit2 (w : World) (x y : Int) : Own (w.alloc (.cells #[.int .i64 x, .int .i64 y] 2)) w.heap.size (.slice (some ⟨w.heap.size, 0, none⟩) 2 2) [x, y] := World.ownsRow_lit w #[.int .i64 x, .int .i64 y] 2 (Nat.le_refl _) (by decide) rfl
theorem appendRowLit (w0 : World) {ops : Array Oper} {rest : List Oper} {o : Oper} {a : Act} {Q : Exit → Act → World → Prop} (hgd : o.guard = none) (s x : Operand)
    (ho : o.op = .call { callee := .builtin .append, args := #[s, x], argTypes := #[24, 24] }) (B : Nat) (v : Value) (L : List (List Int)) (p q : Int) (n : Nat) (hn : L.length = n) (hs : a.eval s = v) (hown : OwnM w0 B v L)
    (hx : a.eval x = .slice (some ⟨w0.heap.size + 1, 0, none⟩) 1 1) (hlen : L.length ≤ 2000000) (hB : B ≤ w0.heap.size)
    (h : ∀ b' c' w', OwnM w' B (.slice b' (n + 1) c') (L ++ [[p, q]]) → Below B w0 w' → wpList Tryz.prog ops Q rest (a.put o.dst (.slice b' (n + 1) c')) w') :
    wpList Tryz.prog ops Q (o :: rest) a ((w0.alloc (.cells #[.int .i64 p, .int .i64 q] 2)).alloc (.cells #[.slice (some ⟨w0.heap.size, 0, none⟩) 2 2] 34)) :=
  appendRow w0 (w0.alloc (.cells #[.int .i64 p, .int .i64 q] 2)) hgd s x ho B v (.slice (some ⟨w0.heap.size, 0, none⟩) 2 2) L [p, q] n hn hs hown (b_alloc _ _) (ownLit2 _ _ _) (by rw [hx]; simp) hlen hB fun b' c' w' h1 h2 _ => h b' c' w' h1 (((b_alloc _ _).mono hB).trans h2)
set_option maxRecDepth 100000 in
set_option maxHeartbeats 4000000 in
theorem sArcs (a : Option Addr) (n cap : Nat) (R : List (List Int)) (w : World) (h : Mat w a n R) (hs : M.sqB R = true) (hc : M.hasCyc (M.ent R) R.length = true) :
    Calls Tryz.prog 96 #[.slice a n cap] w fun e w' => ∃ b c, e = .returned (.slice b (M.arcsL R).length c) ∧ OwnM w' w.heap.size (.slice b (M.arcsL R).length c) (M.arcsL R) ∧ Below w.heap.size w w' := by
  have HA := Lib.hid h
  have hRn : R.length = n := h.1
  have HRn := Lib.hid hRn
  have HS := Lib.hid hs
  obtain ⟨hr, n1, n2, hsm⟩ := sq_parts h hs
  have HR := Lib.hid hr
  have HSm := Lib.hid hsm
  obtain ⟨hnear, hshm, hp⟩ := M.cr_t hs hc
  have hbc := M.best_cyc hs hc
  have hC : M.mean2 R (M.best2 R) = (M.bestR (M.ent R) n, true) := by
    unfold M.best2
    rw [hc, if_pos rfl]
    unfold M.mean2
    rw [if_pos hbc.1, hbc.2.1, hRn]
  have HCb : Hid (∀ i j, M.crB R j i = decide (M.times (M.crS R i j) (M.starF (M.crS R) n j i) = 0)) := fun i j => by unfold M.crB; rw [hRn]
  have hS : M.crS R = M.shf (M.ent R) (M.bestR (M.ent R) n).1 (M.bestR (M.ent R) n).2 := by
    funext i j; unfold M.crS; rw [hRn]
  rw [hRn] at hc hnear hp hshm
  obtain ⟨r, hrr⟩ : ∃ r, r = M.bestR (M.ent R) n := ⟨_, rfl⟩
  rw [← hrr] at hnear hS hC
  have HC := Lib.hid hC
  have HSe := Lib.hid hS
  have HNear := Lib.hid hnear
  have HP := Lib.hid hp
  have HSh := Lib.hid hshm
  have HSb : Hid (∀ i j, i < n → j < n → M.Big (M.crS R i j)) := fun i j hi hj => M.big_sm (hshm i j hi hj) (by omega)
  have HTb : Hid (∀ i j, i < n → j < n → M.Big (M.starF (M.crS R) n i j)) := fun i j hi hj => M.big_sm (M.star_sm n2 hshm hp hi hj) (by omega)
  have HLa : Hid (∀ j i, j ≤ n → i ≤ n → (M.arcsQ R j i).length ≤ 200) := fun j i hj hi => M.arcsQ_len R (by rw [hRn]; exact hj) (by rw [hRn]; exact hi) (by rw [hRn]; exact n2)
  obtain ⟨r1, r2⟩ := r
  clear h hs hr hsm hc hnear hp hrr hS hRn hshm hC hbc
  go_enter Tryz.func96, Tryz.ntmps96
  go_wp2_with fail
  refine (sBest _ _ _ R _ HA.out HS.out).mono ?_
  rintro e w1 ⟨b1, m1, c1, rfl, ho, hb⟩
  have HO1 := Lib.hid ho
  have HB1 := Lib.hid hb
  have HCp := Lib.hid (own_caps ho)
  clear ho hb
  go_wp2_with fail
  refine (sMean _ _ _ R _ _ _ (M.best2 R) _ (HA.out.below HB1.out) HS.out HO1.out.ints' HCp.out.1 HCp.out.2).mono ?_
  rintro e w2 ⟨rfl, hb⟩
  rw [HC.out]
  have HB2 := Lib.hid (HB1.out.trans (hb.mono HB1.out.size))
  clear hb HO1 HCp
  obtain ⟨wb, hwb⟩ : ∃ x, x = w2.alloc (rbox r1 r2) := ⟨_, rfl⟩
  have HX : Hid (Boxed w2 wb r1 r2) := by show Boxed _ _ _ _; rw [hwb]; exact boxed _ _ _
  have HBx := Lib.hid (HB2.out.trans (HX.out.below.mono HB2.out.size))
  go_wp2_with fail
  change Calls _ _ _ (w2.alloc (rbox r1 r2)) _
  rw [← hwb]
  clear hwb
  refine (sShift _ _ _ R r1 r2 _ (HA.out.below HBx.out) HR.out n1 n2 HSm.out HNear.out).mono ?_
  rintro e w3 ⟨b3, c3, rfl, ho, hb⟩
  rw [← HSe.out] at ho
  have HSq3 : Hid (Sq w3 b3 n (M.mk n n (M.crS R))) := ⟨ho.mat, rect_mk _ _ _, fun i j hi hj => by rw [M.ent_mk _ _ _ _ _ hi hj]; exact HSh.out i j hi hj, n1, n2⟩
  obtain ⟨g3, q0, L0, c0, x0, hgg, hgB, -⟩ := ho.at 0 0 (by omega) (by rw [(rect_mk n n _).2 0 (by omega)]; omega)
  subst hgg
  have HO3 := Lib.hid ho
  have HB3 := Lib.hid (HBx.out.trans (hb.mono HBx.out.size))
  clear ho hb hgB
  go_wp2_with fail
  refine (sStar _ _ _ (M.mk n n (M.crS R)) _ HSq3.out).mono ?_
  rintro e w4 ⟨b4, c4, rfl, ho, hb⟩
  have hnp : M.noPos (M.ent (M.mk n n (M.crS R))) n = true := by rw [M.noPos_mk]; exact HP.out
  rw [M.bm_star n2 HSq3.out.2.2.1 hnp, M.starM_mk] at ho
  rw [hnp]
  obtain ⟨g4, q0, L0, c0, x0, hgg, hgB, -⟩ := ho.at 0 0 (by omega) (by rw [(rect_mk n n _).2 0 (by omega)]; omega)
  subst hgg
  have HO4 := Lib.hid ho
  have HO34 := Lib.hid (HO3.out.below hb)
  have HB4 := Lib.hid (HB3.out.trans (hb.mono HB3.out.size))
  have hz4 := HB4.out.size
  clear ho hb hgB hnp HSq3 HO3
  go_wp2
  go_loopw [10, 11, 12] (fun o jv _ wr => ∃ (j : Nat) (b : Option Addr) (c : Nat), j ≤ n ∧ jv = .int .i64 j ∧ o = .slice b (M.arcsP R j).length c ∧ Hid (OwnM wr w4.heap.size (.slice b (M.arcsP R j).length c) (M.arcsP R j)) ∧ Hid (Below w4.heap.size w4 wr)) (fun _ jv _ _ => n - (intOf jv).toNat)
  case atStart => exact ⟨0, _, _, Nat.zero_le _, rfl, rfl, ownM_lit0 _ _ (Nat.le_refl _), b_alloc _ _⟩
  case round =>
    obtain ⟨j, b, c, hj, rfl, rfl, HO, HB⟩ := hrel
    by_cases hjl : j < n
    · have hji : (j : Int) < (n : Int) := by omega
      have e0 : M.arcsP R j = M.arcsQ R j 0 := (M.arcsQ_zero R j).symm
      have HO' : Hid (OwnM wr w4.heap.size (.slice b (M.arcsQ R j 0).length c) (M.arcsQ R j 0)) := by show OwnM _ _ _ _; rw [← e0]; exact HO.out
      rw [e0]
      clear e0 HO
      go_wp2
      go_loopw [10, 12] (fun o iv wr => ∃ (i : Nat) (b : Option Addr) (c : Nat), i ≤ n ∧ iv = .int .i64 i ∧ o = .slice b (M.arcsQ R j i).length c ∧ Hid (OwnM wr w4.heap.size (.slice b (M.arcsQ R j i).length c) (M.arcsQ R j i)) ∧ Hid (Below w4.heap.size w4 wr)) (fun _ iv _ => n - (intOf iv).toNat)
      case atStart => exact ⟨0, _, _, Nat.zero_le _, rfl, rfl, HO', HB⟩
      case round =>
        clear HO' HB
        obtain ⟨i, b, c, hi, rfl, rfl, HO, HB⟩ := hrel
        by_cases hil : i < n
        · have hii : (i : Int) < (n : Int) := by omega
          obtain ⟨gg, q, c5, -, -, hgg, -, s1, s2, -⟩ := (HO34.out.below HB.out).tri (rect_mk _ _ _) i j j hil hjl hjl
          injection hgg with hgg
          injection hgg with hgg
          subst hgg
          obtain ⟨gg, q2, c6, -, -, hgg, -, s3, s4, -⟩ := (HO4.out.below HB.out).tri (rect_mk _ _ _) j i i hjl hil hil
          injection hgg with hgg
          injection hgg with hgg
          subst hgg
          rw [M.ent_mk _ _ _ _ _ hil hjl] at s2
          rw [M.ent_mk _ _ _ _ _ hjl hil] at s4
          have hcb := HCb.out i j
          have hT : ∀ w : World, Calls Tryz.prog 175 #[.int .i64 (M.crS R i j), .int .i64 (M.starF (M.crS R) n j i)] w fun e w' => e = .returned (.int .i64 (M.times (M.crS R i j) (M.starF (M.crS R) n j i))) ∧ w = w' := fun w => sTimesB _ _ _ (HSb.out i j hil hjl) (HTb.out j i hjl hil)
          generalize M.crS R i j = x at *
          generalize M.starF (M.crS R) n j i = y at *
          generalize M.times x y = z at *
          have HT := Lib.hid hT
          have hlen := HLa.out j i hj hi
          have HNx := Lib.hid (M.arcsQ_next R j i)
          clear hT
          by_cases hz : z = 0
          · have hz2 : (z == 0) = true := by simp [hz]
            have HN : Hid (M.arcsQ R j (i + 1) = (M.arcsQ R j i) ++ [[(j : Int), (i : Int)]]) := by
              show _ = _; rw [HNx.out, hcb, decide_eq_true hz, if_pos rfl]
            clear hz hcb HNx
            go_wp2
            go_quiet ((go_at_call 175; exact q_one_s (HT.out _)))
            generalize M.arcsQ R j i = L at *
            generalize hwq : World.drewN wr _ = wq
            have HOq : Hid (OwnM wq w4.heap.size (.slice b L.length c) L) := by show OwnM _ _ _ _; rw [← hwq]; exact HO.out.below (b_draws _ _)
            have HBq : Hid (Below w4.heap.size w4 wq) := by show Below _ _ _; rw [← hwq]; exact HB.out.trans ((b_draws _ _).mono HB.out.size)
            clear hwq
            clear HO HB s1 s2 s3 s4
            go_wp2_with (at_builtin; refine appendRowLit _ rfl (.tmp 61) (.tmp 65) rfl w4.heap.size _ L (j : Int) (i : Int) _ rfl rfl HOq.out rfl (by omega) HBq.out.size ?_)
            intro b7 c7 w7 hO7 hb7
            have HO7 := Lib.hid hO7
            have HB7 := Lib.hid (HBq.out.trans hb7)
            clear hO7 hb7
            go_wp2
            go_roundw
            case rel => exact ⟨i + 1, b7, c7, by omega, by go_num, by rw [HN.out, List.length_append]; rfl, by show OwnM _ _ _ _; rw [HN.out, List.length_append]; exact HO7.out, HB7⟩
            case measure => simp [intOf]; omega
          · have hz2 : (z == 0) = false := by simpa using hz
            have HN : Hid (M.arcsQ R j (i + 1) = M.arcsQ R j i) := by
              show _ = _; rw [HNx.out, hcb, decide_eq_false hz]; simp
            clear hz hcb HNx hlen
            have HOd := fun q => Lib.hid (HO.out.below (b_draws wr q))
            have HBd := fun q => Lib.hid (HB.out.trans ((b_draws wr q).mono HB.out.size))
            go_wp2
            go_quiet ((go_at_call 175; exact q_one_s (HT.out _)))
            go_wp2
            go_roundw
            case rel => exact ⟨i + 1, b, c, by omega, by go_num, by rw [HN.out], by show OwnM _ _ _ _; rw [HN.out]; exact (HOd _).out, HBd _⟩
            case measure => simp [intOf]; omega
        · obtain rfl : i = n := by omega
          have HN : Hid (M.arcsQ R j i = M.arcsP R (j + 1)) := by show _ = _; rw [← M.arcsQ_end, HRn.out]
          have HO2 : Hid (OwnM wr w4.heap.size (.slice b (M.arcsP R (j + 1)).length c) (M.arcsP R (j + 1))) := by show OwnM _ _ _ _; rw [← HN.out]; exact HO.out
          rw [HN.out]
          clear HO
          go_wp2
          go_roundw
          case rel => exact ⟨j + 1, b, c, by omega, by go_num, rfl, HO2, HB⟩
          case measure => simp [intOf]; omega
    · obtain rfl : j = n := by omega
      have HN : Hid (M.arcsP R j = M.arcsL R) := by show _ = _; unfold M.arcsL; rw [HRn.out]
      have HO2 : Hid (OwnM wr w4.heap.size (.slice b (M.arcsL R).length c) (M.arcsL R)) := by show OwnM _ _ _ _; rw [← HN.out]; exact HO.out
      rw [HN.out]
      clear HO
      go_wp2
      go_ret
      exact ⟨b, c, rfl, HO2.out.mono HB4.out.size, HB4.out.trans (HB.out.mono HB4.out.size)⟩
end V
end Go.Proofs.YtmcihaihbnnblaaGreat

namespace Go.Proofs.YtmcihaihbnnblaaGreat
namespace M
theorem mem_arcsL {R : List (List Int)} {l : List Int} : l ∈ arcsL R ↔ ∃ j i : Nat, j < R.length ∧ i < R.length ∧ crB R j i = true ∧ l = [(j : Int), (i : Int)] := by
  unfold arcsL arcsP arcRow
  simp only [List.mem_flatMap, List.mem_range]
  constructor
  · rintro ⟨j, hj, i, hi, h⟩
    cases e : crB R j i with
    | false => rw [e] at h; simp at h
    | true => rw [e] at h; simp at h; exact ⟨j, i, hj, hi, e, h⟩
  · rintro ⟨j, i, hj, hi, e, rfl⟩
    exact ⟨j, hj, i, hi, by rw [e]; simp⟩
theorem arcsL_at {R : List (List Int)} {k : Nat} (h : k < (arcsL R).length) : ∃ j i : Nat, j < R.length ∧ i < R.length ∧ crB R j i = true ∧ (arcsL R).getD k [] = [(j : Int), (i : Int)] := by
  refine mem_arcsL.1 ?_
  rw [List.getD_eq_getElem?_getD, List.getElem?_eq_getElem h, Option.getD_some]
  exact List.getElem_mem h
theorem arcsL_len (R : List (List Int)) (hn : R.length ≤ 10) : (arcsL R).length ≤ 100 := by
  have h := arcsP_len R R.length
  have := Nat.mul_le_mul hn hn
  unfold arcsL; omega
def arcHas (R : List (List Int)) (k i j : Nat) : Bool := ((arcsL R).take k).contains [(j : Int), (i : Int)]
def matK (R : List (List Int)) (k i j : Nat) : Int := if arcHas R k i j then ent R i j else -1000000000000000
theorem arcHas_next {R : List (List Int)} {k j i : Nat} (h : k < (arcsL R).length) (e : (arcsL R).getD k [] = [(j : Int), (i : Int)]) (s t : Nat) : arcHas R (k + 1) s t = (arcHas R k s t || (decide (s = i) && decide (t = j))) := by
  unfold arcHas
  have e2 : (arcsL R).take (k + 1) = (arcsL R).take k ++ [[(j : Int), (i : Int)]] := by
    rw [List.take_add_one, ← e, List.getD_eq_getElem?_getD, List.getElem?_eq_getElem h]; rfl
  rw [e2]
  by_cases hst : s = i ∧ t = j
  · obtain ⟨rfl, rfl⟩ := hst
    simp
  · have h1 : (decide (s = i) && decide (t = j)) = false := by
      by_cases a : s = i
      · by_cases b : t = j
        · exact absurd ⟨a, b⟩ hst
        · simp [b]
      · simp [a]
    rw [h1, Bool.or_false]
    have h2 : ([(t : Int), (s : Int)] = [(j : Int), (i : Int)]) = False := by
      simp only [List.cons.injEq, and_true, eq_iff_iff, iff_false]
      intro hh
      exact hst ⟨by omega, by omega⟩
    simp [h2]
theorem matK_zero (R : List (List Int)) (n : Nat) : mk n n (matK R 0) = botM n n := by
  unfold botM
  exact mk_congr fun i _ j _ => by unfold matK arcHas; simp
theorem matK_next {R : List (List Int)} {n k j i : Nat} (h : k < (arcsL R).length) (e : (arcsL R).getD k [] = [(j : Int), (i : Int)]) (hi : i < n) :
    (mk n n (matK R k)).set i (((mk n n (matK R k)).getD i []).set j (ent R i j)) = mk n n (matK R (k + 1)) := by
  rw [mk_set _ _ _ _ _ _ hi]
  refine mk_congr fun s _ t _ => ?_
  unfold matK
  rw [arcHas_next h e]
  by_cases a : s = i
  · by_cases b : t = j
    · subst a b; simp
    · rw [if_pos a, if_neg b]; simp [b]
  · rw [if_neg a]; simp [a]
theorem matK_end (R : List (List Int)) : mk R.length R.length (matK R (arcsL R).length) = crM R := by
  unfold crM
  refine mk_congr fun i hi j hj => ?_
  unfold matK crF arcHas
  rw [List.take_length]
  have : (arcsL R).contains [(j : Int), (i : Int)] = crB R j i := by
    apply Bool.eq_iff_iff.2
    rw [List.contains_iff_mem, mem_arcsL]
    constructor
    · rintro ⟨j', i', -, -, h, e⟩
      simp only [List.cons.injEq, and_true] at e
      rw [show j = j' by omega, show i = i' by omega]; exact h
    · intro h; exact ⟨j, i, hj, hi, h, rfl⟩
  rw [this]
theorem matRes_ok (R : List (List Int)) : okM (matRes R).1 := by
  unfold matRes
  by_cases h : crCode R = 0
  · rw [if_pos h]
    obtain ⟨h1, h2⟩ := cr_code h
    obtain ⟨n1, n2, hA⟩ := sq_sm h1
    obtain ⟨k1, k2⟩ := sqB_t h1
    right
    show isMat (crM R) = true
    unfold crM
    refine isMat_mk n1 n2 n1 n2 fun i hi j hj => ?_
    unfold crF
    split
    · exact (isMat_t k1).2.2.2.2.2 i hi j (by rw [← k2]; exact hj)
    · simp [isVal]
  · rw [if_neg h]; exact .inl rfl
end M
namespace V
set_option maxRecDepth 100000
open Go.RowKit
theorem OwnM.rowLt {w w' : World} {B n cap g i q m c : Nat} {R : List (List Int)} (h : OwnM w B (.slice (some ⟨g, 0, none⟩) n cap) R) (hr : Rect R n n) (hi : i < n) (hn : 1 ≤ n) (hg : w'.heap[g]? = w.heap[g]?)
    (hc : w'.cell? ⟨g, i, none⟩ = some (.slice (some ⟨q, 0, none⟩) m c)) : q < w.heap.size := by
  have e : w.cell? ⟨g, i, none⟩ = some (.slice (some ⟨q, 0, none⟩) m c) := (World.cell?_of_block (w := w') (a := ⟨g, i, none⟩) hg.symm).trans hc
  obtain ⟨g3, q3, c3', -, -, hgg, -, hrow3, hx3, -⟩ := h.tri hr i 0 0 hi (by omega) (by omega)
  injection hgg with hgg
  injection hgg with hgg
  subst hgg
  rw [e] at hrow3
  injection hrow3 with h1
  injection h1 with h1
  injection h1 with h1
  injection h1 with h1
  subst h1
  exact cell_lt hx3
set_option maxRecDepth 100000 in
set_option maxHeartbeats 4000000 in
theorem sMatrix (a : Option Addr) (n cap : Nat) (R : List (List Int)) (w : World) (h : Mat w a n R) (hs : M.sqB R = true) (hc : M.hasCyc (M.ent R) R.length = true) :
    Calls Tryz.prog 115 #[.slice a n cap] w (MPost n (M.crM R) w) := by
  have HA := Lib.hid h
  have HRn := Lib.hid h.1
  have HS := Lib.hid hs
  have HC := Lib.hid hc
  obtain ⟨hr, n1, n2, -⟩ := sq_parts h hs
  have HR := Lib.hid hr
  have HLn := Lib.hid (M.arcsL_len R (by rw [h.1]; exact n2))
  clear h hs hc hr
  go_enter Tryz.func115, Tryz.ntmps115
  go_wp2_with fail
  refine (sBottom n n _ (by omega) (by omega)).mono ?_
  rintro e w1 ⟨b1, c1, rfl, ho, hb⟩
  rw [← M.matK_zero R n] at ho
  obtain ⟨g, q0, L0, c0, x0, hgg, hgB, -⟩ := ho.at 0 0 (by omega) (by rw [(rect_mk n n _).2 0 (by omega)]; omega)
  subst hgg
  have HO1 := Lib.hid ho
  have HB1 := Lib.hid hb
  have hg1 : g < w1.heap.size := by
    obtain ⟨g3, q3, c3', -, -, hgg, -, hrow3, -⟩ := ho.tri (rect_mk _ _ _) 0 0 0 (by omega) (by omega) (by omega)
    injection hgg with hgg
    injection hgg with hgg
    subst hgg
    exact cell_lt hrow3
  clear ho hb hgB
  go_wp2_with fail
  refine (sArcs _ _ _ R _ (HA.out.below HB1.out) HS.out HC.out).mono ?_
  rintro e w2 ⟨b2, c2, rfl, ho, hb⟩
  have HL2 := Lib.hid ho
  have HO2 := Lib.hid (HO1.out.below hb)
  have HB2 := Lib.hid (HB1.out.trans (hb.mono HB1.out.size))
  have HG2 : Hid (w2.heap[g]? = w1.heap[g]?) := hb.block g hg1
  have hz1 := HB1.out.size
  have hz2 : w1.heap.size ≤ w2.heap.size := hb.size
  clear ho hb
  go_wp2
  go_loopw [5, 6, 7] (fun kv _ _ wr => ∃ k : Nat, k ≤ (M.arcsL R).length ∧ kv = .int .i64 k ∧ Hid (OwnM wr w.heap.size (.slice (some ⟨g, 0, none⟩) n c1) (M.mk n n (M.matK R k))) ∧ Hid (Same w1.heap.size w2.heap.size w2 wr) ∧ Hid (Below w.heap.size w wr) ∧ Hid (wr.heap[g]? = w1.heap[g]?)) (fun kv _ _ _ => (M.arcsL R).length - (intOf kv).toNat)
  case atStart => exact ⟨0, Nat.zero_le _, rfl, HO2, Same.refl _ _ _, HB2, HG2⟩
  case round =>
    obtain ⟨k, hk, rfl, HO, HSa, HB, HG⟩ := hrel
    clear HO2 HG2
    by_cases hkl : k < (M.arcsL R).length
    · have hki : (k : Int) < ((M.arcsL R).length : Int) := by omega
      obtain ⟨j, i, hj, hi, hcr, he⟩ := M.arcsL_at hkl
      rw [HRn.out] at hj hi
      have HNx : Hid ((M.mk n n (M.matK R k)).set i (((M.mk n n (M.matK R k)).getD i []).set j (M.ent R i j)) = M.mk n n (M.matK R (k + 1))) := M.matK_next hkl he hi
      have hlen := HLn.out
      have HLw : Hid (OwnM wr w1.heap.size (.slice b2 (M.arcsL R).length c2) (M.arcsL R)) := HL2.out.keep HSa.out
      obtain ⟨g2, q2, L2, d2, x0, hgg, -, -, hL2, hx0, r1, r2, -⟩ := HLw.out.at k 0 hkl (by rw [he]; simp)
      obtain ⟨g3, q3, L3, d3, x1, hgg3, -, -, hL3, hx1, r3, r4, -⟩ := HLw.out.at k 1 hkl (by rw [he]; simp)
      subst hgg
      injection hgg3 with hgg3
      injection hgg3 with hgg3
      subst hgg3
      rw [r1] at r3
      injection r3 with r3
      injection r3 with r3 r3b r3c
      injection r3 with r3
      injection r3 with r3
      subst r3 r3b r3c
      rw [he] at hL2 hx0 hx1
      have hL2' : L2 = 2 := hL2
      have hx0' : x0 = (j : Int) := hx0
      have hx1' : x1 = (i : Int) := hx1
      subst hL2' hx0' hx1'
      clear hL2 hx0 hx1 hL3 he hcr HLw
      have hji : (j : Int) < (n : Int) := by omega
      have hii : (i : Int) < (n : Int) := by omega
      generalize (M.arcsL R).length = N at *
      go_wp2
      go_quiet (fail)
      generalize hwq : World.drewN wr _ = wq
      have HOq : Hid (OwnM wq w.heap.size (.slice (some ⟨g, 0, none⟩) n c1) (M.mk n n (M.matK R k))) := by show OwnM _ _ _ _; rw [← hwq]; exact HO.out.below (b_draws _ _)
      have HSq : Hid (Same w1.heap.size w2.heap.size w2 wq) := by show Same _ _ _ _; rw [← hwq]; exact HSa.out
      have HBq : Hid (Below w.heap.size w wq) := by show Below _ _ _; rw [← hwq]; exact below_drewN HB.out _
      have HGq : Hid (wq.heap[g]? = w1.heap[g]?) := by show _ = _; rw [← hwq]; exact HG.out
      clear hwq HO HSa HB HG r1 r2 r4
      obtain ⟨g4, q, c4, q', c', hgg, hq, h1, h2, -, h4, -, h6, ho⟩ := HOq.out.tri (rect_mk _ _ _) i j j hi hj hj
      injection hgg with hgg
      injection hgg with hgg
      subst hgg
      have hne := row_ne h2 h4
      have hql := OwnM.rowLt HO1.out (rect_mk _ _ _) hi n1 HGq.out h1
      obtain ⟨ab, ao, rb, ro, rc, x, hax, hxx, a1, a2⟩ := (HA.out.below HBq.out).rect_ent HR.out i j hi hj
      subst hax
      have hN := ho x
      rw [hxx, HNx.out, ← hxx] at hN
      have HN5 := Lib.hid hN
      have HSn : Hid (Same w1.heap.size w2.heap.size w2 (wq.setCell ⟨q, j, none⟩ (.int .i64 x))) := fun k k1 k2 =>
        (Below.heap_setCell wq ⟨q, j, none⟩ _ k (by show k ≠ q; omega)).trans (HSq.out k k1 k2)
      have HGn : Hid ((wq.setCell ⟨q, j, none⟩ (.int .i64 x)).heap[g]? = w1.heap[g]?) := (Below.heap_setCell wq ⟨q, j, none⟩ _ g (fun e => hne e.symm)).trans HGq.out
      clear hN ho hxx h4
      go_wp2
      go_still_tail 13, (by kernel_rfl)
      repeat still_step
      try refine wpStill_nil ?_
      change wpList _ _ _ _ _ wq.drew
      go_wp2
      go_roundw
      case rel => exact ⟨k + 1, by omega, by go_num, HN5.out.keep (fun _ _ _ => rfl), HSn, HBq.out.drew.setCell hq _, HGn⟩
      case measure => simp [intOf]; omega
    · obtain rfl : k = (M.arcsL R).length := by omega
      have HO5 : Hid (OwnM wr w.heap.size (.slice (some ⟨g, 0, none⟩) n c1) (M.crM R)) := by
        show OwnM _ _ _ _; rw [← M.matK_end, HRn.out]; exact HO.out
      clear HO
      go_wp2
      go_ret
      exact ⟨_, _, rfl, HO5.out, HB.out⟩
set_option maxRecDepth 100000 in
set_option maxHeartbeats 1000000 in
theorem sCriticalMatrix (a : Option Addr) (n cap : Nat) (R : List (List Int)) (w : World) (h : Mat w a n R) :
    Calls Tryz.prog 35 #[.slice a n cap] w (MRes (M.matRes R) w) := by
  have HA := Lib.hid h
  have hRn : R.length = n := h.1
  by_cases hc : M.crCode R = 0
  · obtain ⟨h1, h2⟩ := M.cr_code hc
    have H1 := Lib.hid h1
    have H2 := Lib.hid h2
    have HK := Lib.hid hc
    have HE : Hid (M.matRes R = (M.crM R, 0)) := by show _ = _; unfold M.matRes; rw [if_pos hc]
    clear h hc h1 h2 hRn
    go_enter Tryz.func35, Tryz.ntmps35
    go_wp2_with fail
    refine (sCode _ _ _ R _ HA.out).mono ?_
    rintro e w1 ⟨rfl, hb⟩
    rw [HK.out]
    have HB := Lib.hid hb
    clear hb
    go_wp2_with fail
    refine (sMatrix _ _ _ R _ (HA.out.below HB.out) H1.out H2.out).mono ?_
    rintro e w2 ⟨b2, c2, rfl, ho, hb⟩
    have HO := Lib.hid (ho.mono HB.out.size)
    have HB2 := Lib.hid (HB.out.trans (hb.mono HB.out.size))
    clear ho hb
    go_wp2
    go_ret2
    rw [HE.out]
    exact ⟨_, _, _, rfl, HO.out, HB2.out⟩
  · obtain ⟨k, hk⟩ : ∃ k, k = M.crCode R := ⟨_, rfl⟩
    have HE : Hid (M.matRes R = ([], k)) := by show _ = _; unfold M.matRes; rw [if_neg hc, hk]
    have HK := Lib.hid hk
    have hk0 : (k != 0) = true := by rw [hk]; simpa using hc
    clear h hc hRn hk
    go_enter Tryz.func35, Tryz.ntmps35
    go_wp2_with fail
    refine (sCode _ _ _ R _ HA.out).mono ?_
    rintro e w1 ⟨rfl, hb⟩
    rw [← HK.out]
    have HB := Lib.hid hb
    clear hb
    go_wp2
    go_ret2
    exact MRes.nil HE.out HB.out
end V
end Go.Proofs.YtmcihaihbnnblaaGreat

namespace Go.Proofs.YtmcihaihbnnblaaGreat
namespace M
theorem uniq_lt : ∀ {l k : List Int}, l.Pairwise (fun x y => x < y) → k.Pairwise (fun x y => x < y) → (∀ x, x ∈ l ↔ x ∈ k) → l = k := by
  intro l
  induction l with
  | nil =>
    intro k _ _ h
    cases k with
    | nil => rfl
    | cons y k => exact absurd ((h y).2 (List.mem_cons_self ..)) (List.not_mem_nil)
  | cons x l ih =>
    intro k hl hk h
    cases k with
    | nil => exact absurd ((h x).1 (List.mem_cons_self ..)) (List.not_mem_nil)
    | cons y k =>
      obtain ⟨l1, l2⟩ := List.pairwise_cons.1 hl
      obtain ⟨k1, k2⟩ := List.pairwise_cons.1 hk
      have hxy : x = y := by
        rcases List.mem_cons.1 ((h x).1 (List.mem_cons_self ..)) with e | e
        · exact e
        · rcases List.mem_cons.1 ((h y).2 (List.mem_cons_self ..)) with e2 | e2
          · exact e2.symm
          · have := k1 x e; have := l1 y e2; omega
      subst hxy
      rw [ih l2 k2 fun z => ?_]
      constructor
      · intro hz
        rcases List.mem_cons.1 ((h z).1 (List.mem_cons_of_mem _ hz)) with e | e
        · have := l1 z hz; omega
        · exact e
      · intro hz
        rcases List.mem_cons.1 ((h z).2 (List.mem_cons_of_mem _ hz)) with e | e
        · have := k1 z hz; omega
        · exact e
theorem cmp_mem (d : Array Int) (m : Nat) (x : Int) : x ∈ Lib.compactUpTo d m ↔ ∃ j, j < m ∧ d[j]! = x := by
  induction m with
  | zero => simp [Lib.compactUpTo]
  | succ m ih =>
    rw [Lib.compactUpTo_succ, List.mem_append, ih]
    constructor
    · rintro (⟨j, hj, e⟩ | h)
      · exact ⟨j, by omega, e⟩
      · split at h
        · exact ⟨m, by omega, (List.mem_singleton.1 h).symm⟩
        · exact absurd h (List.not_mem_nil)
    · rintro ⟨j, hj, e⟩
      by_cases hjm : j < m
      · exact .inl ⟨j, hjm, e⟩
      · obtain rfl : j = m := by omega
        by_cases hk : Lib.keeps d j = true
        · right; rw [if_pos hk, e]; exact List.mem_singleton.2 rfl
        · left
          simp only [Lib.keeps, decide_eq_true_eq, not_or, Decidable.not_not] at hk
          exact ⟨j - 1, by omega, by rw [← hk.2, e]⟩
theorem cmp_lt (d : Array Int) (m : Nat) (hm : m ≤ d.size) (hs : ∀ j, j + 1 < d.size → d[j]! ≤ d[j + 1]!) : (Lib.compactUpTo d m).Pairwise (fun x y => x < y) ∧ ∀ x, x ∈ Lib.compactUpTo d m → x ≤ d[m - 1]! := by
  induction m with
  | zero => exact ⟨by simp [Lib.compactUpTo], fun x h => by simp [Lib.compactUpTo] at h⟩
  | succ m ih =>
    obtain ⟨i1, i2⟩ := ih (by omega)
    have hstep : ∀ x, x ∈ Lib.compactUpTo d m → x ≤ d[m]! := fun x hx => by
      have h1 := i2 x hx
      obtain ⟨j, hj, -⟩ := (cmp_mem d m x).1 hx
      have h2 := hs (m - 1) (by omega)
      rw [show m - 1 + 1 = m by omega] at h2
      omega
    rw [Lib.compactUpTo_succ, Nat.add_sub_cancel]
    by_cases hk : Lib.keeps d m = true
    · rw [if_pos hk]
      refine ⟨List.pairwise_append.2 ⟨i1, List.pairwise_singleton .., fun x hx y hy => ?_⟩, fun x hx => ?_⟩
      · obtain rfl := List.mem_singleton.1 hy
        have h1 := i2 x hx
        obtain ⟨j, hj, -⟩ := (cmp_mem d m x).1 hx
        have h2 := hs (m - 1) (by omega)
        rw [show m - 1 + 1 = m by omega] at h2
        simp only [Lib.keeps, decide_eq_true_eq] at hk
        rcases hk with hk | hk
        · omega
        · omega
      · rcases List.mem_append.1 hx with h | h
        · exact hstep x h
        · rw [List.mem_singleton.1 h]; exact Int.le_refl _
    · rw [if_neg hk, List.append_nil]
      exact ⟨i1, hstep⟩
theorem srt_mem (ss : List Int) (x : Int) : x ∈ Lib.compact (ss.mergeSort fun x y => decide (x ≤ y)) ↔ x ∈ ss := by
  unfold Lib.compact
  rw [cmp_mem, ← (List.mergeSort_perm ss fun x y => decide (x ≤ y)).mem_iff]
  generalize (ss.mergeSort fun x y => decide (x ≤ y)) = l
  rw [List.mem_iff_getElem]
  constructor
  · rintro ⟨j, hj, e⟩
    exact ⟨j, hj, by rw [← e]; simp [hj]⟩
  · rintro ⟨j, hj, e⟩
    exact ⟨j, hj, by rw [← e]; simp [hj]⟩
theorem srt_lt (ss : List Int) : (Lib.compact (ss.mergeSort fun x y => decide (x ≤ y))).Pairwise (fun x y => x < y) := by
  have hp : (ss.mergeSort fun x y => decide (x ≤ y)).Pairwise (fun x y => decide (x ≤ y) = true) :=
    List.pairwise_mergeSort (fun a b c h1 h2 => by simp only [decide_eq_true_eq] at *; omega) (fun a b => by simp only [Bool.or_eq_true, decide_eq_true_eq]; omega) ss
  unfold Lib.compact
  generalize (ss.mergeSort fun x y => decide (x ≤ y)) = l at *
  refine (cmp_lt l.toArray l.length (by simp) fun j hj => ?_).1
  have hj' : j + 1 < l.length := by simpa using hj
  have := List.pairwise_iff_getElem.1 hp j (j + 1) (by omega) hj' (by omega)
  simp only [decide_eq_true_eq] at this
  simpa [hj', show j < l.length by omega] using this
theorem nodesL_lt (R : List (List Int)) : (nodesL R).Pairwise (fun x y => x < y) := by
  unfold nodesL nodesP
  rw [List.pairwise_map]
  exact (List.pairwise_lt_range.filter _).imp fun h => by omega
theorem mem_nodesL {R : List (List Int)} {x : Int} : x ∈ nodesL R ↔ ∃ f : Nat, f < R.length ∧ crN R f = true ∧ x = f := by
  unfold nodesL nodesP
  rw [List.mem_map]
  constructor
  · rintro ⟨f, hf, rfl⟩
    obtain ⟨h1, h2⟩ := List.mem_filter.1 hf
    exact ⟨f, List.mem_range.1 h1, h2, rfl⟩
  · rintro ⟨f, h1, h2, rfl⟩
    exact ⟨f, List.mem_filter.2 ⟨List.mem_range.2 h1, h2⟩, rfl⟩
/-- The first nodes of all arcs, sorted and without repeats. -/
theorem srt_nodes {R : List (List Int)} {ss : List Int} (h : ∀ x, x ∈ ss ↔ ∃ f t : Nat, f < R.length ∧ t < R.length ∧ crB R f t = true ∧ x = f) : Lib.compact (ss.mergeSort fun x y => decide (x ≤ y)) = nodesL R := by
  refine uniq_lt (srt_lt ss) (nodesL_lt R) fun x => ?_
  rw [srt_mem, h, mem_nodesL]
  unfold crN
  constructor
  · rintro ⟨f, t, hf, ht, hc, e⟩
    exact ⟨f, hf, List.any_eq_true.2 ⟨t, List.mem_range.2 ht, hc⟩, e⟩
  · rintro ⟨f, hf, hc, e⟩
    obtain ⟨t, ht, hc⟩ := List.any_eq_true.1 hc
    exact ⟨f, t, hf, List.mem_range.1 ht, hc, e⟩
theorem nodesL_len (R : List (List Int)) : (nodesL R).length ≤ R.length := by
  unfold nodesL nodesP
  rw [List.length_map]
  have := List.length_filter_le (crN R) (List.range R.length)
  simpa using this
end M
end Go.Proofs.YtmcihaihbnnblaaGreat

namespace Go.Proofs.YtmcihaihbnnblaaGreat
namespace M
/-- The first nodes of the first k arcs, each once. -/
def ndK (R : List (List Int)) : Nat → List Int
  | 0 => []
  | k + 1 => if hasB (ndK R k) (((arcsL R).getD k []).getD 0 0) then ndK R k else ndK R k ++ [((arcsL R).getD k []).getD 0 0]
theorem ndK_len (R : List (List Int)) (k : Nat) : (ndK R k).length ≤ k := by
  induction k with
  | zero => exact Nat.le_refl _
  | succ k ih =>
    unfold ndK
    split
    · omega
    · rw [List.length_append]; simp; omega
/-- The arcs are sorted by their first nodes. -/
theorem arcs_sorted (R : List (List Int)) : (arcsL R).Pairwise (fun x y => x.getD 0 0 ≤ y.getD 0 0) := by
  have hrow : ∀ j k, (∀ l, l ∈ arcRow R j k → l.getD 0 0 = (j : Int)) := fun j k l hl => by
    unfold arcRow at hl
    obtain ⟨i, -, hi⟩ := List.mem_flatMap.1 hl
    split at hi
    · rw [List.mem_singleton.1 hi]; rfl
    · exact absurd hi (List.not_mem_nil)
  have key : ∀ k, (arcsP R k).Pairwise (fun x y => x.getD 0 0 ≤ y.getD 0 0) ∧ ∀ l, l ∈ arcsP R k → l.getD 0 0 < (k : Int) := fun k => by
    induction k with
    | zero => exact ⟨by simp [arcsP], fun l h => by simp [arcsP] at h⟩
    | succ k ih =>
      rw [arcsP_next]
      refine ⟨List.pairwise_append.2 ⟨ih.1, ?_, fun x hx y hy => ?_⟩, fun l hl => ?_⟩
      · refine List.pairwise_iff_getElem.2 fun i j hi hj _ => ?_
        rw [hrow k R.length _ (List.getElem_mem hi), hrow k R.length _ (List.getElem_mem hj)]
        exact Int.le_refl _
      · have := ih.2 x hx; rw [hrow k R.length y hy]; omega
      · rcases List.mem_append.1 hl with h | h
        · have := ih.2 l h; omega
        · rw [hrow k R.length l h]; omega
  exact (key R.length).1
theorem getD_at {L : List (List Int)} {k : Nat} (h : k < L.length) : L.getD k [] = L[k] := by
  rw [List.getD_eq_getElem?_getD, List.getElem?_eq_getElem h, Option.getD_some]
theorem ndK_t (R : List (List Int)) (k : Nat) (hk : k ≤ (arcsL R).length) : (ndK R k).Pairwise (fun x y => x < y) ∧ ∀ x, x ∈ ndK R k ↔ ∃ j, j < k ∧ ((arcsL R).getD j []).getD 0 0 = x := by
  induction k with
  | zero => exact ⟨List.Pairwise.nil, fun x => ⟨fun h => absurd h (List.not_mem_nil), fun ⟨j, hj, _⟩ => absurd hj (Nat.not_lt_zero j)⟩⟩
  | succ k ih =>
    obtain ⟨i1, i2⟩ := ih (by omega)
    have hle : ∀ x, x ∈ ndK R k → x ≤ ((arcsL R).getD k []).getD 0 0 := fun x hx => by
      obtain ⟨j, hj, e⟩ := (i2 x).1 hx
      have := List.pairwise_iff_getElem.1 (arcs_sorted R) j k (by omega) (by omega) hj
      rw [← getD_at (by omega), ← getD_at (by omega), e] at this
      exact this
    unfold ndK
    by_cases h : hasB (ndK R k) (((arcsL R).getD k []).getD 0 0) = true
    · rw [if_pos h]
      refine ⟨i1, fun x => (i2 x).trans ⟨fun ⟨j, hj, e⟩ => ⟨j, by omega, e⟩, fun ⟨j, hj, e⟩ => ?_⟩⟩
      by_cases hjk : j < k
      · exact ⟨j, hjk, e⟩
      · obtain rfl : j = k := by omega
        rw [← e]
        exact (i2 _).1 (hasB_iff.1 h)
    · rw [if_neg h]
      have hn := fun hm => h (hasB_iff.2 hm)
      refine ⟨List.pairwise_append.2 ⟨i1, List.pairwise_singleton .., fun x hx y hy => ?_⟩, fun x => ?_⟩
      · rw [List.mem_singleton.1 hy]
        have h1 := hle x hx
        have h2 : x ≠ ((arcsL R).getD k []).getD 0 0 := fun e => hn (e ▸ hx)
        omega
      · rw [List.mem_append, i2 x, List.mem_singleton]
        constructor
        · rintro (⟨j, hj, e⟩ | e)
          · exact ⟨j, by omega, e⟩
          · exact ⟨k, by omega, e.symm⟩
        · rintro ⟨j, hj, e⟩
          by_cases hjk : j < k
          · exact .inl ⟨j, hjk, e⟩
          · obtain rfl : j = k := by omega
            exact .inr e.symm
theorem ndK_end (R : List (List Int)) : ndK R (arcsL R).length = nodesL R := by
  obtain ⟨h1, h2⟩ := ndK_t R _ (Nat.le_refl _)
  refine uniq_lt h1 (nodesL_lt R) fun x => ?_
  rw [h2, mem_nodesL]
  unfold crN
  constructor
  · rintro ⟨j, hj, e⟩
    obtain ⟨f, t, hf, ht, hc, he⟩ := arcsL_at hj
    rw [he] at e
    exact ⟨f, hf, List.any_eq_true.2 ⟨t, List.mem_range.2 ht, hc⟩, e.symm⟩
  · rintro ⟨f, hf, hc, rfl⟩
    obtain ⟨t, ht, hc⟩ := List.any_eq_true.1 hc
    obtain ⟨k, hk, e⟩ := List.mem_iff_getElem.1 (mem_arcsL.2 ⟨f, t, hf, List.mem_range.1 ht, hc, rfl⟩ : [(f : Int), (t : Int)] ∈ arcsL R)
    exact ⟨k, hk, by rw [getD_at hk, e]; rfl⟩
theorem nodesRes_len (R : List (List Int)) : (nodesRes R).1.length ≤ 10 := by
  unfold nodesRes
  by_cases h : crCode R = 0
  · rw [if_pos h]
    obtain ⟨-, n2, -⟩ := sq_sm (cr_code h).1
    exact Nat.le_trans (nodesL_len R) n2
  · rw [if_neg h]; simp
end M
namespace V
set_option maxRecDepth 100000
open Go.RowKit
set_option maxRecDepth 100000 in
set_option maxHeartbeats 4000000 in
theorem sNodes6 (a : Option Addr) (n cap : Nat) (R : List (List Int)) (w : World) (h : Mat w a n R) (hs : M.sqB R = true) (hc : M.hasCyc (M.ent R) R.length = true) :
    Calls Tryz.prog 113 #[.slice a n cap] w fun e w' => ∃ b c, e = .returned (.slice b (M.nodesL R).length c) ∧ Own w' w.heap.size (.slice b (M.nodesL R).length c) (M.nodesL R) ∧ Below w.heap.size w w' := by
  have HA := Lib.hid h
  have HRn := Lib.hid h.1
  have HS := Lib.hid hs
  have HC := Lib.hid hc
  obtain ⟨hr, n1, n2, -⟩ := sq_parts h hs
  have HLn := Lib.hid (M.arcsL_len R (by rw [h.1]; exact n2))
  clear h hs hc hr
  go_enter Tryz.func113, Tryz.ntmps113
  go_wp2_with fail
  refine (sArcs _ _ _ R _ HA.out HS.out HC.out).mono ?_
  rintro e w2 ⟨b2, c2, rfl, ho, hb⟩
  have HL2 := Lib.hid ho
  have HB2 := Lib.hid hb
  clear ho hb
  go_wp2
  go_loopw [4, 5] (fun o kv wr => ∃ (k : Nat) (b : Option Addr) (c : Nat), k ≤ (M.arcsL R).length ∧ kv = .int .i64 k ∧ o = .slice b (M.ndK R k).length c ∧ Hid (Own wr w2.heap.size (.slice b (M.ndK R k).length c) (M.ndK R k)) ∧ Hid (Below w2.heap.size w2 wr)) (fun _ kv _ => (M.arcsL R).length - (intOf kv).toNat)
  case atStart => exact ⟨0, _, _, Nat.zero_le _, rfl, rfl, own_lit0 _ _ (Nat.le_refl _), b_alloc _ _⟩
  case round =>
    obtain ⟨k, b, c, hk, rfl, rfl, HO, HB⟩ := hrel
    by_cases hkl : k < (M.arcsL R).length
    · have hki : (k : Int) < ((M.arcsL R).length : Int) := by omega
      obtain ⟨j, i, hj, hi, hcr, he⟩ := M.arcsL_at hkl
      have hlen := HLn.out
      have hnl := M.ndK_len R k
      obtain ⟨g2, q2, L2, d2, x0, hgg, -, -, hL2, hx0, r1, r2, -⟩ := (HL2.out.below HB.out).at k 0 hkl (by rw [he]; simp)
      subst hgg
      have hnx : M.ndK R (k + 1) = if M.hasB (M.ndK R k) x0 then M.ndK R k else M.ndK R k ++ [x0] := by rw [hx0]; rfl
      rw [he] at hL2 hx0
      have hL2' : L2 = 2 := hL2
      subst hL2'
      have HI := Lib.hid HO.out.ints'
      obtain ⟨hb, hhb⟩ : ∃ hb, hb = M.hasB (M.ndK R k) x0 := ⟨_, rfl⟩
      rw [← hhb] at hnx
      have HH := Lib.hid hhb
      clear hL2 hx0 he hcr hhb
      generalize (M.arcsL R).length = N at *
      generalize hnd : M.ndK R k = l at *
      clear hnd
      cases hb with
      | true =>
        have HN : Hid (M.ndK R (k + 1) = l) := hnx
        clear hnx
        go_wp2_with (go_at_call 105; refine (sHas _ _ _ l _ _ (by exact HI.out)).mono ?_; rintro e w' ⟨rfl, rfl⟩; rw [← HH.out])
        go_roundw
        case rel => exact ⟨k + 1, b, c, by omega, by go_num, by rw [HN.out], by show Own _ _ _ _; rw [HN.out]; exact HO.out, HB⟩
        case measure => simp [intOf]; omega
      | false =>
        have HN : Hid (M.ndK R (k + 1) = l ++ [x0]) := hnx
        clear hnx
        go_wp2_with (first | (go_at_call 105; refine (sHas _ _ _ l _ _ (by exact HI.out)).mono ?_; rintro e w' ⟨rfl, rfl⟩; rw [← HH.out]) | (at_builtin; refine append1 _ rfl (.tmp 24) (.tmp 31) rfl w2.heap.size _ l x0 _ rfl rfl HO.out rfl (by omega) HB.out.size ?_))
        intro b4 c4 w4 hO4 hb4 _
        have HO4 := Lib.hid hO4
        have HB4 := Lib.hid (HB.out.trans hb4)
        rw [← HN.out] at HO4
        clear hO4 hb4
        go_wp2
        go_roundw
        case rel => exact ⟨k + 1, b4, c4, by omega, by go_num, by rw [HN.out, List.length_append]; rfl, by show Own _ _ _ _; rw [HN.out, List.length_append]; rw [HN.out] at HO4; exact HO4.out, HB4⟩
        case measure => simp [intOf]; omega
    · obtain rfl : k = (M.arcsL R).length := by omega
      have HN : Hid (M.ndK R (M.arcsL R).length = M.nodesL R) := M.ndK_end R
      have HO2 : Hid (Own wr w2.heap.size (.slice b (M.nodesL R).length c) (M.nodesL R)) := by show Own _ _ _ _; rw [← HN.out]; exact HO.out
      rw [HN.out]
      clear HO
      go_wp2
      go_ret
      exact ⟨b, c, rfl, HO2.out.mono HB2.out.size, HB2.out.trans (HB.out.mono HB2.out.size)⟩
set_option maxRecDepth 100000 in
set_option maxHeartbeats 1000000 in
theorem sCriticalNodes (a : Option Addr) (n cap : Nat) (R : List (List Int)) (w : World) (h : Mat w a n R) :
    Calls Tryz.prog 33 #[.slice a n cap] w (VRes (M.nodesRes R) w) := by
  have HA := Lib.hid h
  by_cases hc : M.crCode R = 0
  · obtain ⟨h1, h2⟩ := M.cr_code hc
    have H1 := Lib.hid h1
    have H2 := Lib.hid h2
    have HK := Lib.hid hc
    have HE : Hid (M.nodesRes R = (M.nodesL R, 0)) := by show _ = _; unfold M.nodesRes; rw [if_pos hc]
    clear h hc h1 h2
    go_enter Tryz.func33, Tryz.ntmps33
    go_wp2_with fail
    refine (sCode _ _ _ R _ HA.out).mono ?_
    rintro e w1 ⟨rfl, hb⟩
    rw [HK.out]
    have HB := Lib.hid hb
    clear hb
    go_wp2_with fail
    refine (sNodes6 _ _ _ R _ (HA.out.below HB.out) H1.out H2.out).mono ?_
    rintro e w2 ⟨b2, c2, rfl, ho, hb⟩
    have HO := Lib.hid (ho.mono HB.out.size)
    have HB2 := Lib.hid (HB.out.trans (hb.mono HB.out.size))
    clear ho hb
    go_wp2
    go_ret2
    rw [HE.out]
    exact ⟨_, _, _, rfl, HO.out, HB2.out⟩
  · obtain ⟨k, hk⟩ : ∃ k, k = M.crCode R := ⟨_, rfl⟩
    have HE : Hid (M.nodesRes R = ([], k)) := by show _ = _; unfold M.nodesRes; rw [if_neg hc, hk]
    have HK := Lib.hid hk
    have hk0 : (k != 0) = true := by rw [hk]; simpa using hc
    clear h hc hk
    go_enter Tryz.func33, Tryz.ntmps33
    go_wp2_with fail
    refine (sCode _ _ _ R _ HA.out).mono ?_
    rintro e w1 ⟨rfl, hb⟩
    rw [← HK.out]
    have HB := Lib.hid hb
    clear hb
    go_wp2
    go_ret2
    exact VRes.nil HE.out HB.out
end V
end Go.Proofs.YtmcihaihbnnblaaGreat
