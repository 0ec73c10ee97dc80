/- Texts laid together: Cmm. -/
import Derived.Test.YtlljnfljcdljaabGreatQz11
import Derived.Test.YtlljnfljcdljaabGreatQz5
import Derived.Test.YtlljnfljcdljaabGreatQz14
import Derived.StillTailTactics
set_option linter.unusedSimpArgs false
set_option linter.unusedVariables false
set_option linter.unusedSectionVars false
namespace Go.Proofs.YtlljnfljcdljaabGreat
namespace M
theorem mem_arcsL {R : List (List Int)} {l : List Int} : l ∈ arcsL R ↔ ∃ j i : Nat, j < R.length ∧ i < R.length ∧ crB R j i = true ∧ l = [(j : Int), (i : Int)] := by
  unfold arcsL arcsP arcRow
  simp only [List.mem_flatMap, List.mem_range]
  constructor
  · rintro ⟨j, hj, i, hi, h⟩
    cases e : crB R j i with
    | false => rw [e] at h; simp at h
    | true => rw [e] at h; simp at h; exact ⟨j, i, hj, hi, e, h⟩
  · rintro ⟨j, i, hj, hi, e, rfl⟩
    exact ⟨j, hj, i, hi, by rw [e]; simp⟩
theorem arcsL_at {R : List (List Int)} {k : Nat} (h : k < (arcsL R).length) : ∃ j i : Nat, j < R.length ∧ i < R.length ∧ crB R j i = true ∧ (arcsL R).getD k [] = [(j : Int), (i : Int)] := by
  refine mem_arcsL.1 ?_
  rw [List.getD_eq_getElem?_getD, List.getElem?_eq_getElem h, Option.getD_some]
  exact List.getElem_mem h
theorem arcsL_len (R : List (List Int)) (hn : R.length ≤ 10) : (arcsL R).length ≤ 100 := by
  have h := arcsP_len R R.length
  have := Nat.mul_le_mul hn hn
  unfold arcsL; omega
def arcHas (R : List (List Int)) (k i j : Nat) : Bool := ((arcsL R).take k).contains [(j : Int), (i : Int)]
def matK (R : List (List Int)) (k i j : Nat) : Int := if arcHas R k i j then ent R i j else -1000000000000000
theorem arcHas_next {R : List (List Int)} {k j i : Nat} (h : k < (arcsL R).length) (e : (arcsL R).getD k [] = [(j : Int), (i : Int)]) (s t : Nat) : arcHas R (k + 1) s t = (arcHas R k s t || (decide (s = i) && decide (t = j))) := by
  unfold arcHas
  have e2 : (arcsL R).take (k + 1) = (arcsL R).take k ++ [[(j : Int), (i : Int)]] := by
    rw [List.take_add_one, ← e, List.getD_eq_getElem?_getD, List.getElem?_eq_getElem h]; rfl
  rw [e2]
  by_cases hst : s = i ∧ t = j
  · obtain ⟨rfl, rfl⟩ := hst
    simp
  · have h1 : (decide (s = i) && decide (t = j)) = false := by
      by_cases a : s = i
      · by_cases b : t = j
        · exact absurd ⟨a, b⟩ hst
        · simp [b]
      · simp [a]
    rw [h1, Bool.or_false]
    have h2 : ([(t : Int), (s : Int)] = [(j : Int), (i : Int)]) = False := by
      simp only [List.cons.injEq, and_true, eq_iff_iff, iff_false]
      intro hh
      exact hst ⟨by omega, by omega⟩
    simp [h2]
theorem matK_zero (R : List (List Int)) (n : Nat) : mk n n (matK R 0) = botM n n := by
  unfold botM
  exact mk_congr fun i _ j _ => by unfold matK arcHas; simp
theorem matK_next {R : List (List Int)} {n k j i : Nat} (h : k < (arcsL R).length) (e : (arcsL R).getD k [] = [(j : Int), (i : Int)]) (hi : i < n) :
    (mk n n (matK R k)).set i (((mk n n (matK R k)).getD i []).set j (ent R i j)) = mk n n (matK R (k + 1)) := by
  rw [mk_set _ _ _ _ _ _ hi]
  refine mk_congr fun s _ t _ => ?_
  unfold matK
  rw [arcHas_next h e]
  by_cases a : s = i
  · by_cases b : t = j
    · subst a b; simp
    · rw [if_pos a, if_neg b]; simp [b]
  · rw [if_neg a]; simp [a]
theorem matK_end (R : List (List Int)) : mk R.length R.length (matK R (arcsL R).length) = crM R := by
  unfold crM
  refine mk_congr fun i hi j hj => ?_
  unfold matK crF arcHas
  rw [List.take_length]
  have : (arcsL R).contains [(j : Int), (i : Int)] = crB R j i := by
    apply Bool.eq_iff_iff.2
    rw [List.contains_iff_mem, mem_arcsL]
    constructor
    · rintro ⟨j', i', -, -, h, e⟩
      simp only [List.cons.injEq, and_true] at e
      rw [show j = j' by omega, show i = i' by omega]; exact h
    · intro h; exact ⟨j, i, hj, hi, h, rfl⟩
  rw [this]
theorem matRes_ok (R : List (List Int)) : okM (matRes R).1 := by
  unfold matRes
  by_cases h : crCode R = 0
  · rw [if_pos h]
    obtain ⟨h1, h2⟩ := cr_code h
    obtain ⟨n1, n2, hA⟩ := sq_sm h1
    obtain ⟨k1, k2⟩ := sqB_t h1
    right
    show isMat (crM R) = true
    unfold crM
    refine isMat_mk n1 n2 n1 n2 fun i hi j hj => ?_
    unfold crF
    split
    · exact (isMat_t k1).2.2.2.2.2 i hi j (by rw [← k2]; exact hj)
    · simp [isVal]
  · rw [if_neg h]; exact .inl rfl
end M
namespace V
set_option maxRecDepth 100000
open Go.RowKit
theorem OwnM.rowLt {w w' : World} {B n cap g i q m c : Nat} {R : List (List Int)} (h : OwnM w B (.slice (some ⟨g, 0, none⟩) n cap) R) (hr : Rect R n n) (hi : i < n) (hn : 1 ≤ n) (hg : w'.heap[g]? = w.heap[g]?)
    (hc : w'.cell? ⟨g, i, none⟩ = some (.slice (some ⟨q, 0, none⟩) m c)) : q < w.heap.size := by
  have e : w.cell? ⟨g, i, none⟩ = some (.slice (some ⟨q, 0, none⟩) m c) := (World.cell?_of_block (w := w') (a := ⟨g, i, none⟩) hg.symm).trans hc
  obtain ⟨g3, q3, c3', -, -, hgg, -, hrow3, hx3, -⟩ := h.tri hr i 0 0 hi (by omega) (by omega)
  injection hgg with hgg
  injection hgg with hgg
  subst hgg
  rw [e] at hrow3
  injection hrow3 with h1
  injection h1 with h1
  injection h1 with h1
  injection h1 with h1
  subst h1
  exact cell_lt hx3
set_option maxRecDepth 100000 in
set_option maxHeartbeats 4000000 in
theorem sMatrix (a : Option Addr) (n cap : Nat) (R : List (List Int)) (w : World) (h : Mat w a n R) (hs : M.sqB R = true) (hc : M.hasCyc (M.ent R) R.length = true) :
    Calls Tryz.prog 41 #[.slice a n cap] w (MPost n (M.crM R) w) := by
  have HA := Lib.hid h
  have HRn := Lib.hid h.1
  have HS := Lib.hid hs
  have HC := Lib.hid hc
  obtain ⟨hr, n1, n2, -⟩ := sq_parts h hs
  have HR := Lib.hid hr
  have HLn := Lib.hid (M.arcsL_len R (by rw [h.1]; exact n2))
  clear h hs hc hr
  go_enter Tryz.func41, Tryz.ntmps41
  go_wp2_with fail
  refine (sBottom n n _ (by omega) (by omega)).mono ?_
  rintro e w1 ⟨b1, c1, rfl, ho, hb⟩
  rw [← M.matK_zero R n] at ho
  obtain ⟨g, q0, L0, c0, x0, hgg, hgB, -⟩ := ho.at 0 0 (by omega) (by rw [(rect_mk n n _).2 0 (by omega)]; omega)
  subst hgg
  have HO1 := Lib.hid ho
  have HB1 := Lib.hid hb
  have hg1 : g < w1.heap.size := by
    obtain ⟨g3, q3, c3', -, -, hgg, -, hrow3, -⟩ := ho.tri (rect_mk _ _ _) 0 0 0 (by omega) (by omega) (by omega)
    injection hgg with hgg
    injection hgg with hgg
    subst hgg
    exact cell_lt hrow3
  clear ho hb hgB
  go_wp2_with fail
  refine (sArcs _ _ _ R _ (HA.out.below HB1.out) HS.out HC.out).mono ?_
  rintro e w2 ⟨b2, c2, rfl, ho, hb⟩
  have HL2 := Lib.hid ho
  have HO2 := Lib.hid (HO1.out.below hb)
  have HB2 := Lib.hid (HB1.out.trans (hb.mono HB1.out.size))
  have HG2 : Hid (w2.heap[g]? = w1.heap[g]?) := hb.block g hg1
  have hz1 := HB1.out.size
  have hz2 : w1.heap.size ≤ w2.heap.size := hb.size
  clear ho hb
  go_wp2
  go_loopw [5, 6, 7] (fun kv _ _ wr => ∃ k : Nat, k ≤ (M.arcsL R).length ∧ kv = .int .i64 k ∧ Hid (OwnM wr w.heap.size (.slice (some ⟨g, 0, none⟩) n c1) (M.mk n n (M.matK R k))) ∧ Hid (Same w1.heap.size w2.heap.size w2 wr) ∧ Hid (Below w.heap.size w wr) ∧ Hid (wr.heap[g]? = w1.heap[g]?)) (fun kv _ _ _ => (M.arcsL R).length - (intOf kv).toNat)
  case atStart => exact ⟨0, Nat.zero_le _, rfl, HO2, Same.refl _ _ _, HB2, HG2⟩
  case round =>
    obtain ⟨k, hk, rfl, HO, HSa, HB, HG⟩ := hrel
    clear HO2 HG2
    by_cases hkl : k < (M.arcsL R).length
    · have hki : (k : Int) < ((M.arcsL R).length : Int) := by omega
      obtain ⟨j, i, hj, hi, hcr, he⟩ := M.arcsL_at hkl
      rw [HRn.out] at hj hi
      have HNx : Hid ((M.mk n n (M.matK R k)).set i (((M.mk n n (M.matK R k)).getD i []).set j (M.ent R i j)) = M.mk n n (M.matK R (k + 1))) := M.matK_next hkl he hi
      have hlen := HLn.out
      have HLw : Hid (OwnM wr w1.heap.size (.slice b2 (M.arcsL R).length c2) (M.arcsL R)) := HL2.out.keep HSa.out
      obtain ⟨g2, q2, L2, d2, x0, hgg, -, -, hL2, hx0, r1, r2, -⟩ := HLw.out.at k 0 hkl (by rw [he]; simp)
      obtain ⟨g3, q3, L3, d3, x1, hgg3, -, -, hL3, hx1, r3, r4, -⟩ := HLw.out.at k 1 hkl (by rw [he]; simp)
      subst hgg
      injection hgg3 with hgg3
      injection hgg3 with hgg3
      subst hgg3
      rw [r1] at r3
      injection r3 with r3
      injection r3 with r3 r3b r3c
      injection r3 with r3
      injection r3 with r3
      subst r3 r3b r3c
      rw [he] at hL2 hx0 hx1
      have hL2' : L2 = 2 := hL2
      have hx0' : x0 = (j : Int) := hx0
      have hx1' : x1 = (i : Int) := hx1
      subst hL2' hx0' hx1'
      clear hL2 hx0 hx1 hL3 he hcr HLw
      have hji : (j : Int) < (n : Int) := by omega
      have hii : (i : Int) < (n : Int) := by omega
      generalize (M.arcsL R).length = N at *
      go_wp2
      go_quiet (fail)
      generalize hwq : World.drewN wr _ = wq
      have HOq : Hid (OwnM wq w.heap.size (.slice (some ⟨g, 0, none⟩) n c1) (M.mk n n (M.matK R k))) := by show OwnM _ _ _ _; rw [← hwq]; exact HO.out.below (b_draws _ _)
      have HSq : Hid (Same w1.heap.size w2.heap.size w2 wq) := by show Same _ _ _ _; rw [← hwq]; exact HSa.out
      have HBq : Hid (Below w.heap.size w wq) := by show Below _ _ _; rw [← hwq]; exact below_drewN HB.out _
      have HGq : Hid (wq.heap[g]? = w1.heap[g]?) := by show _ = _; rw [← hwq]; exact HG.out
      clear hwq HO HSa HB HG r1 r2 r4
      obtain ⟨g4, q, c4, q', c', hgg, hq, h1, h2, -, h4, -, h6, ho⟩ := HOq.out.tri (rect_mk _ _ _) i j j hi hj hj
      injection hgg with hgg
      injection hgg with hgg
      subst hgg
      have hne := row_ne h2 h4
      have hql := OwnM.rowLt HO1.out (rect_mk _ _ _) hi n1 HGq.out h1
      obtain ⟨ab, ao, rb, ro, rc, x, hax, hxx, a1, a2⟩ := (HA.out.below HBq.out).rect_ent HR.out i j hi hj
      subst hax
      have hN := ho x
      rw [hxx, HNx.out, ← hxx] at hN
      have HN5 := Lib.hid hN
      have HSn : Hid (Same w1.heap.size w2.heap.size w2 (wq.setCell ⟨q, j, none⟩ (.int .i64 x))) := fun k k1 k2 =>
        (Below.heap_setCell wq ⟨q, j, none⟩ _ k (by show k ≠ q; omega)).trans (HSq.out k k1 k2)
      have HGn : Hid ((wq.setCell ⟨q, j, none⟩ (.int .i64 x)).heap[g]? = w1.heap[g]?) := (Below.heap_setCell wq ⟨q, j, none⟩ _ g (fun e => hne e.symm)).trans HGq.out
      clear hN ho hxx h4
      go_wp2
      go_still_tail 13, (by kernel_rfl)
      repeat still_step
      try refine wpStill_nil ?_
      change wpList _ _ _ _ _ wq.drew
      go_wp2
      go_roundw
      case rel => exact ⟨k + 1, by omega, by go_num, HN5.out.keep (fun _ _ _ => rfl), HSn, HBq.out.drew.setCell hq _, HGn⟩
      case measure => simp [intOf]; omega
    · obtain rfl : k = (M.arcsL R).length := by omega
      have HO5 : Hid (OwnM wr w.heap.size (.slice (some ⟨g, 0, none⟩) n c1) (M.crM R)) := by
        show OwnM _ _ _ _; rw [← M.matK_end, HRn.out]; exact HO.out
      clear HO
      go_wp2
      go_ret
      exact ⟨_, _, rfl, HO5.out, HB.out⟩
set_option maxRecDepth 100000 in
set_option maxHeartbeats 1000000 in
theorem sCriticalMatrix (a : Option Addr) (n cap : Nat) (R : List (List Int)) (w : World) (h : Mat w a n R) :
    Calls Tryz.prog 17 #[.slice a n cap] w (MRes (M.matRes R) w) := by
  have HA := Lib.hid h
  have hRn : R.length = n := h.1
  by_cases hc : M.crCode R = 0
  · obtain ⟨h1, h2⟩ := M.cr_code hc
    have H1 := Lib.hid h1
    have H2 := Lib.hid h2
    have HK := Lib.hid hc
    have HE : Hid (M.matRes R = (M.crM R, 0)) := by show _ = _; unfold M.matRes; rw [if_pos hc]
    clear h hc h1 h2 hRn
    go_enter Tryz.func17, Tryz.ntmps17
    go_wp2_with fail
    refine (sCode _ _ _ R _ HA.out).mono ?_
    rintro e w1 ⟨rfl, hb⟩
    rw [HK.out]
    have HB := Lib.hid hb
    clear hb
    go_wp2_with fail
    refine (sMatrix _ _ _ R _ (HA.out.below HB.out) H1.out H2.out).mono ?_
    rintro e w2 ⟨b2, c2, rfl, ho, hb⟩
    have HO := Lib.hid (ho.mono HB.out.size)
    have HB2 := Lib.hid (HB.out.trans (hb.mono HB.out.size))
    clear ho hb
    go_wp2
    go_ret2
    rw [HE.out]
    exact ⟨_, _, _, rfl, HO.out, HB2.out⟩
  · obtain ⟨k, hk⟩ : ∃ k, k = M.crCode R := ⟨_, rfl⟩
    have HE : Hid (M.matRes R = ([], k)) := by show _ = _; unfold M.matRes; rw [if_neg hc, hk]
    have HK := Lib.hid hk
    have hk0 : (k != 0) = true := by rw [hk]; simpa using hc
    clear h hc hRn hk
    go_enter Tryz.func17, Tryz.ntmps17
    go_wp2_with fail
    refine (sCode _ _ _ R _ HA.out).mono ?_
    rintro e w1 ⟨rfl, hb⟩
    rw [← HK.out]
    have HB := Lib.hid hb
    clear hb
    go_wp2
    go_ret2
    exact MRes.nil HE.out HB.out
end V
end Go.Proofs.YtlljnfljcdljaabGreat
