/- Texts laid together: Cmm, Ndp, Ndm, Rbt, MatH, Hv3. -/
import Derived.Test.YtmhpgnndjagogaaGreatQz15
import Derived.Test.YtmhpgnndjagogaaGreatQz2
import Derived.Test.YtmhpgnndjagogaaGreatQz11
import Derived.StillTailTactics
import Derived.Lib.SlicesCompact
import Derived.Test.YtmhpgnndjagogaaGreatQz12
import Derived.Test.YtmhpgnndjagogaaGreatQz6
import Derived.Test.YtmhpgnndjagogaaGreatQz1
import Derived.Test.YtmhpgnndjagogaaGreatRows
import Derived.WalkKit
import Derived.ProofKit
import Derived.WalkSmall
import Derived.Lib.Hide
import Derived.Deep.OwnRows
import Derived.Maps.AppendAt
set_option linter.unusedSimpArgs false
set_option linter.unusedVariables false
set_option linter.unusedSectionVars false
namespace Go.Proofs.YtmhpgnndjagogaaGreat
namespace M
theorem mem_arcsL {R : List (List Int)} {l : List Int} : l ∈ arcsL R ↔ ∃ j i : Nat, j < R.length ∧ i < R.length ∧ crB R j i = true ∧ l = [(j : Int), (i : Int)] := by
  unfold arcsL arcsP arcRow
  simp only [List.mem_flatMap, List.mem_range]
  constructor
  · rintro ⟨j, hj, i, hi, h⟩
    cases e : crB R j i with
    | false => rw [e] at h; simp at h
    | true => rw [e] at h; simp at h; exact ⟨j, i, hj, hi, e, h⟩
  · rintro ⟨j, i, hj, hi, e, rfl⟩
    exact ⟨j, hj, i, hi, by rw [e]; simp⟩
theorem arcsL_at {R : List (List Int)} {k : Nat} (h : k < (arcsL R).length) : ∃ j i : Nat, j < R.length ∧ i < R.length ∧ crB R j i = true ∧ (arcsL R).getD k [] = [(j : Int), (i : Int)] := by
  refine mem_arcsL.1 ?_
  rw [List.getD_eq_getElem?_getD, List.getElem?_eq_getElem h, Option.getD_some]
  exact List.getElem_mem h
theorem arcsL_len (R : List (List Int)) (hn : R.length ≤ 10) : (arcsL R).length ≤ 100 := by
  have h := arcsP_len R R.length
  have := Nat.mul_le_mul hn hn
  unfold arcsL; omega
def arcHas (R : List (List Int)) (k i j : Nat) : Bool := ((arcsL R).take k).contains [(j : Int), (i : Int)]
def matK (R : List (List Int)) (k i j : Nat) : Int := if arcHas R k i j then ent R i j else -1000000000000000
theorem arcHas_next {R : List (List Int)} {k j i : Nat} (h : k < (arcsL R).length) (e : (arcsL R).getD k [] = [(j : Int), (i : Int)]) (s t : Nat) : arcHas R (k + 1) s t = (arcHas R k s t || (decide (s = i) && decide (t = j))) := by
  unfold arcHas
  have e2 : (arcsL R).take (k + 1) = (arcsL R).take k ++ [[(j : Int), (i : Int)]] := by
    rw [List.take_add_one, ← e, List.getD_eq_getElem?_getD, List.getElem?_eq_getElem h]; rfl
  rw [e2]
  by_cases hst : s = i ∧ t = j
  · obtain ⟨rfl, rfl⟩ := hst
    simp
  · have h1 : (decide (s = i) && decide (t = j)) = false := by
      by_cases a : s = i
      · by_cases b : t = j
        · exact absurd ⟨a, b⟩ hst
        · simp [b]
      · simp [a]
    rw [h1, Bool.or_false]
    have h2 : ([(t : Int), (s : Int)] = [(j : Int), (i : Int)]) = False := by
      simp only [List.cons.injEq, and_true, eq_iff_iff, iff_false]
      intro hh
      exact hst ⟨by omega, by omega⟩
    simp [h2]
theorem matK_zero (R : List (List Int)) (n : Nat) : mk n n (matK R 0) = botM n n := by
  unfold botM
  exact mk_congr fun i _ j _ => by unfold matK arcHas; simp
theorem matK_next {R : List (List Int)} {n k j i : Nat} (h : k < (arcsL R).length) (e : (arcsL R).getD k [] = [(j : Int), (i : Int)]) (hi : i < n) :
    (mk n n (matK R k)).set i (((mk n n (matK R k)).getD i []).set j (ent R i j)) = mk n n (matK R (k + 1)) := by
  rw [mk_set _ _ _ _ _ _ hi]
  refine mk_congr fun s _ t _ => ?_
  unfold matK
  rw [arcHas_next h e]
  by_cases a : s = i
  · by_cases b : t = j
    · subst a b; simp
    · rw [if_pos a, if_neg b]; simp [b]
  · rw [if_neg a]; simp [a]
theorem matK_end (R : List (List Int)) : mk R.length R.length (matK R (arcsL R).length) = crM R := by
  unfold crM
  refine mk_congr fun i hi j hj => ?_
  unfold matK crF arcHas
  rw [List.take_length]
  have : (arcsL R).contains [(j : Int), (i : Int)] = crB R j i := by
    apply Bool.eq_iff_iff.2
    rw [List.contains_iff_mem, mem_arcsL]
    constructor
    · rintro ⟨j', i', -, -, h, e⟩
      simp only [List.cons.injEq, and_true] at e
      rw [show j = j' by omega, show i = i' by omega]; exact h
    · intro h; exact ⟨j, i, hj, hi, h, rfl⟩
  rw [this]
theorem matRes_ok (R : List (List Int)) : okM (matRes R).1 := by
  unfold matRes
  by_cases h : crCode R = 0
  · rw [if_pos h]
    obtain ⟨h1, h2⟩ := cr_code h
    obtain ⟨n1, n2, hA⟩ := sq_sm h1
    obtain ⟨k1, k2⟩ := sqB_t h1
    right
    show isMat (crM R) = true
    unfold crM
    refine isMat_mk n1 n2 n1 n2 fun i hi j hj => ?_
    unfold crF
    split
    · exact (isMat_t k1).2.2.2.2.2 i hi j (by rw [← k2]; exact hj)
    · simp [isVal]
  · rw [if_neg h]; exact .inl rfl
end M
namespace V
set_option maxRecDepth 100000
open Go.RowKit
theorem OwnM.rowLt {w w' : World} {B n cap g i q m c : Nat} {R : List (List Int)} (h : OwnM w B (.slice (some ⟨g, 0, none⟩) n cap) R) (hr : Rect R n n) (hi : i < n) (hn : 1 ≤ n) (hg : w'.heap[g]? = w.heap[g]?)
    (hc : w'.cell? ⟨g, i, none⟩ = some (.slice (some ⟨q, 0, none⟩) m c)) : q < w.heap.size := by
  have e : w.cell? ⟨g, i, none⟩ = some (.slice (some ⟨q, 0, none⟩) m c) := (World.cell?_of_block (w := w') (a := ⟨g, i, none⟩) hg.symm).trans hc
  obtain ⟨g3, q3, c3', -, -, hgg, -, hrow3, hx3, -⟩ := h.tri hr i 0 0 hi (by omega) (by omega)
  injection hgg with hgg
  injection hgg with hgg
  subst hgg
  rw [e] at hrow3
  injection hrow3 with h1
  injection h1 with h1
  injection h1 with h1
  injection h1 with h1
  subst h1
  exact cell_lt hx3
set_option maxRecDepth 100000 in
set_option maxHeartbeats 4000000 in
theorem sMatrix (a : Option Addr) (n cap : Nat) (R : List (List Int)) (w : World) (h : Mat w a n R) (hs : M.sqB R = true) (hc : M.hasCyc (M.ent R) R.length = true) :
    Calls Tryz.prog 149 #[.slice a n cap] w (MPost n (M.crM R) w) := by
  have HA := Lib.hid h
  have HRn := Lib.hid h.1
  have HS := Lib.hid hs
  have HC := Lib.hid hc
  obtain ⟨hr, n1, n2, -⟩ := sq_parts h hs
  have HR := Lib.hid hr
  have HLn := Lib.hid (M.arcsL_len R (by rw [h.1]; exact n2))
  clear h hs hc hr
  go_enter Tryz.func149, Tryz.ntmps149
  go_wp2_with fail
  refine (sBottom n n _ (by omega) (by omega)).mono ?_
  rintro e w1 ⟨b1, c1, rfl, ho, hb⟩
  rw [← M.matK_zero R n] at ho
  obtain ⟨g, q0, L0, c0, x0, hgg, hgB, -⟩ := ho.at 0 0 (by omega) (by rw [(rect_mk n n _).2 0 (by omega)]; omega)
  subst hgg
  have HO1 := Lib.hid ho
  have HB1 := Lib.hid hb
  have hg1 : g < w1.heap.size := by
    obtain ⟨g3, q3, c3', -, -, hgg, -, hrow3, -⟩ := ho.tri (rect_mk _ _ _) 0 0 0 (by omega) (by omega) (by omega)
    injection hgg with hgg
    injection hgg with hgg
    subst hgg
    exact cell_lt hrow3
  clear ho hb hgB
  go_wp2_with fail
  refine (sArcs _ _ _ R _ (HA.out.below HB1.out) HS.out HC.out).mono ?_
  rintro e w2 ⟨b2, c2, rfl, ho, hb⟩
  have HL2 := Lib.hid ho
  have HO2 := Lib.hid (HO1.out.below hb)
  have HB2 := Lib.hid (HB1.out.trans (hb.mono HB1.out.size))
  have HG2 : Hid (w2.heap[g]? = w1.heap[g]?) := hb.block g hg1
  have hz1 := HB1.out.size
  have hz2 : w1.heap.size ≤ w2.heap.size := hb.size
  clear ho hb
  go_wp2
  go_loopw [5, 6, 7] (fun kv _ _ wr => ∃ k : Nat, k ≤ (M.arcsL R).length ∧ kv = .int .i64 k ∧ Hid (OwnM wr w.heap.size (.slice (some ⟨g, 0, none⟩) n c1) (M.mk n n (M.matK R k))) ∧ Hid (Same w1.heap.size w2.heap.size w2 wr) ∧ Hid (Below w.heap.size w wr) ∧ Hid (wr.heap[g]? = w1.heap[g]?)) (fun kv _ _ _ => (M.arcsL R).length - (intOf kv).toNat)
  case atStart => exact ⟨0, Nat.zero_le _, rfl, HO2, Same.refl _ _ _, HB2, HG2⟩
  case round =>
    obtain ⟨k, hk, rfl, HO, HSa, HB, HG⟩ := hrel
    clear HO2 HG2
    by_cases hkl : k < (M.arcsL R).length
    · have hki : (k : Int) < ((M.arcsL R).length : Int) := by omega
      obtain ⟨j, i, hj, hi, hcr, he⟩ := M.arcsL_at hkl
      rw [HRn.out] at hj hi
      have HNx : Hid ((M.mk n n (M.matK R k)).set i (((M.mk n n (M.matK R k)).getD i []).set j (M.ent R i j)) = M.mk n n (M.matK R (k + 1))) := M.matK_next hkl he hi
      have hlen := HLn.out
      have HLw : Hid (OwnM wr w1.heap.size (.slice b2 (M.arcsL R).length c2) (M.arcsL R)) := HL2.out.keep HSa.out
      obtain ⟨g2, q2, L2, d2, x0, hgg, -, -, hL2, hx0, r1, r2, -⟩ := HLw.out.at k 0 hkl (by rw [he]; simp)
      obtain ⟨g3, q3, L3, d3, x1, hgg3, -, -, hL3, hx1, r3, r4, -⟩ := HLw.out.at k 1 hkl (by rw [he]; simp)
      subst hgg
      injection hgg3 with hgg3
      injection hgg3 with hgg3
      subst hgg3
      rw [r1] at r3
      injection r3 with r3
      injection r3 with r3 r3b r3c
      injection r3 with r3
      injection r3 with r3
      subst r3 r3b r3c
      rw [he] at hL2 hx0 hx1
      have hL2' : L2 = 2 := hL2
      have hx0' : x0 = (j : Int) := hx0
      have hx1' : x1 = (i : Int) := hx1
      subst hL2' hx0' hx1'
      clear hL2 hx0 hx1 hL3 he hcr HLw
      have hji : (j : Int) < (n : Int) := by omega
      have hii : (i : Int) < (n : Int) := by omega
      generalize (M.arcsL R).length = N at *
      go_wp2
      go_quiet (fail)
      generalize hwq : World.drewN wr _ = wq
      have HOq : Hid (OwnM wq w.heap.size (.slice (some ⟨g, 0, none⟩) n c1) (M.mk n n (M.matK R k))) := by show OwnM _ _ _ _; rw [← hwq]; exact HO.out.below (b_draws _ _)
      have HSq : Hid (Same w1.heap.size w2.heap.size w2 wq) := by show Same _ _ _ _; rw [← hwq]; exact HSa.out
      have HBq : Hid (Below w.heap.size w wq) := by show Below _ _ _; rw [← hwq]; exact below_drewN HB.out _
      have HGq : Hid (wq.heap[g]? = w1.heap[g]?) := by show _ = _; rw [← hwq]; exact HG.out
      clear hwq HO HSa HB HG r1 r2 r4
      obtain ⟨g4, q, c4, q', c', hgg, hq, h1, h2, -, h4, -, h6, ho⟩ := HOq.out.tri (rect_mk _ _ _) i j j hi hj hj
      injection hgg with hgg
      injection hgg with hgg
      subst hgg
      have hne := row_ne h2 h4
      have hql := OwnM.rowLt HO1.out (rect_mk _ _ _) hi n1 HGq.out h1
      obtain ⟨ab, ao, rb, ro, rc, x, hax, hxx, a1, a2⟩ := (HA.out.below HBq.out).rect_ent HR.out i j hi hj
      subst hax
      have hN := ho x
      rw [hxx, HNx.out, ← hxx] at hN
      have HN5 := Lib.hid hN
      have HSn : Hid (Same w1.heap.size w2.heap.size w2 (wq.setCell ⟨q, j, none⟩ (.int .i64 x))) := fun k k1 k2 =>
        (Below.heap_setCell wq ⟨q, j, none⟩ _ k (by show k ≠ q; omega)).trans (HSq.out k k1 k2)
      have HGn : Hid ((wq.setCell ⟨q, j, none⟩ (.int .i64 x)).heap[g]? = w1.heap[g]?) := (Below.heap_setCell wq ⟨q, j, none⟩ _ g (fun e => hne e.symm)).trans HGq.out
      clear hN ho hxx h4
      go_wp2
      go_still_tail 13, (by kernel_rfl)
      repeat still_step
      try refine wpStill_nil ?_
      change wpList _ _ _ _ _ wq.drew
      go_wp2
      go_roundw
      case rel => exact ⟨k + 1, by omega, by go_num, HN5.out.keep (fun _ _ _ => rfl), HSn, HBq.out.drew.setCell hq _, HGn⟩
      case measure => simp [intOf]; omega
    · obtain rfl : k = (M.arcsL R).length := by omega
      have HO5 : Hid (OwnM wr w.heap.size (.slice (some ⟨g, 0, none⟩) n c1) (M.crM R)) := by
        show OwnM _ _ _ _; rw [← M.matK_end, HRn.out]; exact HO.out
      clear HO
      go_wp2
      go_ret
      exact ⟨_, _, rfl, HO5.out, HB.out⟩
end V
end Go.Proofs.YtmhpgnndjagogaaGreat

namespace Go.Proofs.YtmhpgnndjagogaaGreat
namespace M
theorem uniq_lt : ∀ {l k : List Int}, l.Pairwise (fun x y => x < y) → k.Pairwise (fun x y => x < y) → (∀ x, x ∈ l ↔ x ∈ k) → l = k := by
  intro l
  induction l with
  | nil =>
    intro k _ _ h
    cases k with
    | nil => rfl
    | cons y k => exact absurd ((h y).2 (List.mem_cons_self ..)) (List.not_mem_nil)
  | cons x l ih =>
    intro k hl hk h
    cases k with
    | nil => exact absurd ((h x).1 (List.mem_cons_self ..)) (List.not_mem_nil)
    | cons y k =>
      obtain ⟨l1, l2⟩ := List.pairwise_cons.1 hl
      obtain ⟨k1, k2⟩ := List.pairwise_cons.1 hk
      have hxy : x = y := by
        rcases List.mem_cons.1 ((h x).1 (List.mem_cons_self ..)) with e | e
        · exact e
        · rcases List.mem_cons.1 ((h y).2 (List.mem_cons_self ..)) with e2 | e2
          · exact e2.symm
          · have := k1 x e; have := l1 y e2; omega
      subst hxy
      rw [ih l2 k2 fun z => ?_]
      constructor
      · intro hz
        rcases List.mem_cons.1 ((h z).1 (List.mem_cons_of_mem _ hz)) with e | e
        · have := l1 z hz; omega
        · exact e
      · intro hz
        rcases List.mem_cons.1 ((h z).2 (List.mem_cons_of_mem _ hz)) with e | e
        · have := k1 z hz; omega
        · exact e
theorem cmp_mem (d : Array Int) (m : Nat) (x : Int) : x ∈ Lib.compactUpTo d m ↔ ∃ j, j < m ∧ d[j]! = x := by
  induction m with
  | zero => simp [Lib.compactUpTo]
  | succ m ih =>
    rw [Lib.compactUpTo_succ, List.mem_append, ih]
    constructor
    · rintro (⟨j, hj, e⟩ | h)
      · exact ⟨j, by omega, e⟩
      · split at h
        · exact ⟨m, by omega, (List.mem_singleton.1 h).symm⟩
        · exact absurd h (List.not_mem_nil)
    · rintro ⟨j, hj, e⟩
      by_cases hjm : j < m
      · exact .inl ⟨j, hjm, e⟩
      · obtain rfl : j = m := by omega
        by_cases hk : Lib.keeps d j = true
        · right; rw [if_pos hk, e]; exact List.mem_singleton.2 rfl
        · left
          simp only [Lib.keeps, decide_eq_true_eq, not_or, Decidable.not_not] at hk
          exact ⟨j - 1, by omega, by rw [← hk.2, e]⟩
theorem cmp_lt (d : Array Int) (m : Nat) (hm : m ≤ d.size) (hs : ∀ j, j + 1 < d.size → d[j]! ≤ d[j + 1]!) : (Lib.compactUpTo d m).Pairwise (fun x y => x < y) ∧ ∀ x, x ∈ Lib.compactUpTo d m → x ≤ d[m - 1]! := by
  induction m with
  | zero => exact ⟨by simp [Lib.compactUpTo], fun x h => by simp [Lib.compactUpTo] at h⟩
  | succ m ih =>
    obtain ⟨i1, i2⟩ := ih (by omega)
    have hstep : ∀ x, x ∈ Lib.compactUpTo d m → x ≤ d[m]! := fun x hx => by
      have h1 := i2 x hx
      obtain ⟨j, hj, -⟩ := (cmp_mem d m x).1 hx
      have h2 := hs (m - 1) (by omega)
      rw [show m - 1 + 1 = m by omega] at h2
      omega
    rw [Lib.compactUpTo_succ, Nat.add_sub_cancel]
    by_cases hk : Lib.keeps d m = true
    · rw [if_pos hk]
      refine ⟨List.pairwise_append.2 ⟨i1, List.pairwise_singleton .., fun x hx y hy => ?_⟩, fun x hx => ?_⟩
      · obtain rfl := List.mem_singleton.1 hy
        have h1 := i2 x hx
        obtain ⟨j, hj, -⟩ := (cmp_mem d m x).1 hx
        have h2 := hs (m - 1) (by omega)
        rw [show m - 1 + 1 = m by omega] at h2
        simp only [Lib.keeps, decide_eq_true_eq] at hk
        rcases hk with hk | hk
        · omega
        · omega
      · rcases List.mem_append.1 hx with h | h
        · exact hstep x h
        · rw [List.mem_singleton.1 h]; exact Int.le_refl _
    · rw [if_neg hk, List.append_nil]
      exact ⟨i1, hstep⟩
theorem srt_mem (ss : List Int) (x : Int) : x ∈ Lib.compact (ss.mergeSort fun x y => decide (x ≤ y)) ↔ x ∈ ss := by
  unfold Lib.compact
  rw [cmp_mem, ← (List.mergeSort_perm ss fun x y => decide (x ≤ y)).mem_iff]
  generalize (ss.mergeSort fun x y => decide (x ≤ y)) = l
  rw [List.mem_iff_getElem]
  constructor
  · rintro ⟨j, hj, e⟩
    exact ⟨j, hj, by rw [← e]; simp [hj]⟩
  · rintro ⟨j, hj, e⟩
    exact ⟨j, hj, by rw [← e]; simp [hj]⟩
theorem srt_lt (ss : List Int) : (Lib.compact (ss.mergeSort fun x y => decide (x ≤ y))).Pairwise (fun x y => x < y) := by
  have hp : (ss.mergeSort fun x y => decide (x ≤ y)).Pairwise (fun x y => decide (x ≤ y) = true) :=
    List.pairwise_mergeSort (fun a b c h1 h2 => by simp only [decide_eq_true_eq] at *; omega) (fun a b => by simp only [Bool.or_eq_true, decide_eq_true_eq]; omega) ss
  unfold Lib.compact
  generalize (ss.mergeSort fun x y => decide (x ≤ y)) = l at *
  refine (cmp_lt l.toArray l.length (by simp) fun j hj => ?_).1
  have hj' : j + 1 < l.length := by simpa using hj
  have := List.pairwise_iff_getElem.1 hp j (j + 1) (by omega) hj' (by omega)
  simp only [decide_eq_true_eq] at this
  simpa [hj', show j < l.length by omega] using this
theorem nodesL_lt (R : List (List Int)) : (nodesL R).Pairwise (fun x y => x < y) := by
  unfold nodesL nodesP
  rw [List.pairwise_map]
  exact (List.pairwise_lt_range.filter _).imp fun h => by omega
theorem mem_nodesL {R : List (List Int)} {x : Int} : x ∈ nodesL R ↔ ∃ f : Nat, f < R.length ∧ crN R f = true ∧ x = f := by
  unfold nodesL nodesP
  rw [List.mem_map]
  constructor
  · rintro ⟨f, hf, rfl⟩
    obtain ⟨h1, h2⟩ := List.mem_filter.1 hf
    exact ⟨f, List.mem_range.1 h1, h2, rfl⟩
  · rintro ⟨f, h1, h2, rfl⟩
    exact ⟨f, List.mem_filter.2 ⟨List.mem_range.2 h1, h2⟩, rfl⟩
/-- The first nodes of all arcs, sorted and without repeats. -/
theorem srt_nodes {R : List (List Int)} {ss : List Int} (h : ∀ x, x ∈ ss ↔ ∃ f t : Nat, f < R.length ∧ t < R.length ∧ crB R f t = true ∧ x = f) : Lib.compact (ss.mergeSort fun x y => decide (x ≤ y)) = nodesL R := by
  refine uniq_lt (srt_lt ss) (nodesL_lt R) fun x => ?_
  rw [srt_mem, h, mem_nodesL]
  unfold crN
  constructor
  · rintro ⟨f, t, hf, ht, hc, e⟩
    exact ⟨f, hf, List.any_eq_true.2 ⟨t, List.mem_range.2 ht, hc⟩, e⟩
  · rintro ⟨f, hf, hc, e⟩
    obtain ⟨t, ht, hc⟩ := List.any_eq_true.1 hc
    exact ⟨f, t, hf, List.mem_range.1 ht, hc, e⟩
theorem nodesL_len (R : List (List Int)) : (nodesL R).length ≤ R.length := by
  unfold nodesL nodesP
  rw [List.length_map]
  have := List.length_filter_le (crN R) (List.range R.length)
  simpa using this
end M
end Go.Proofs.YtmhpgnndjagogaaGreat

namespace Go.Proofs.YtmhpgnndjagogaaGreat
namespace M
/-- The first nodes of the first k arcs, each once. -/
def ndK (R : List (List Int)) : Nat → List Int
  | 0 => []
  | k + 1 => if hasB (ndK R k) (((arcsL R).getD k []).getD 0 0) then ndK R k else ndK R k ++ [((arcsL R).getD k []).getD 0 0]
theorem ndK_len (R : List (List Int)) (k : Nat) : (ndK R k).length ≤ k := by
  induction k with
  | zero => exact Nat.le_refl _
  | succ k ih =>
    unfold ndK
    split
    · omega
    · rw [List.length_append]; simp; omega
/-- The arcs are sorted by their first nodes. -/
theorem arcs_sorted (R : List (List Int)) : (arcsL R).Pairwise (fun x y => x.getD 0 0 ≤ y.getD 0 0) := by
  have hrow : ∀ j k, (∀ l, l ∈ arcRow R j k → l.getD 0 0 = (j : Int)) := fun j k l hl => by
    unfold arcRow at hl
    obtain ⟨i, -, hi⟩ := List.mem_flatMap.1 hl
    split at hi
    · rw [List.mem_singleton.1 hi]; rfl
    · exact absurd hi (List.not_mem_nil)
  have key : ∀ k, (arcsP R k).Pairwise (fun x y => x.getD 0 0 ≤ y.getD 0 0) ∧ ∀ l, l ∈ arcsP R k → l.getD 0 0 < (k : Int) := fun k => by
    induction k with
    | zero => exact ⟨by simp [arcsP], fun l h => by simp [arcsP] at h⟩
    | succ k ih =>
      rw [arcsP_next]
      refine ⟨List.pairwise_append.2 ⟨ih.1, ?_, fun x hx y hy => ?_⟩, fun l hl => ?_⟩
      · refine List.pairwise_iff_getElem.2 fun i j hi hj _ => ?_
        rw [hrow k R.length _ (List.getElem_mem hi), hrow k R.length _ (List.getElem_mem hj)]
        exact Int.le_refl _
      · have := ih.2 x hx; rw [hrow k R.length y hy]; omega
      · rcases List.mem_append.1 hl with h | h
        · have := ih.2 l h; omega
        · rw [hrow k R.length l h]; omega
  exact (key R.length).1
theorem getD_at {L : List (List Int)} {k : Nat} (h : k < L.length) : L.getD k [] = L[k] := by
  rw [List.getD_eq_getElem?_getD, List.getElem?_eq_getElem h, Option.getD_some]
theorem ndK_t (R : List (List Int)) (k : Nat) (hk : k ≤ (arcsL R).length) : (ndK R k).Pairwise (fun x y => x < y) ∧ ∀ x, x ∈ ndK R k ↔ ∃ j, j < k ∧ ((arcsL R).getD j []).getD 0 0 = x := by
  induction k with
  | zero => exact ⟨List.Pairwise.nil, fun x => ⟨fun h => absurd h (List.not_mem_nil), fun ⟨j, hj, _⟩ => absurd hj (Nat.not_lt_zero j)⟩⟩
  | succ k ih =>
    obtain ⟨i1, i2⟩ := ih (by omega)
    have hle : ∀ x, x ∈ ndK R k → x ≤ ((arcsL R).getD k []).getD 0 0 := fun x hx => by
      obtain ⟨j, hj, e⟩ := (i2 x).1 hx
      have := List.pairwise_iff_getElem.1 (arcs_sorted R) j k (by omega) (by omega) hj
      rw [← getD_at (by omega), ← getD_at (by omega), e] at this
      exact this
    unfold ndK
    by_cases h : hasB (ndK R k) (((arcsL R).getD k []).getD 0 0) = true
    · rw [if_pos h]
      refine ⟨i1, fun x => (i2 x).trans ⟨fun ⟨j, hj, e⟩ => ⟨j, by omega, e⟩, fun ⟨j, hj, e⟩ => ?_⟩⟩
      by_cases hjk : j < k
      · exact ⟨j, hjk, e⟩
      · obtain rfl : j = k := by omega
        rw [← e]
        exact (i2 _).1 (hasB_iff.1 h)
    · rw [if_neg h]
      have hn := fun hm => h (hasB_iff.2 hm)
      refine ⟨List.pairwise_append.2 ⟨i1, List.pairwise_singleton .., fun x hx y hy => ?_⟩, fun x => ?_⟩
      · rw [List.mem_singleton.1 hy]
        have h1 := hle x hx
        have h2 : x ≠ ((arcsL R).getD k []).getD 0 0 := fun e => hn (e ▸ hx)
        omega
      · rw [List.mem_append, i2 x, List.mem_singleton]
        constructor
        · rintro (⟨j, hj, e⟩ | e)
          · exact ⟨j, by omega, e⟩
          · exact ⟨k, by omega, e.symm⟩
        · rintro ⟨j, hj, e⟩
          by_cases hjk : j < k
          · exact .inl ⟨j, hjk, e⟩
          · obtain rfl : j = k := by omega
            exact .inr e.symm
theorem ndK_end (R : List (List Int)) : ndK R (arcsL R).length = nodesL R := by
  obtain ⟨h1, h2⟩ := ndK_t R _ (Nat.le_refl _)
  refine uniq_lt h1 (nodesL_lt R) fun x => ?_
  rw [h2, mem_nodesL]
  unfold crN
  constructor
  · rintro ⟨j, hj, e⟩
    obtain ⟨f, t, hf, ht, hc, he⟩ := arcsL_at hj
    rw [he] at e
    exact ⟨f, hf, List.any_eq_true.2 ⟨t, List.mem_range.2 ht, hc⟩, e.symm⟩
  · rintro ⟨f, hf, hc, rfl⟩
    obtain ⟨t, ht, hc⟩ := List.any_eq_true.1 hc
    obtain ⟨k, hk, e⟩ := List.mem_iff_getElem.1 (mem_arcsL.2 ⟨f, t, hf, List.mem_range.1 ht, hc, rfl⟩ : [(f : Int), (t : Int)] ∈ arcsL R)
    exact ⟨k, hk, by rw [getD_at hk, e]; rfl⟩
theorem nodesRes_len (R : List (List Int)) : (nodesRes R).1.length ≤ 10 := by
  unfold nodesRes
  by_cases h : crCode R = 0
  · rw [if_pos h]
    obtain ⟨-, n2, -⟩ := sq_sm (cr_code h).1
    exact Nat.le_trans (nodesL_len R) n2
  · rw [if_neg h]; simp
end M
namespace V
set_option maxRecDepth 100000
open Go.RowKit
set_option maxRecDepth 100000 in
set_option maxHeartbeats 4000000 in
theorem sNodes6 (a : Option Addr) (n cap : Nat) (R : List (List Int)) (w : World) (h : Mat w a n R) (hs : M.sqB R = true) (hc : M.hasCyc (M.ent R) R.length = true) :
    Calls Tryz.prog 150 #[.slice a n cap] w fun e w' => ∃ b c, e = .returned (.slice b (M.nodesL R).length c) ∧ Own w' w.heap.size (.slice b (M.nodesL R).length c) (M.nodesL R) ∧ Below w.heap.size w w' := by
  have HA := Lib.hid h
  have HRn := Lib.hid h.1
  have HS := Lib.hid hs
  have HC := Lib.hid hc
  obtain ⟨hr, n1, n2, -⟩ := sq_parts h hs
  have HLn := Lib.hid (M.arcsL_len R (by rw [h.1]; exact n2))
  clear h hs hc hr
  go_enter Tryz.func150, Tryz.ntmps150
  go_wp2_with fail
  refine (sArcs _ _ _ R _ HA.out HS.out HC.out).mono ?_
  rintro e w2 ⟨b2, c2, rfl, ho, hb⟩
  have HL2 := Lib.hid ho
  have HB2 := Lib.hid hb
  clear ho hb
  go_wp2
  go_loopw [4, 5] (fun o kv wr => ∃ (k : Nat) (b : Option Addr) (c : Nat), k ≤ (M.arcsL R).length ∧ kv = .int .i64 k ∧ o = .slice b (M.ndK R k).length c ∧ Hid (Own wr w2.heap.size (.slice b (M.ndK R k).length c) (M.ndK R k)) ∧ Hid (Below w2.heap.size w2 wr)) (fun _ kv _ => (M.arcsL R).length - (intOf kv).toNat)
  case atStart => exact ⟨0, _, _, Nat.zero_le _, rfl, rfl, own_lit0 _ _ (Nat.le_refl _), b_alloc _ _⟩
  case round =>
    obtain ⟨k, b, c, hk, rfl, rfl, HO, HB⟩ := hrel
    by_cases hkl : k < (M.arcsL R).length
    · have hki : (k : Int) < ((M.arcsL R).length : Int) := by omega
      obtain ⟨j, i, hj, hi, hcr, he⟩ := M.arcsL_at hkl
      have hlen := HLn.out
      have hnl := M.ndK_len R k
      obtain ⟨g2, q2, L2, d2, x0, hgg, -, -, hL2, hx0, r1, r2, -⟩ := (HL2.out.below HB.out).at k 0 hkl (by rw [he]; simp)
      subst hgg
      have hnx : M.ndK R (k + 1) = if M.hasB (M.ndK R k) x0 then M.ndK R k else M.ndK R k ++ [x0] := by rw [hx0]; rfl
      rw [he] at hL2 hx0
      have hL2' : L2 = 2 := hL2
      subst hL2'
      have HI := Lib.hid HO.out.ints'
      obtain ⟨hb, hhb⟩ : ∃ hb, hb = M.hasB (M.ndK R k) x0 := ⟨_, rfl⟩
      rw [← hhb] at hnx
      have HH := Lib.hid hhb
      clear hL2 hx0 he hcr hhb
      generalize (M.arcsL R).length = N at *
      generalize hnd : M.ndK R k = l at *
      clear hnd
      cases hb with
      | true =>
        have HN : Hid (M.ndK R (k + 1) = l) := hnx
        clear hnx
        go_wp2_with (go_at_call 92; refine (sHas _ _ _ l _ _ (by exact HI.out)).mono ?_; rintro e w' ⟨rfl, rfl⟩; rw [← HH.out])
        go_roundw
        case rel => exact ⟨k + 1, b, c, by omega, by go_num, by rw [HN.out], by show Own _ _ _ _; rw [HN.out]; exact HO.out, HB⟩
        case measure => simp [intOf]; omega
      | false =>
        have HN : Hid (M.ndK R (k + 1) = l ++ [x0]) := hnx
        clear hnx
        go_wp2_with (first | (go_at_call 92; refine (sHas _ _ _ l _ _ (by exact HI.out)).mono ?_; rintro e w' ⟨rfl, rfl⟩; rw [← HH.out]) | (at_builtin; refine append1 _ rfl (.tmp 24) (.tmp 31) rfl w2.heap.size _ l x0 _ rfl rfl HO.out rfl (by omega) HB.out.size ?_))
        intro b4 c4 w4 hO4 hb4 _
        have HO4 := Lib.hid hO4
        have HB4 := Lib.hid (HB.out.trans hb4)
        rw [← HN.out] at HO4
        clear hO4 hb4
        go_wp2
        go_roundw
        case rel => exact ⟨k + 1, b4, c4, by omega, by go_num, by rw [HN.out, List.length_append]; rfl, by show Own _ _ _ _; rw [HN.out, List.length_append]; rw [HN.out] at HO4; exact HO4.out, HB4⟩
        case measure => simp [intOf]; omega
    · obtain rfl : k = (M.arcsL R).length := by omega
      have HN : Hid (M.ndK R (M.arcsL R).length = M.nodesL R) := M.ndK_end R
      have HO2 : Hid (Own wr w2.heap.size (.slice b (M.nodesL R).length c) (M.nodesL R)) := by show Own _ _ _ _; rw [← HN.out]; exact HO.out
      rw [HN.out]
      clear HO
      go_wp2
      go_ret
      exact ⟨b, c, rfl, HO2.out.mono HB2.out.size, HB2.out.trans (HB.out.mono HB2.out.size)⟩
end V
end Go.Proofs.YtmhpgnndjagogaaGreat

namespace Go.Proofs.YtmhpgnndjagogaaGreat
namespace M
variable {A : Nat → Nat → Int} {n : Nat}
/-- After r rounds. -/
def RI (A : Nat → Nat → Int) (n v r : Nat) (S : Nat → Bool) : Prop := (∀ i, S i = true → Rch A n v i) ∧ ∀ i, RcN A n v r i → S i = true
def MI (A : Nat → Nat → Int) (n v r i : Nat) (S : Nat → Bool) : Prop := RI A n v r S ∧ ∀ j, j < i → RcN A n v (r + 1) j → S j = true
def KI (A : Nat → Nat → Int) (n v r i k : Nat) (S : Nat → Bool) : Prop := MI A n v r i S ∧ ∀ j, j < k → RcN A n v r j → A i j ≠ -1000000000000000 → S i = true
theorem ri_start {v : Nat} (hv : v < n) : RI A n v 0 (upd (fun _ => false) v) :=
  ⟨fun i h => by unfold upd at h; simp at h; subst h; exact rch_self hv, fun i h => by have := rcn_zero h; subst this; unfold upd; simp⟩
theorem ki_set {v r i k : Nat} {S : Nat → Bool} (hi : i < n) (h : KI A n v r i k S) (hs : S k = true) (ha : A i k ≠ -1000000000000000) : KI A n v r i (k + 1) (upd S i) := by
  obtain ⟨⟨⟨h1, h2⟩, h3⟩, h4⟩ := h
  have hm : ∀ j, S j = true → upd S i j = true := fun j hj => by unfold upd; rw [hj, Bool.or_true]
  refine ⟨⟨⟨fun j hj => ?_, fun j hj => hm j (h2 j hj)⟩, fun j hj hr => hm j (h3 j hj hr)⟩, fun j _ _ _ => by unfold upd; simp⟩
  unfold upd at hj
  rw [Bool.or_eq_true, decide_eq_true_eq] at hj
  rcases hj with hj | hj
  · subst hj; exact rch_step (h1 k hs) hi ha
  · exact h1 j hj
theorem ki_skip {v r i k : Nat} {S : Nat → Bool} (h : KI A n v r i k S) (hs : S k = false ∨ A i k = -1000000000000000) : KI A n v r i (k + 1) S := by
  refine ⟨h.1, fun j hj hr ha => ?_⟩
  by_cases e : j = k
  · subst e
    rcases hs with hs | hs
    · rw [h.1.1.2 j hr] at hs; cases hs
    · exact absurd hs ha
  · exact h.2 j (by omega) hr ha
theorem ki_end {v r i : Nat} {S : Nat → Bool} (h : KI A n v r i n S) : MI A n v r (i + 1) S := by
  refine ⟨h.1.1, fun j hj hr => ?_⟩
  by_cases e : j = i
  · subst e
    rcases rcn_next hr with q | ⟨k, hk, q1, -, q2⟩
    · exact h.1.1.2 j q
    · exact h.2 k hk q1 q2
  · exact h.1.2 j (by omega) hr
theorem mi_end {v r : Nat} {S : Nat → Bool} (h : MI A n v r n S) : RI A n v (r + 1) S := ⟨h.1.1, fun i hr => h.2 i (Rch.of hr).lt.2 hr⟩
end M
namespace V
set_option maxRecDepth 100000
open Go.RowKit
theorem infoB1 : (Tryz.prog.info? 4).map (fun i => (i.zero, i.size, i.bytes)) = some (some (.bool false), 1, 1) := by kernel_rfl
theorem infoB : (Tryz.prog.info? 154).map (fun i => (i.zero, i.size, i.bytes)) = some (some (.slice none 0 0), 1, 24) := by kernel_rfl
/-- A table of bools, a row a block. -/
def BT (w : World) (B : Nat) (v : Value) (k n : Nat) (F : Nat → Nat → Bool) : Prop :=
  ∃ V : List Value, V.length = k ∧ w.ownsRow B 154 1 v k V ∧ ∀ i, i < k → ∃ q, B ≤ q ∧ v.ownBlock ≠ some q ∧ V.getD i undef = .slice (some ⟨q, 0, none⟩) n n ∧ w.rowIs q 4 n (fun j => .bool (F i j))
theorem rowIs_lt {w : World} {q n : Nat} {t : TypeId} {f : Nat → Value} (h : w.rowIs q t n f) : q < w.heap.size := by
  obtain ⟨c, hb, -⟩ := h
  exact (Array.getElem?_eq_some_iff.1 hb).1
theorem BT.below {w w' : World} {B k n : Nat} {v : Value} {F : Nat → Nat → Bool} (h : BT w B v k n F) (hb : Below w.heap.size w w') : BT w' B v k n F := by
  obtain ⟨V, h1, h2, h3⟩ := h
  refine ⟨V, h1, ownsRow_keep h2 (fun q hq => hb.block q (own_lt h2 hq).2), fun i hi => ?_⟩
  obtain ⟨q, k1, k2, k3, k4⟩ := h3 i hi
  exact ⟨q, k1, k2, k3, World.rowIs.of_block k4 (hb.block q (rowIs_lt k4))⟩
theorem BT.mono {w : World} {B B' k n : Nat} {v : Value} {F : Nat → Nat → Bool} (h : BT w B v k n F) (hb : B' ≤ B) : BT w B' v k n F := by
  obtain ⟨V, h1, h2, h3⟩ := h
  refine ⟨V, h1, World.ownsRow.mono h2 hb, fun i hi => ?_⟩
  obtain ⟨q, k1, k2, k3, k4⟩ := h3 i hi
  exact ⟨q, by omega, k2, k3, k4⟩
theorem bt_lit (w : World) (B n : Nat) (F : Nat → Nat → Bool) (hB : B ≤ w.heap.size) : BT (w.alloc (.cells #[] 154)) B (.slice (some ⟨w.heap.size, 0, none⟩) 0 0) 0 n F :=
  ⟨[], rfl, World.ownsRow_lit w #[] 0 hB (by decide) rfl, fun i hi => absurd hi (Nat.not_lt_zero i)⟩
/-- A row and an entry. -/
theorem BT.at {w : World} {B k n cap : Nat} {a : Option Addr} {F : Nat → Nat → Bool} (h : BT w B (.slice a k cap) k n F) (i j : Nat) (hi : i < k) (hj : j < n) :
    ∃ g q, a = some ⟨g, 0, none⟩ ∧ w.cell? ⟨g, i, none⟩ = some (.slice (some ⟨q, 0, none⟩) n n) ∧ w.cell? ⟨q, j, none⟩ = some (.bool (F i j)) := by
  obtain ⟨V, h1, h2, h3⟩ := h
  obtain ⟨q, -, -, e, hq⟩ := h3 i hi
  obtain ⟨a', c', hv, -, -, hg⟩ := own_form h2
  injection hv with e1 _ e3
  subst e1 e3
  obtain ⟨g, rfl, -, -⟩ := hg (by omega)
  refine ⟨g, q, rfl, ?_, World.rowIs.cell hq hj⟩
  have := World.ownsRow.cellAt h2 i (by omega)
  rw [this, ← e, List.getD_eq_getElem?_getD, List.getElem?_eq_getElem (by omega)]
  rfl
theorem appendB (w0 w : World) {ops : Array Oper} {rest : List Oper} {o : Oper} {a : Act} {Q : Exit → Act → World → Prop} (hgd : o.guard = none) (s x : Operand)
    (ho : o.op = .call { callee := .builtin .append, args := #[s, x], argTypes := #[152, 152] }) (B : Nat) (v : Value) (k n q : Nat) (F : Nat → Nat → Bool) (hs : a.eval s = v) (hown : BT w0 B v k n F) (hb : Below w0.heap.size w0 w) (hq : w0.heap.size ≤ q) (hro : w.rowIs q 4 n (fun j => .bool (F k j)))
    (hx : a.eval x = .slice (some ⟨w.heap.size, 0, none⟩) 1 1) (hlen : k ≤ 2000000) (hB : B ≤ w0.heap.size)
    (h : ∀ b' c' w', BT w' B (.slice b' (k + 1) c') (k + 1) n F → Below B w w' → wpList Tryz.prog ops Q rest (a.put o.dst (.slice b' (k + 1) c')) w') :
    wpList Tryz.prog ops Q (o :: rest) a (w.alloc (.cells #[.slice (some ⟨q, 0, none⟩) n n] 154)) := by
  obtain ⟨i0, hi, hz0, hz1, hz2⟩ := info_parts infoB
  have hsz := hb.size
  obtain ⟨V, h1, h2, h3⟩ := hown
  have hwV : w.ownsRow B 154 1 v k V := ownsRow_keep h2 (fun k hv => hb.block k (own_lt h2 hv).2)
  have hown2 : (w.alloc (.cells #[.slice (some ⟨q, 0, none⟩) n n] 154)).ownsRow B 154 1 v k V := World.ownsRow.alloc hwV _
  refine wpList_append_own_at (w := w.alloc (.cells #[.slice (some ⟨q, 0, none⟩) n n] 154)) hgd s x 152 ho B 154 i0 (.slice none 0 0) 1 24 Tryz.underlying152 hi hz0 hz1 hz2 rfl (by decide) v _ _ hs hown2 ⟨w.heap.size, 0, none⟩ 1 1 [.slice (some ⟨q, 0, none⟩) n n] hx rfl (cell_one_new _ _ _) ?c2 ?c3 ?c4 ?c5 ?_
  case c2 => intro u hu; simp at hu; subst hu; rfl
  case c3 => unfold maxLen; omega
  case c4 => omega
  case c5 => simp; omega
  · intro v' w' hownV' hgrow hz hvb
    obtain ⟨g1, g2, g3, g4, g5⟩ := hgrow
    have hg : ∀ k, k < w.heap.size → v.ownBlock ≠ some k → w'.heap[k]? = w.heap[k]? := fun k hk hne => by
      rw [g5 k (by simp; omega) (fun e => hne e.symm), Below.heap_alloc _ _ _ hk]
    have hqw := rowIs_lt hro
    have hvq : v.ownBlock ≠ some q := fun e => by have := (own_lt h2 e).2; omega
    have hv'q : ∀ p, p < w.heap.size → v.ownBlock ≠ some p → v'.ownBlock ≠ some p := fun p hp hne e => by
      rcases hvb with k | k
      · exact hne (k ▸ e)
      · rw [k] at e; injection e with e; simp at e; omega
    have hM : BT w' B v' (k + 1) n F := by
      refine ⟨_, by simp [h1], hownV', fun i hi => ?_⟩
      by_cases e : i = k
      · subst e
        refine ⟨q, by omega, hv'q q hqw hvq, ?_, World.rowIs.of_block hro (hg q hqw hvq)⟩
        rw [List.getD_eq_getElem?_getD, List.getElem?_append_right (by omega), h1, Nat.sub_self]; rfl
      · obtain ⟨p, k1, k2, k3, k4⟩ := h3 i (by omega)
        have hp := rowIs_lt k4
        refine ⟨p, k1, hv'q p (by omega) k2, ?_, World.rowIs.of_block k4 ((hg p (by omega) k2).trans (hb.block p hp))⟩
        rw [List.getD_eq_getElem?_getD, List.getElem?_append_left (by omega), ← List.getD_eq_getElem?_getD]; exact k3
    obtain ⟨b', c', hv', _⟩ := own_form hownV'
    subst hv'
    exact h b' c' w' hM (((Below.refl B w).alloc (by omega) _).grown ⟨g1, g2, g3, g4, g5⟩ (by simp; omega) (fun k hk => (own_lt h2 hk).1))
set_option maxRecDepth 100000 in
set_option maxHeartbeats 4000000 in
theorem sReach (a : Option Addr) (n cap : Nat) (R : List (List Int)) (w : World) (h : Sq w a n R) :
    Calls Tryz.prog 178 #[.slice a n cap] w fun e w' => ∃ b c, e = .returned (.slice b n c) ∧ BT w' w.heap.size (.slice b n c) n n (M.rchB (M.ent R) n) ∧ Below w.heap.size w w' := by
  have HSq := Lib.hid h
  obtain ⟨n1, n2⟩ := h.2.2.2
  obtain ⟨ab, aoff, -, -, rfl, -, -⟩ := h.1.rect_first h.2.1 n1
  have hmk := run_make_row' (P := Tryz.prog) 154 4 (.bool false) 1 Tryz.underlying154 infoB1 rfl .i64 .i64 n (by omega) (by omega)
  clear h
  go_enter Tryz.func178, Tryz.ntmps178
  go_wp2
  go_loopw [4, 5, 6, 7, 8, 9] (fun o i _ _ _ _ wr => ∃ (k : Nat) (b : Option Addr) (c : Nat), k ≤ n ∧ i = .int .i64 k ∧ o = .slice b k c ∧ Hid (BT wr w.heap.size (.slice b k c) k n (M.rchB (M.ent R) n)) ∧ Hid (Below w.heap.size w wr)) (fun _ i _ _ _ _ _ => n - (intOf i).toNat)
  case atStart => exact ⟨0, _, 0, Nat.zero_le _, rfl, rfl, bt_lit _ _ _ _ (Nat.le_refl _), b_alloc _ _⟩
  case round =>
    obtain ⟨v, b, c, hv, rfl, rfl, HO, HB⟩ := hrel
    obtain ⟨wo, rfl⟩ : ∃ x, x = wr := ⟨_, rfl⟩
    by_cases hlt : v < n
    · have hvi : (v : Int) < (n : Int) := by omega
      obtain ⟨w1, hw1⟩ : ∃ x, x = wo.alloc (.cells (madeCells #[.bool false] n) 4) := ⟨_, rfl⟩
      have hrow : w1.rowIs wo.heap.size 4 n (fun _ => .bool false) := by rw [hw1]; exact World.rowIs_made _ _ _ _
      have hb1 : Below wo.heap.size wo w1 := by rw [hw1]; exact b_alloc _ _
      have hcv := World.rowIs.cell hrow hlt
      have hfv := World.rowIs.frozen hrow v
      have hset := (World.rowIs.set hrow v (.bool true)).congr (g := fun j => .bool (M.upd (fun _ => false) v j)) fun i hi => by
        unfold M.upd
        by_cases e : i = v <;> simp [e]
      have he : w1.setCell ⟨wo.heap.size, v, none⟩ (.bool true) = wo.alloc (.cells ((madeCells #[.bool false] n).setIfInBounds v (.bool true)) 4) := by rw [hw1]; simp [go_sem]
      rw [he] at hset
      have hbs := hb1.setCell (p := ⟨wo.heap.size, v, none⟩) (Nat.le_refl _) (.bool true)
      rw [he] at hbs
      have HR0 := Lib.hid hset
      have HB0 := Lib.hid hbs
      subst hw1
      clear hrow hset hb1 hbs he
      go_wp2
      clear hcv hfv
      go_loopw [7, 8, 9] (fun t _ _ wr => ∃ (r : Nat) (S : Nat → Bool), r ≤ n ∧ t = .int .i64 r ∧ Hid (wr.rowIs wo.heap.size 4 n (fun j => .bool (S j))) ∧ Hid (Below wo.heap.size wo wr) ∧ Hid (M.RI (M.ent R) n v r S)) (fun t _ _ _ => n - (intOf t).toNat)
      case atStart => exact ⟨0, _, Nat.zero_le _, rfl, HR0, HB0, M.ri_start hlt⟩
      case round =>
        clear HR0 HB0
        obtain ⟨r, S, hr, rfl, HR, HBr, HI⟩ := hrel
        by_cases hrl : r < n
        · have hri : (r : Int) < (n : Int) := by omega
          have HI1 : Hid (M.MI (M.ent R) n v r 0 S) := ⟨HI.out, fun j hj => absurd hj (Nat.not_lt_zero j)⟩
          go_wp2
          go_loopw [8, 9] (fun t _ wr => ∃ (i : Nat) (S : Nat → Bool), i ≤ n ∧ t = .int .i64 i ∧ Hid (wr.rowIs wo.heap.size 4 n (fun j => .bool (S j))) ∧ Hid (Below wo.heap.size wo wr) ∧ Hid (M.MI (M.ent R) n v r i S)) (fun t _ _ => n - (intOf t).toNat)
          case atStart => exact ⟨0, S, Nat.zero_le _, rfl, HR, HBr, HI1⟩
          case round =>
            clear HR HBr HI HI1
            obtain ⟨i, S, hi, rfl, HR, HBr, HI⟩ := hrel
            by_cases hil : i < n
            · have hii : (i : Int) < (n : Int) := by omega
              have HI1 : Hid (M.KI (M.ent R) n v r i 0 S) := ⟨HI.out, fun j hj => absurd hj (Nat.not_lt_zero j)⟩
              go_wp2
              go_loopw [9] (fun t wr => ∃ (k : Nat) (S : Nat → Bool), k ≤ n ∧ t = .int .i64 k ∧ Hid (wr.rowIs wo.heap.size 4 n (fun j => .bool (S j))) ∧ Hid (Below wo.heap.size wo wr) ∧ Hid (M.KI (M.ent R) n v r i k S)) (fun t _ => n - (intOf t).toNat)
              case atStart => exact ⟨0, S, Nat.zero_le _, rfl, HR, HBr, HI1⟩
              case round =>
                clear HR HBr HI HI1
                obtain ⟨k, S, hk, rfl, HR, HBr, HI⟩ := hrel
                by_cases hkl : k < n
                · have hki : (k : Int) < (n : Int) := by omega
                  have hck := World.rowIs.cell HR.out hkl
                  have hci := World.rowIs.cell HR.out hil
                  have hfi := World.rowIs.frozen HR.out i
                  obtain ⟨d, od, rd, rdo, c4, z, hdd, hz, c41, c42⟩ := ((HSq.out.1.below HB.out).below HBr.out).rect_ent HSq.out.2.1 i k hil hkl
                  injection hdd with hdd
                  injection hdd with e1 e2
                  subst e1 e2
                  have HZ := Lib.hid hz
                  clear hz
                  cases e : S k with
                  | false =>
                    rw [e] at hck
                    have HI2 := Lib.hid (M.ki_skip HI.out (.inl e))
                    clear e
                    go_wp2
                    go_roundw
                    case rel => exact ⟨k + 1, S, by omega, by go_num, HR, HBr, HI2⟩
                    case measure => simp [intOf]; omega
                  | true =>
                    rw [e] at hck
                    by_cases hzb : z = -1000000000000000
                    · have HI2 := Lib.hid (M.ki_skip HI.out (.inr (by rw [← HZ.out]; exact hzb)))
                      have hz1 : (z != -1000000000000000) = false := by simp [hzb]
                      clear e hzb
                      go_wp2
                      go_roundw
                      case rel => exact ⟨k + 1, S, by omega, by go_num, HR, HBr, HI2⟩
                      case measure => simp [intOf]; omega
                    · have HI2 := Lib.hid (M.ki_set hil HI.out e (by rw [← HZ.out]; exact hzb))
                      have hz1 : (z != -1000000000000000) = true := by simpa using hzb
                      have HR2 : Hid ((wr.setCell ⟨wo.heap.size, i, none⟩ (.bool true)).rowIs wo.heap.size 4 n (fun j => .bool (M.upd S i j))) := (World.rowIs.set HR.out i (.bool true)).congr (g := fun j => .bool (M.upd S i j)) fun j hj => by
                        unfold M.upd
                        by_cases e : j = i <;> simp [e]
                      have HB2 := Lib.hid (HBr.out.setCell (p := ⟨wo.heap.size, i, none⟩) (Nat.le_refl _) (.bool true))
                      clear e hzb
                      go_wp2
                      go_roundw
                      case rel => exact ⟨k + 1, M.upd S i, by omega, by go_num, HR2, HB2, HI2⟩
                      case measure => simp [intOf]; omega
                · obtain rfl : k = n := by omega
                  go_wp2
                  go_roundw
                  case rel => exact ⟨i + 1, S, by omega, by go_num, HR, HBr, M.ki_end HI.out⟩
                  case measure => simp [intOf]; omega
            · obtain rfl : i = n := by omega
              go_wp2
              go_roundw
              case rel => exact ⟨r + 1, S, by omega, by go_num, HR, HBr, M.mi_end HI.out⟩
              case measure => simp [intOf]; omega
        · obtain rfl : r = n := by omega
          have HRr : Hid (wr.rowIs wo.heap.size 4 r (fun j => .bool (M.rchB (M.ent R) r v j))) := HR.out.congr fun j _ => by rw [M.rch_rounds HI.out.1 HI.out.2 j]
          go_wp2_with (at_builtin; refine appendB wo _ rfl (.tmp 55) (.tmp 57) rfl w.heap.size _ v r wo.heap.size (M.rchB (M.ent R) r) rfl HO.out HBr.out (Nat.le_refl _) HRr.out rfl (by omega) HB.out.size ?_)
          intro b4 c4 w4 hO4 hb4
          have HO4 := Lib.hid hO4
          have HB4 := Lib.hid ((HB.out.trans (HBr.out.mono HB.out.size)).trans hb4)
          clear hO4 hb4
          go_wp2
          go_roundw
          case rel => exact ⟨v + 1, b4, c4, by omega, by go_num, rfl, HO4, HB4⟩
          case measure => simp [intOf]; omega
    · obtain rfl : v = n := by omega
      go_wp2
      go_ret
      exact ⟨_, _, rfl, HO.out, HB.out⟩
end V
end Go.Proofs.YtmhpgnndjagogaaGreat

namespace Go.Proofs.YtmhpgnndjagogaaGreat
namespace M
/-- The least number from k on that fits, within so many. -/
def lv (p : Nat → Bool) : Nat → Nat → Nat
  | 0, k => k
  | f + 1, k => if p k then k else lv p f (k + 1)
theorem lv_is {p : Nat → Bool} {m : Nat} (hm : p m = true) (f : Nat) : ∀ k, k ≤ m → m < k + f → (∀ v, k ≤ v → v < m → p v = false) → lv p f k = m := by
  induction f with
  | zero => intro k h1 h2; omega
  | succ f ih =>
    intro k h1 h2 h3
    by_cases e : k = m
    · subst e; show (if p k then k else _) = _; rw [if_pos hm]
    · show (if p k then k else _) = _
      rw [h3 k (Nat.le_refl _) (by omega), if_neg (by simp)]
      exact ih (k + 1) (by omega) (by omega) fun v h4 h5 => h3 v (by omega) h5
theorem lv_ex {p : Nat → Bool} {n : Nat} (h : ∃ m, m < n ∧ p m = true) : p (lv p n 0) = true ∧ lv p n 0 < n ∧ ∀ v, v < lv p n 0 → p v = false := by
  have key : ∀ n, (∃ m, m < n ∧ p m = true) → ∃ m, m < n ∧ p m = true ∧ ∀ v, v < m → p v = false := by
    intro n
    induction n with
    | zero => rintro ⟨m, hm, _⟩; omega
    | succ n ih =>
      rintro ⟨m, hm, hp⟩
      by_cases e : ∃ m, m < n ∧ p m = true
      · obtain ⟨m, h1, h2, h3⟩ := ih e
        exact ⟨m, by omega, h2, h3⟩
      · refine ⟨m, hm, hp, fun v hv => ?_⟩
        cases h : p v with
        | false => rfl
        | true => exact absurd ⟨v, by omega, h⟩ e
  obtain ⟨m, h1, h2, h3⟩ := key n h
  rw [lv_is h2 n 0 (Nat.zero_le _) (by omega) fun v _ hv => h3 v hv]
  exact ⟨h2, h1, h3⟩
/-- Whether a heaviest path with s + 1 arcs goes on from x by v. -/
def stepB (A : Nat → Nat → Int) (n t s x v : Nat) : Bool := decide (times (cpw A n s t v) (A v x) = cpw A n (s + 1) t x)
def nxt (A : Nat → Nat → Int) (n t s x : Nat) : Nat := lv (stepB A n t s x) n 0
/-- The number of arcs. -/
def arcs (A : Nat → Nat → Int) (n f t : Nat) : Nat := lv (fun s => decide (cpw A n s t f = starF A n t f)) 11 0
/-- The nodes of the path. -/
def xs (A : Nat → Nat → Int) (n t s f : Nat) : Nat → Nat
  | 0 => f
  | k + 1 => nxt A n t (s - 1 - k) (xs A n t s f k)
def hvL (A : Nat → Nat → Int) (n t s f : Nat) (k : Nat) : List Int := (List.range k).map fun i => ((xs A n t s f i : Nat) : Int)
def heavyRes (R : List (List Int)) (f t : Int) : List Int × Int :=
  if sqB R then (if inN R.length f && inN R.length t then (if noPos (ent R) R.length then (if starF (ent R) R.length t.toNat f.toNat = -1000000000000000 then ([], 4)
    else (hvL (ent R) R.length t.toNat (arcs (ent R) R.length f.toNat t.toNat) f.toNat (arcs (ent R) R.length f.toNat t.toNat + 1), 0)) else ([], 5)) else ([], 2)) else ([], 1)
theorem hvL_len (A : Nat → Nat → Int) (n t s f k : Nat) : (hvL A n t s f k).length = k := by simp [hvL]
theorem hvL_succ (A : Nat → Nat → Int) (n t s f k : Nat) : hvL A n t s f (k + 1) = hvL A n t s f k ++ [((xs A n t s f k : Nat) : Int)] := by
  unfold hvL; rw [List.range_succ]; simp
theorem hvL_at (A : Nat → Nat → Int) (n t s f k i : Nat) (h : i < k) : (hvL A n t s f k).getD i 0 = ((xs A n t s f i : Nat) : Int) := by
  simp [hvL, h]
theorem lv_le (p : Nat → Bool) (f : Nat) : ∀ k, lv p f k ≤ k + f := by
  induction f with
  | zero => intro k; exact Nat.le_refl _
  | succ f ih =>
    intro k
    show (if p k then k else _) ≤ _
    split
    · omega
    · have := ih (k + 1); omega
theorem heavyRes_len (R : List (List Int)) (f t : Int) : (heavyRes R f t).1.length ≤ 12 := by
  unfold heavyRes
  split
  · split
    · split
      · split
        · simp
        · rw [hvL_len]
          have := lv_le (fun s => decide (cpw (ent R) R.length s t.toNat f.toNat = starF (ent R) R.length t.toNat f.toNat)) 11 0
          unfold arcs
          omega
      · simp
    · simp
  · simp
section
variable {A : Nat → Nat → Int} {n : Nat} (hn : n ≤ 10) (hA : ∀ i j, i < n → j < n → Sm 1000001000000 (A i j))
include hn hA
/-- There is a number of arcs with which the weight in the star is reached. -/
theorem arcs_is (hp : noPos A n = true) {f t : Nat} (hf : f < n) (ht : t < n) (h : starF A n t f ≠ -1000000000000000) :
    cpw A n (arcs A n f t) t f = starF A n t f ∧ arcs A n f t ≤ 10 ∧ ∀ s, s < arcs A n f t → cpw A n s t f ≠ starF A n t f := by
  have hd := o_diag hn hA hp
  have e1 : o (starF A n t f) = obm (fun i j => o (A i j)) n n t f := by
    unfold starF
    rw [← clo_star hn hA hp ht hf, o_cbm hA n (by omega) t f ht hf]
  obtain ⟨s, hs, hle⟩ := opw_star (f := fun i j => o (A i j)) ht hf (by rw [← e1]; exact fun e => h (o_none.1 e))
  have hge := opw_le hd ht hf s
  have e2 := ole_anti hge hle
  rw [← o_cpw hA s (by omega) t f ht hf, ← e1] at e2
  have e3 := o_inj e2
  obtain ⟨h1, h2, h3⟩ := lv_ex (p := fun s => decide (cpw A n s t f = starF A n t f)) (n := 11) ⟨s, by omega, by simpa using e3⟩
  refine ⟨of_decide_eq_true h1, by unfold arcs; omega, fun s hs => ?_⟩
  have := h3 s hs
  simpa using this
end
section
variable {A : Nat → Nat → Int} {n : Nat} (hA : ∀ i j, i < n → j < n → Sm 1000001000000 (A i j))
include hA
/-- A heaviest path with more than no arcs goes on. -/
theorem nxt_is {t s x : Nat} (hs : s ≤ 10) (ht : t < n) (hx : x < n) (h : cpw A n (s + 1) t x ≠ -1000000000000000) :
    nxt A n t s x < n ∧ times (cpw A n s t (nxt A n t s x)) (A (nxt A n t s x) x) = cpw A n (s + 1) t x ∧ ∀ v, v < nxt A n t s x → times (cpw A n s t v) (A v x) ≠ cpw A n (s + 1) t x := by
  have hex : ∃ v, v < n ∧ stepB A n t s x v = true := by
    have e := o_cpw hA (s + 1) (by omega) t x ht hx
    rcases osum_att n (fun u => omul (opw (fun i j => o (A i j)) n s t u) (o (A u x))) with k | ⟨u, hu, k⟩
    · exact absurd (o_none.1 (e.trans k)) h
    · refine ⟨u, hu, ?_⟩
      unfold stepB
      rw [decide_eq_true_eq]
      refine o_inj ?_
      rw [o_times (cpw_sm hA s t u ht hu) (hA u x hu hx) (by omega) (by omega), o_cpw hA s (by omega) t u ht hu]
      exact (e.trans k).symm
  obtain ⟨h1, h2, h3⟩ := lv_ex hex
  refine ⟨h2, of_decide_eq_true h1, fun v hv => ?_⟩
  have := h3 v hv
  simpa [stepB] using this
theorem nxt_fin {t s x : Nat} (hs : s ≤ 10) (ht : t < n) (hx : x < n) (h : cpw A n (s + 1) t x ≠ -1000000000000000) :
    cpw A n s t (nxt A n t s x) ≠ -1000000000000000 ∧ A (nxt A n t s x) x ≠ -1000000000000000 := by
  obtain ⟨h1, h2, -⟩ := nxt_is hA hs ht hx h
  refine ⟨fun e => h ?_, fun e => h ?_⟩
  · rw [← h2, e, bot_times]
  · rw [← h2, e, times_bot]
/-- Along the path the rest stays a heaviest one. -/
theorem xs_inv {t s f : Nat} (hs : s ≤ 10) (ht : t < n) (hf : f < n) (h : cpw A n s t f ≠ -1000000000000000) (k : Nat) (hk : k ≤ s) :
    xs A n t s f k < n ∧ cpw A n (s - k) t (xs A n t s f k) ≠ -1000000000000000 := by
  induction k with
  | zero => exact ⟨hf, h⟩
  | succ k ih =>
    obtain ⟨h1, h2⟩ := ih (by omega)
    have e : s - k = s - 1 - k + 1 := by omega
    rw [e] at h2
    show nxt A n t (s - 1 - k) (xs A n t s f k) < n ∧ cpw A n (s - (k + 1)) t (nxt A n t (s - 1 - k) (xs A n t s f k)) ≠ _
    rw [show s - (k + 1) = s - 1 - k by omega]
    exact ⟨(nxt_is hA (by omega) ht h1 h2).1, (nxt_fin hA (by omega) ht h1 h2).1⟩
/-- What is left of the weight. -/
theorem xs_need {t s f : Nat} (hs : s ≤ 10) (ht : t < n) (hf : f < n) (h : cpw A n s t f ≠ -1000000000000000) (k : Nat) (hk : k < s) :
    cpw A n (s - (k + 1)) t (xs A n t s f (k + 1)) = cpw A n (s - k) t (xs A n t s f k) - A (xs A n t s f (k + 1)) (xs A n t s f k) := by
  obtain ⟨h1, h2⟩ := xs_inv hA hs ht hf h k (by omega)
  have e : s - k = s - 1 - k + 1 := by omega
  rw [e] at h2
  have h3 := (nxt_is hA (by omega) ht h1 h2).2.1
  have h4 := nxt_fin hA (by omega) ht h1 h2
  rw [show s - (k + 1) = s - 1 - k by omega, e]
  show cpw A n (s - 1 - k) t (nxt A n t (s - 1 - k) (xs A n t s f k)) = _ - A (nxt A n t (s - 1 - k) (xs A n t s f k)) _
  unfold times at h3
  rw [if_neg (by rintro (e | e); exact h4.1 e; exact h4.2 e)] at h3
  omega
theorem xs_end {t s f : Nat} (hs : s ≤ 10) (ht : t < n) (hf : f < n) (h : cpw A n s t f ≠ -1000000000000000) : xs A n t s f s = t := by
  obtain ⟨h1, h2⟩ := xs_inv hA hs ht hf h s (Nat.le_refl _)
  rw [Nat.sub_self] at h2
  have h2 : unit t (xs A n t s f s) ≠ -1000000000000000 := h2
  unfold unit at h2
  split at h2
  · next e => exact e.symm
  · exact absurd rfl h2
end
end M
end Go.Proofs.YtmhpgnndjagogaaGreat

namespace Go.Proofs.YtmhpgnndjagogaaGreat.V
open Go.RowKit

/-- The matrices P, n rows each, in a list of its own; each was made at a world of its own and has stayed since. -/
def Pws (w : World) (B : Nat) (v : Value) (m n : Nat) (P : Nat → List (List Int)) : Prop :=
  ∃ V : List Value, V.length = m ∧ w.ownsRow B 24 1 v m V ∧
    ∀ i, i < m → ∃ (wi : World) (lo : Nat) (b : Option Addr) (c : Nat), V.getD i (.slice none 0 0) = .slice b n c ∧ OwnM wi lo (.slice b n c) (P i) ∧ wi.heap.size ≤ w.heap.size ∧ Same lo wi.heap.size wi w ∧ ∀ k, v.ownBlock = some k → ¬(lo ≤ k ∧ k < wi.heap.size)

theorem OwnM.same {wi w : World} {lo : Nat} {v : Value} {R : List (List Int)} (h : OwnM wi lo v R) (hs : Same lo wi.heap.size wi w) : OwnM w lo v R :=
  h.keep hs
theorem Pws.below {w w' : World} {B : Nat} {v : Value} {m n : Nat} {P : Nat → List (List Int)} (h : Pws w B v m n P) (hb : Below w.heap.size w w') : Pws w' B v m n P := by
  obtain ⟨V, h1, h2, h3⟩ := h
  refine ⟨V, h1, ownsRow_keep h2 (fun k hv => hb.block k (own_lt h2 hv).2), fun i hi => ?_⟩
  obtain ⟨wi, lo, b, c, e, ho, hz, hs, hk⟩ := h3 i hi
  exact ⟨wi, lo, b, c, e, ho, Nat.le_trans hz hb.size, hs.below hb hz, hk⟩
/-- One of the matrices. -/
theorem Pws.at {w : World} {B : Nat} {a : Option Addr} {m n cap : Nat} {P : Nat → List (List Int)} (h : Pws w B (.slice a m cap) m n P) (i : Nat) (hi : i < m) :
    ∃ g b c, a = some ⟨g, 0, none⟩ ∧ w.cell? ⟨g, i, none⟩ = some (.slice b n c) ∧ Mat w b n (P i) := by
  obtain ⟨V, h1, h2, h3⟩ := h
  obtain ⟨a', c', hv, hc, hm, hg⟩ := own_form h2
  injection hv with e1 e2 e3
  subst e1 e3
  obtain ⟨g, rfl, hB, hlt⟩ := hg (by omega)
  obtain ⟨wi, lo, b, c, e, ho, hz, hs, hk⟩ := h3 i hi
  refine ⟨g, b, c, rfl, ?_, (ho.same hs).mat⟩
  rw [World.ownsRow.cellAt h2 i (by omega), ← e]
  simp [show i < V.length by omega]
theorem Pws.caps {w : World} {B : Nat} {a : Option Addr} {m n cap : Nat} {P : Nat → List (List Int)} (h : Pws w B (.slice a m cap) m n P) : m ≤ cap ∧ cap ≤ maxLen := by
  obtain ⟨V, h1, h2, _⟩ := h
  obtain ⟨a', c', hv, k1, k2, _⟩ := own_form h2
  injection hv with e1 e2 e3
  subst e3
  exact ⟨k1, k2⟩
theorem pws_lit1 (w : World) (B n : Nat) (hB : B ≤ w.heap.size) {b : Option Addr} {c : Nat} {M : List (List Int)} (ho : OwnM w B (.slice b n c) M) (P : Nat → List (List Int)) (hP : P 0 = M) :
    Pws (w.alloc (.cells #[.slice b n c] 24)) B (.slice (some ⟨w.heap.size, 0, none⟩) 1 1) 1 n P := by
  refine ⟨[.slice b n c], rfl, World.ownsRow_lit w #[.slice b n c] 1 hB (by decide) rfl, fun i hi => ?_⟩
  obtain rfl : i = 0 := by omega
  refine ⟨w, B, b, c, rfl, by rw [hP]; exact ho, (b_alloc w _).size, (Same.refl B w.heap.size w).below (b_alloc w _) (Nat.le_refl _), fun k hk => ?_⟩
  simp only [Value.ownBlock, Option.some.injEq] at hk
  omega
theorem infoM64 : (Tryz.prog.info? 24).map (fun i => (i.zero, i.size, i.bytes)) = some (some (.slice none 0 0), 1, 24) := by kernel_rfl

set_option maxRecDepth 100000 in
set_option maxHeartbeats 400000 in
theorem sNode (a : Option Addr) (n cap : Nat) (x : Int) (w : World) (hn : n ≤ 1000) : Calls Tryz.prog 90 #[.slice a n cap, .int .i64 x] w fun e w' => e = .returned (.bool (M.inN n x)) ∧ w = w' := by
  go_enter Tryz.func90, Tryz.ntmps90
  go_wp2_with fail
  refine (sIn _ _ _ _).mono ?_
  rintro e w' ⟨rfl, rfl⟩
  go_wp2
  go_ret
  exact ⟨retB (by unfold M.inN; rw [Bool.eq_iff_iff]; simp; omega), rfl⟩
theorem sNode_b (a : Option Addr) (n cap : Nat) (x : Int) (w : World) (b : Bool) (hb : M.inN n x = b) (hn : n ≤ 1000) : Calls Tryz.prog 90 #[.slice a n cap, .int .i64 x] w fun e w' => e = .returned (.bool b) ∧ w = w' := by
  subst hb; exact sNode a n cap x w hn
end Go.Proofs.YtmhpgnndjagogaaGreat.V
