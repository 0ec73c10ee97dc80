/- Texts laid together: Ndp, Ndm, Srt, Nds, Rat4, OpenM. -/
import Derived.Test.YtmhpgnndjagogaaQc12
import Derived.Lib.SlicesCompact
import Derived.Test.YtmhpgnndjagogaaQc17
import Derived.Test.YtmhpgnndjagogaaQc4
import Derived.Test.YtmhpgnndjagogaaQc15
import Derived.Ground.SlgnProg
import Derived.Shelf.SlicesG.CompactI
import Derived.Shelf.SlicesG.Cells
import Derived.Ground.SlgmProg
import Derived.Shelf.SortM.Plain
import Derived.Shelf.SortM.SortNone
import Derived.Test.YtmhpgnndjagogaaProg
import Derived.Test.YtmhpgnndjagogaaQc16
import Derived.Sort.OwnSortedInts
import Derived.Laws.IdiomRangeMap
import Derived.Test.YtmhpgnndjagogaaRows
import Derived.Test.YtmhpgnndjagogaaQc1
import Derived.Test.YtmhpgnndjagogaaQc6
import Derived.Test.YtmhpgnndjagogaaQc3
import Derived.WalkKit
import Derived.ProofKit
import Derived.WalkSmall
import Derived.Deep.QuietTactic
import Derived.BigQuiet
import Derived.BigRegion
import Derived.Deep.Draws
import Derived.Deep.OwnRows
import Derived.Maps.AppendAt
import Derived.Deep.Onto
import Derived.Lib.Hide
import Derived.Deep.Matrix
set_option linter.unusedSimpArgs false
set_option linter.unusedVariables false
set_option linter.unusedSectionVars false
namespace Go.Proofs.Ytmhpgnndjagogaa
namespace M
theorem uniq_lt : ∀ {l k : List Int}, l.Pairwise (fun x y => x < y) → k.Pairwise (fun x y => x < y) → (∀ x, x ∈ l ↔ x ∈ k) → l = k := by
  intro l
  induction l with
  | nil =>
    intro k _ _ h
    cases k with
    | nil => rfl
    | cons y k => exact absurd ((h y).2 (List.mem_cons_self ..)) (List.not_mem_nil)
  | cons x l ih =>
    intro k hl hk h
    cases k with
    | nil => exact absurd ((h x).1 (List.mem_cons_self ..)) (List.not_mem_nil)
    | cons y k =>
      obtain ⟨l1, l2⟩ := List.pairwise_cons.1 hl
      obtain ⟨k1, k2⟩ := List.pairwise_cons.1 hk
      have hxy : x = y := by
        rcases List.mem_cons.1 ((h x).1 (List.mem_cons_self ..)) with e | e
        · exact e
        · rcases List.mem_cons.1 ((h y).2 (List.mem_cons_self ..)) with e2 | e2
          · exact e2.symm
          · have := k1 x e; have := l1 y e2; omega
      subst hxy
      rw [ih l2 k2 fun z => ?_]
      constructor
      · intro hz
        rcases List.mem_cons.1 ((h z).1 (List.mem_cons_of_mem _ hz)) with e | e
        · have := l1 z hz; omega
        · exact e
      · intro hz
        rcases List.mem_cons.1 ((h z).2 (List.mem_cons_of_mem _ hz)) with e | e
        · have := k1 z hz; omega
        · exact e
theorem cmp_mem (d : Array Int) (m : Nat) (x : Int) : x ∈ Lib.compactUpTo d m ↔ ∃ j, j < m ∧ d[j]! = x := by
  induction m with
  | zero => simp [Lib.compactUpTo]
  | succ m ih =>
    rw [Lib.compactUpTo_succ, List.mem_append, ih]
    constructor
    · rintro (⟨j, hj, e⟩ | h)
      · exact ⟨j, by omega, e⟩
      · split at h
        · exact ⟨m, by omega, (List.mem_singleton.1 h).symm⟩
        · exact absurd h (List.not_mem_nil)
    · rintro ⟨j, hj, e⟩
      by_cases hjm : j < m
      · exact .inl ⟨j, hjm, e⟩
      · obtain rfl : j = m := by omega
        by_cases hk : Lib.keeps d j = true
        · right; rw [if_pos hk, e]; exact List.mem_singleton.2 rfl
        · left
          simp only [Lib.keeps, decide_eq_true_eq, not_or, Decidable.not_not] at hk
          exact ⟨j - 1, by omega, by rw [← hk.2, e]⟩
theorem cmp_lt (d : Array Int) (m : Nat) (hm : m ≤ d.size) (hs : ∀ j, j + 1 < d.size → d[j]! ≤ d[j + 1]!) : (Lib.compactUpTo d m).Pairwise (fun x y => x < y) ∧ ∀ x, x ∈ Lib.compactUpTo d m → x ≤ d[m - 1]! := by
  induction m with
  | zero => exact ⟨by simp [Lib.compactUpTo], fun x h => by simp [Lib.compactUpTo] at h⟩
  | succ m ih =>
    obtain ⟨i1, i2⟩ := ih (by omega)
    have hstep : ∀ x, x ∈ Lib.compactUpTo d m → x ≤ d[m]! := fun x hx => by
      have h1 := i2 x hx
      obtain ⟨j, hj, -⟩ := (cmp_mem d m x).1 hx
      have h2 := hs (m - 1) (by omega)
      rw [show m - 1 + 1 = m by omega] at h2
      omega
    rw [Lib.compactUpTo_succ, Nat.add_sub_cancel]
    by_cases hk : Lib.keeps d m = true
    · rw [if_pos hk]
      refine ⟨List.pairwise_append.2 ⟨i1, List.pairwise_singleton .., fun x hx y hy => ?_⟩, fun x hx => ?_⟩
      · obtain rfl := List.mem_singleton.1 hy
        have h1 := i2 x hx
        obtain ⟨j, hj, -⟩ := (cmp_mem d m x).1 hx
        have h2 := hs (m - 1) (by omega)
        rw [show m - 1 + 1 = m by omega] at h2
        simp only [Lib.keeps, decide_eq_true_eq] at hk
        rcases hk with hk | hk
        · omega
        · omega
      · rcases List.mem_append.1 hx with h | h
        · exact hstep x h
        · rw [List.mem_singleton.1 h]; exact Int.le_refl _
    · rw [if_neg hk, List.append_nil]
      exact ⟨i1, hstep⟩
theorem srt_mem (ss : List Int) (x : Int) : x ∈ Lib.compact (ss.mergeSort fun x y => decide (x ≤ y)) ↔ x ∈ ss := by
  unfold Lib.compact
  rw [cmp_mem, ← (List.mergeSort_perm ss fun x y => decide (x ≤ y)).mem_iff]
  generalize (ss.mergeSort fun x y => decide (x ≤ y)) = l
  rw [List.mem_iff_getElem]
  constructor
  · rintro ⟨j, hj, e⟩
    exact ⟨j, hj, by rw [← e]; simp [hj]⟩
  · rintro ⟨j, hj, e⟩
    exact ⟨j, hj, by rw [← e]; simp [hj]⟩
theorem srt_lt (ss : List Int) : (Lib.compact (ss.mergeSort fun x y => decide (x ≤ y))).Pairwise (fun x y => x < y) := by
  have hp : (ss.mergeSort fun x y => decide (x ≤ y)).Pairwise (fun x y => decide (x ≤ y) = true) :=
    List.pairwise_mergeSort (fun a b c h1 h2 => by simp only [decide_eq_true_eq] at *; omega) (fun a b => by simp only [Bool.or_eq_true, decide_eq_true_eq]; omega) ss
  unfold Lib.compact
  generalize (ss.mergeSort fun x y => decide (x ≤ y)) = l at *
  refine (cmp_lt l.toArray l.length (by simp) fun j hj => ?_).1
  have hj' : j + 1 < l.length := by simpa using hj
  have := List.pairwise_iff_getElem.1 hp j (j + 1) (by omega) hj' (by omega)
  simp only [decide_eq_true_eq] at this
  simpa [hj', show j < l.length by omega] using this
theorem nodesL_lt (R : List (List Int)) : (nodesL R).Pairwise (fun x y => x < y) := by
  unfold nodesL nodesP
  rw [List.pairwise_map]
  exact (List.pairwise_lt_range.filter _).imp fun h => by omega
theorem mem_nodesL {R : List (List Int)} {x : Int} : x ∈ nodesL R ↔ ∃ f : Nat, f < R.length ∧ crN R f = true ∧ x = f := by
  unfold nodesL nodesP
  rw [List.mem_map]
  constructor
  · rintro ⟨f, hf, rfl⟩
    obtain ⟨h1, h2⟩ := List.mem_filter.1 hf
    exact ⟨f, List.mem_range.1 h1, h2, rfl⟩
  · rintro ⟨f, h1, h2, rfl⟩
    exact ⟨f, List.mem_filter.2 ⟨List.mem_range.2 h1, h2⟩, rfl⟩
/-- The first nodes of all arcs, sorted and without repeats. -/
theorem srt_nodes {R : List (List Int)} {ss : List Int} (h : ∀ x, x ∈ ss ↔ ∃ f t : Nat, f < R.length ∧ t < R.length ∧ crB R f t = true ∧ x = f) : Lib.compact (ss.mergeSort fun x y => decide (x ≤ y)) = nodesL R := by
  refine uniq_lt (srt_lt ss) (nodesL_lt R) fun x => ?_
  rw [srt_mem, h, mem_nodesL]
  unfold crN
  constructor
  · rintro ⟨f, t, hf, ht, hc, e⟩
    exact ⟨f, hf, List.any_eq_true.2 ⟨t, List.mem_range.2 ht, hc⟩, e⟩
  · rintro ⟨f, hf, hc, e⟩
    obtain ⟨t, ht, hc⟩ := List.any_eq_true.1 hc
    exact ⟨f, t, hf, List.mem_range.1 ht, hc, e⟩
theorem nodesL_len (R : List (List Int)) : (nodesL R).length ≤ R.length := by
  unfold nodesL nodesP
  rw [List.length_map]
  have := List.length_filter_le (crN R) (List.range R.length)
  simpa using this
end M
end Go.Proofs.Ytmhpgnndjagogaa

namespace Go.Proofs.Ytmhpgnndjagogaa
namespace M
/-- The first nodes of the first k arcs, each once. -/
def ndK (R : List (List Int)) : Nat → List Int
  | 0 => []
  | k + 1 => if hasB (ndK R k) (((arcsL R).getD k []).getD 0 0) then ndK R k else ndK R k ++ [((arcsL R).getD k []).getD 0 0]
theorem ndK_len (R : List (List Int)) (k : Nat) : (ndK R k).length ≤ k := by
  induction k with
  | zero => exact Nat.le_refl _
  | succ k ih =>
    unfold ndK
    split
    · omega
    · rw [List.length_append]; simp; omega
/-- The arcs are sorted by their first nodes. -/
theorem arcs_sorted (R : List (List Int)) : (arcsL R).Pairwise (fun x y => x.getD 0 0 ≤ y.getD 0 0) := by
  have hrow : ∀ j k, (∀ l, l ∈ arcRow R j k → l.getD 0 0 = (j : Int)) := fun j k l hl => by
    unfold arcRow at hl
    obtain ⟨i, -, hi⟩ := List.mem_flatMap.1 hl
    split at hi
    · rw [List.mem_singleton.1 hi]; rfl
    · exact absurd hi (List.not_mem_nil)
  have key : ∀ k, (arcsP R k).Pairwise (fun x y => x.getD 0 0 ≤ y.getD 0 0) ∧ ∀ l, l ∈ arcsP R k → l.getD 0 0 < (k : Int) := fun k => by
    induction k with
    | zero => exact ⟨by simp [arcsP], fun l h => by simp [arcsP] at h⟩
    | succ k ih =>
      rw [arcsP_next]
      refine ⟨List.pairwise_append.2 ⟨ih.1, ?_, fun x hx y hy => ?_⟩, fun l hl => ?_⟩
      · refine List.pairwise_iff_getElem.2 fun i j hi hj _ => ?_
        rw [hrow k R.length _ (List.getElem_mem hi), hrow k R.length _ (List.getElem_mem hj)]
        exact Int.le_refl _
      · have := ih.2 x hx; rw [hrow k R.length y hy]; omega
      · rcases List.mem_append.1 hl with h | h
        · have := ih.2 l h; omega
        · rw [hrow k R.length l h]; omega
  exact (key R.length).1
theorem getD_at {L : List (List Int)} {k : Nat} (h : k < L.length) : L.getD k [] = L[k] := by
  rw [List.getD_eq_getElem?_getD, List.getElem?_eq_getElem h, Option.getD_some]
theorem ndK_t (R : List (List Int)) (k : Nat) (hk : k ≤ (arcsL R).length) : (ndK R k).Pairwise (fun x y => x < y) ∧ ∀ x, x ∈ ndK R k ↔ ∃ j, j < k ∧ ((arcsL R).getD j []).getD 0 0 = x := by
  induction k with
  | zero => exact ⟨List.Pairwise.nil, fun x => ⟨fun h => absurd h (List.not_mem_nil), fun ⟨j, hj, _⟩ => absurd hj (Nat.not_lt_zero j)⟩⟩
  | succ k ih =>
    obtain ⟨i1, i2⟩ := ih (by omega)
    have hle : ∀ x, x ∈ ndK R k → x ≤ ((arcsL R).getD k []).getD 0 0 := fun x hx => by
      obtain ⟨j, hj, e⟩ := (i2 x).1 hx
      have := List.pairwise_iff_getElem.1 (arcs_sorted R) j k (by omega) (by omega) hj
      rw [← getD_at (by omega), ← getD_at (by omega), e] at this
      exact this
    unfold ndK
    by_cases h : hasB (ndK R k) (((arcsL R).getD k []).getD 0 0) = true
    · rw [if_pos h]
      refine ⟨i1, fun x => (i2 x).trans ⟨fun ⟨j, hj, e⟩ => ⟨j, by omega, e⟩, fun ⟨j, hj, e⟩ => ?_⟩⟩
      by_cases hjk : j < k
      · exact ⟨j, hjk, e⟩
      · obtain rfl : j = k := by omega
        rw [← e]
        exact (i2 _).1 (hasB_iff.1 h)
    · rw [if_neg h]
      have hn := fun hm => h (hasB_iff.2 hm)
      refine ⟨List.pairwise_append.2 ⟨i1, List.pairwise_singleton .., fun x hx y hy => ?_⟩, fun x => ?_⟩
      · rw [List.mem_singleton.1 hy]
        have h1 := hle x hx
        have h2 : x ≠ ((arcsL R).getD k []).getD 0 0 := fun e => hn (e ▸ hx)
        omega
      · rw [List.mem_append, i2 x, List.mem_singleton]
        constructor
        · rintro (⟨j, hj, e⟩ | e)
          · exact ⟨j, by omega, e⟩
          · exact ⟨k, by omega, e.symm⟩
        · rintro ⟨j, hj, e⟩
          by_cases hjk : j < k
          · exact .inl ⟨j, hjk, e⟩
          · obtain rfl : j = k := by omega
            exact .inr e.symm
theorem ndK_end (R : List (List Int)) : ndK R (arcsL R).length = nodesL R := by
  obtain ⟨h1, h2⟩ := ndK_t R _ (Nat.le_refl _)
  refine uniq_lt h1 (nodesL_lt R) fun x => ?_
  rw [h2, mem_nodesL]
  unfold crN
  constructor
  · rintro ⟨j, hj, e⟩
    obtain ⟨f, t, hf, ht, hc, he⟩ := arcsL_at hj
    rw [he] at e
    exact ⟨f, hf, List.any_eq_true.2 ⟨t, List.mem_range.2 ht, hc⟩, e.symm⟩
  · rintro ⟨f, hf, hc, rfl⟩
    obtain ⟨t, ht, hc⟩ := List.any_eq_true.1 hc
    obtain ⟨k, hk, e⟩ := List.mem_iff_getElem.1 (mem_arcsL.2 ⟨f, t, hf, List.mem_range.1 ht, hc, rfl⟩ : [(f : Int), (t : Int)] ∈ arcsL R)
    exact ⟨k, hk, by rw [getD_at hk, e]; rfl⟩
theorem nodesRes_len (R : List (List Int)) : (nodesRes R).1.length ≤ 10 := by
  unfold nodesRes
  by_cases h : crCode R = 0
  · rw [if_pos h]
    obtain ⟨-, n2, -⟩ := sq_sm (cr_code h).1
    exact Nat.le_trans (nodesL_len R) n2
  · rw [if_neg h]; simp
end M
namespace V
set_option maxRecDepth 100000
open Go.RowKit
set_option maxRecDepth 100000 in
set_option maxHeartbeats 4000000 in
theorem sNodes6 (a : Option Addr) (n cap : Nat) (R : List (List Int)) (w : World) (h : Mat w a n R) (hs : M.sqB R = true) (hc : M.hasCyc (M.ent R) R.length = true) :
    Calls Try.prog 32 #[.slice a n cap] w fun e w' => ∃ b c, e = .returned (.slice b (M.nodesL R).length c) ∧ Own w' w.heap.size (.slice b (M.nodesL R).length c) (M.nodesL R) ∧ Below w.heap.size w w' := by
  have HA := Lib.hid h
  have HRn := Lib.hid h.1
  have HS := Lib.hid hs
  have HC := Lib.hid hc
  obtain ⟨hr, n1, n2, -⟩ := sq_parts h hs
  have HLn := Lib.hid (M.arcsL_len R (by rw [h.1]; exact n2))
  clear h hs hc hr
  go_enter Try.func32, Try.ntmps32
  go_wp2_with fail
  refine (sArcs _ _ _ R _ HA.out HS.out HC.out).mono ?_
  rintro e w2 ⟨b2, c2, rfl, ho, hb⟩
  have HL2 := Lib.hid ho
  have HB2 := Lib.hid hb
  clear ho hb
  go_wp2
  go_loopw [4, 5] (fun o kv wr => ∃ (k : Nat) (b : Option Addr) (c : Nat), k ≤ (M.arcsL R).length ∧ kv = .int .i64 k ∧ o = .slice b (M.ndK R k).length c ∧ Hid (Own wr w2.heap.size (.slice b (M.ndK R k).length c) (M.ndK R k)) ∧ Hid (Below w2.heap.size w2 wr)) (fun _ kv _ => (M.arcsL R).length - (intOf kv).toNat)
  case atStart => exact ⟨0, _, _, Nat.zero_le _, rfl, rfl, own_lit0 _ _ (Nat.le_refl _), b_alloc _ _⟩
  case round =>
    obtain ⟨k, b, c, hk, rfl, rfl, HO, HB⟩ := hrel
    by_cases hkl : k < (M.arcsL R).length
    · have hki : (k : Int) < ((M.arcsL R).length : Int) := by omega
      obtain ⟨j, i, hj, hi, hcr, he⟩ := M.arcsL_at hkl
      have hlen := HLn.out
      have hnl := M.ndK_len R k
      obtain ⟨g2, q2, L2, d2, x0, hgg, -, -, hL2, hx0, r1, r2, -⟩ := (HL2.out.below HB.out).at k 0 hkl (by rw [he]; simp)
      subst hgg
      have hnx : M.ndK R (k + 1) = if M.hasB (M.ndK R k) x0 then M.ndK R k else M.ndK R k ++ [x0] := by rw [hx0]; rfl
      rw [he] at hL2 hx0
      have hL2' : L2 = 2 := hL2
      subst hL2'
      have HI := Lib.hid HO.out.ints'
      obtain ⟨hb, hhb⟩ : ∃ hb, hb = M.hasB (M.ndK R k) x0 := ⟨_, rfl⟩
      rw [← hhb] at hnx
      have HH := Lib.hid hhb
      clear hL2 hx0 he hcr hhb
      generalize (M.arcsL R).length = N at *
      generalize hnd : M.ndK R k = l at *
      clear hnd
      cases hb with
      | true =>
        have HN : Hid (M.ndK R (k + 1) = l) := hnx
        clear hnx
        go_wp2_with (go_at_call 52; refine (sHas _ _ _ l _ _ (by exact HI.out)).mono ?_; rintro e w' ⟨rfl, rfl⟩; rw [← HH.out])
        go_roundw
        case rel => exact ⟨k + 1, b, c, by omega, by go_num, by rw [HN.out], by show Own _ _ _ _; rw [HN.out]; exact HO.out, HB⟩
        case measure => simp [intOf]; omega
      | false =>
        have HN : Hid (M.ndK R (k + 1) = l ++ [x0]) := hnx
        clear hnx
        go_wp2_with (first | (go_at_call 52; refine (sHas _ _ _ l _ _ (by exact HI.out)).mono ?_; rintro e w' ⟨rfl, rfl⟩; rw [← HH.out]) | (at_builtin; refine append1 _ rfl (.tmp 24) (.tmp 31) rfl w2.heap.size _ l x0 _ rfl rfl HO.out rfl (by omega) HB.out.size ?_))
        intro b4 c4 w4 hO4 hb4 _
        have HO4 := Lib.hid hO4
        have HB4 := Lib.hid (HB.out.trans hb4)
        rw [← HN.out] at HO4
        clear hO4 hb4
        go_wp2
        go_roundw
        case rel => exact ⟨k + 1, b4, c4, by omega, by go_num, by rw [HN.out, List.length_append]; rfl, by show Own _ _ _ _; rw [HN.out, List.length_append]; rw [HN.out] at HO4; exact HO4.out, HB4⟩
        case measure => simp [intOf]; omega
    · obtain rfl : k = (M.arcsL R).length := by omega
      have HN : Hid (M.ndK R (M.arcsL R).length = M.nodesL R) := M.ndK_end R
      have HO2 : Hid (Own wr w2.heap.size (.slice b (M.nodesL R).length c) (M.nodesL R)) := by show Own _ _ _ _; rw [← HN.out]; exact HO.out
      rw [HN.out]
      clear HO
      go_wp2
      go_ret
      exact ⟨b, c, rfl, HO2.out.mono HB2.out.size, HB2.out.trans (HB.out.mono HB2.out.size)⟩
set_option maxRecDepth 100000 in
set_option maxHeartbeats 1000000 in
theorem sCriticalNodes (a : Option Addr) (n cap : Nat) (R : List (List Int)) (w : World) (h : Mat w a n R) :
    Calls Try.prog 15 #[.slice a n cap] w (VRes (M.nodesRes R) w) := by
  have HA := Lib.hid h
  by_cases hc : M.crCode R = 0
  · obtain ⟨h1, h2⟩ := M.cr_code hc
    have H1 := Lib.hid h1
    have H2 := Lib.hid h2
    have HK := Lib.hid hc
    have HE : Hid (M.nodesRes R = (M.nodesL R, 0)) := by show _ = _; unfold M.nodesRes; rw [if_pos hc]
    clear h hc h1 h2
    go_enter Try.func15, Try.ntmps15
    go_wp2_with fail
    refine (sCode _ _ _ R _ HA.out).mono ?_
    rintro e w1 ⟨rfl, hb⟩
    rw [HK.out]
    have HB := Lib.hid hb
    clear hb
    go_wp2_with fail
    refine (sNodes6 _ _ _ R _ (HA.out.below HB.out) H1.out H2.out).mono ?_
    rintro e w2 ⟨b2, c2, rfl, ho, hb⟩
    have HO := Lib.hid (ho.mono HB.out.size)
    have HB2 := Lib.hid (HB.out.trans (hb.mono HB.out.size))
    clear ho hb
    go_wp2
    go_ret2
    rw [HE.out]
    exact ⟨_, _, _, rfl, HO.out, HB2.out⟩
  · obtain ⟨k, hk⟩ : ∃ k, k = M.crCode R := ⟨_, rfl⟩
    have HE : Hid (M.nodesRes R = ([], k)) := by show _ = _; unfold M.nodesRes; rw [if_neg hc, hk]
    have HK := Lib.hid hk
    have hk0 : (k != 0) = true := by rw [hk]; simpa using hc
    clear h hc hk
    go_enter Try.func15, Try.ntmps15
    go_wp2_with fail
    refine (sCode _ _ _ R _ HA.out).mono ?_
    rintro e w1 ⟨rfl, hb⟩
    rw [← HK.out]
    have HB := Lib.hid hb
    clear hb
    go_wp2
    go_ret2
    exact VRes.nil HE.out HB.out
end V
end Go.Proofs.Ytmhpgnndjagogaa

namespace Go.Proofs
open Go.Shelf
def Try.laysSlN43_f57_ren : Go.Shelf.Ren := ⟨fun | 43 => 57 | n => n, fun | 22 => 25 | 23 => 2 | 3 => 3 | 4 => 4 | 0 => 0 | n => n, fun | n => n⟩
theorem Try.laysSlN43_f57 : Go.Proofs.SlLaysN.n43 Try.prog Try.laysSlN43_f57_ren := {
  mixed := by kernel_rfl
  f43 := ⟨Try.f57.name, by decide, Try.func57.trans (congrArg some (by kernel_rfl))⟩
  t0 := Try.underlying0
  a0 := Try.isAgg0
  z0 := Try.sizeOf0
  v0 := Try.zeroValue0
  t3 := Try.underlying3
  a3 := Try.isAgg3
  z3 := Try.sizeOf3
  v3 := Try.zeroValue3
  t4 := Try.underlying4
  a4 := Try.isAgg4
  z4 := Try.sizeOf4
  v4 := Try.zeroValue4
  t22 := Try.underlying25
  a22 := Try.isAgg25
  z22 := Try.sizeOf25
  v22 := Try.zeroValue25
  t23 := Try.underlying2
  a23 := Try.isAgg2
  z23 := Try.sizeOf2
  v23 := Try.zeroValue2
  i23 := by kernel_rfl }
def Try.laysSlM5_f56_ren : Go.Shelf.Ren := ⟨fun | 5 => 56 | 8 => 89 | 7 => 88 | 19 => 118 | 20 => 119 | 10 => 109 | 11 => 110 | 12 => 111 | 13 => 112 | 14 => 113 | 15 => 114 | 16 => 115 | 17 => 116 | 18 => 117 | 30 => 123 | 31 => 124 | 32 => 125 | 33 => 126 | 34 => 127 | 35 => 122 | 40 => 129 | n => n, fun | 23 => 25 | 25 => 2 | 3 => 3 | 32 => 96 | 22 => 25 | 0 => 0 | 44 => 113 | 46 => 115 | 4 => 4 | 36 => 105 | 35 => 104 | 41 => 110 | 5 => 5 | 9 => 9 | 53 => 116 | 57 => 120 | 63 => 122 | 64 => 123 | n => n, fun | n => n⟩
theorem Try.laysSlM5_f56 : Go.Proofs.SlLaysM.n5 Try.prog Try.laysSlM5_f56_ren := {
  mixed := by kernel_rfl
  f5 := ⟨Try.f56.name, by decide, Try.func56.trans (congrArg some (by kernel_rfl))⟩
  f7 := ⟨Try.f88.name, by decide, Try.func88.trans (congrArg some (by kernel_rfl))⟩
  f8 := Try.func89.trans (congrArg some (by kernel_rfl))
  f10 := ⟨Try.f109.name, by decide, Try.func109.trans (congrArg some (by kernel_rfl))⟩
  f11 := ⟨Try.f110.name, by decide, Try.func110.trans (congrArg some (by kernel_rfl))⟩
  f12 := ⟨Try.f111.name, by decide, Try.func111.trans (congrArg some (by kernel_rfl))⟩
  f13 := ⟨Try.f112.name, by decide, Try.func112.trans (congrArg some (by kernel_rfl))⟩
  f14 := ⟨Try.f113.name, by decide, Try.func113.trans (congrArg some (by kernel_rfl))⟩
  f15 := ⟨Try.f114.name, by decide, Try.func114.trans (congrArg some (by kernel_rfl))⟩
  f16 := ⟨Try.f115.name, by decide, Try.func115.trans (congrArg some (by kernel_rfl))⟩
  f17 := ⟨Try.f116.name, by decide, Try.func116.trans (congrArg some (by kernel_rfl))⟩
  f18 := ⟨Try.f117.name, by decide, Try.func117.trans (congrArg some (by kernel_rfl))⟩
  f19 := Try.func118.trans (congrArg some (by kernel_rfl))
  f20 := Try.func119.trans (congrArg some (by kernel_rfl))
  f30 := ⟨Try.f123.name, by decide, Try.func123.trans (congrArg some (by kernel_rfl))⟩
  f31 := Try.func124.trans (congrArg some (by kernel_rfl))
  f32 := Try.func125.trans (congrArg some (by kernel_rfl))
  f33 := ⟨Try.f126.name, by decide, Try.func126.trans (congrArg some (by kernel_rfl))⟩
  f34 := ⟨Try.f127.name, by decide, Try.func127.trans (congrArg some (by kernel_rfl))⟩
  f35 := ⟨Try.f122.name, by decide, Try.func122.trans (congrArg some (by kernel_rfl))⟩
  f40 := ⟨Try.f129.name, by decide, Try.func129.trans (congrArg some (by kernel_rfl))⟩
  t0 := Try.underlying0
  a0 := Try.isAgg0
  z0 := Try.sizeOf0
  v0 := Try.zeroValue0
  t3 := Try.underlying3
  a3 := Try.isAgg3
  z3 := Try.sizeOf3
  v3 := Try.zeroValue3
  t4 := Try.underlying4
  a4 := Try.isAgg4
  z4 := Try.sizeOf4
  v4 := Try.zeroValue4
  t5 := Try.underlying5
  a5 := Try.isAgg5
  z5 := Try.sizeOf5
  v5 := Try.zeroValue5
  t9 := Try.underlying9
  a9 := Try.isAgg9
  z9 := Try.sizeOf9
  v9 := Try.zeroValue9
  t22 := Try.underlying25
  a22 := Try.isAgg25
  z22 := Try.sizeOf25
  v22 := Try.zeroValue25
  t23 := Try.underlying25
  a23 := Try.isAgg25
  z23 := Try.sizeOf25
  v23 := Try.zeroValue25
  t25 := Try.underlying2
  a25 := Try.isAgg2
  z25 := Try.sizeOf2
  v25 := Try.zeroValue2
  t32 := Try.underlying96
  a32 := Try.isAgg96
  z32 := Try.sizeOf96
  v32 := Try.zeroValue96
  t35 := Try.underlying104
  a35 := Try.isAgg104
  z35 := Try.sizeOf104
  v35 := Try.zeroValue104
  t36 := Try.underlying105
  a36 := Try.isAgg105
  z36 := Try.sizeOf105
  v36 := Try.zeroValue105
  t41 := Try.underlying110
  a41 := Try.isAgg110
  z41 := Try.sizeOf110
  v41 := Try.zeroValue110
  t44 := Try.underlying113
  a44 := Try.isAgg113
  z44 := Try.sizeOf113
  v44 := Try.zeroValue113
  t46 := Try.underlying115
  a46 := Try.isAgg115
  z46 := Try.sizeOf115
  v46 := Try.zeroValue115
  t53 := Try.underlying116
  a53 := Try.isAgg116
  z53 := Try.sizeOf116
  v53 := Try.zeroValue116
  t57 := Try.underlying120
  a57 := Try.isAgg120
  z57 := Try.sizeOf120
  v57 := Try.zeroValue120
  t63 := Try.underlying122
  a63 := Try.isAgg122
  z63 := Try.sizeOf122
  v63 := Try.zeroValue122
  t64 := Try.underlying123
  a64 := Try.isAgg123
  z64 := Try.sizeOf123
  v64 := Try.zeroValue123 }
open Go.RowKit Go.Lib Go.Sort in
theorem Try.slices_Compact_int (blk off cap : Nat) (zs : List Int) (w : World) (hH : Holds (Value.int .i64) w blk off zs.toArray) (hsz : zs.length ≤ 9223372036854775807) (hcap : zs.length ≤ cap) :
    Calls Try.prog 57 #[.slice (some ⟨blk, off, none⟩) zs.length cap] w fun e w' => e = .returned (.slice (some ⟨blk, off, none⟩) (Lib.compact zs).length cap) ∧ ∃ q, w' = putRow (Value.int .i64) (Sort.ahead w q) blk off (Lib.compact zs ++ List.replicate (zs.length - (Lib.compact zs).length) 0).toArray := AnyG.slices_Compact_int Try.laysSlN43_f57 blk off cap zs w hH hsz hcap
open Go.RowKit Go.Lib Go.Sort in
theorem Try.slices_Compact_int_empty (a : Option Addr) (cap : Nat) (w : World) :
    Calls Try.prog 57 #[.slice a 0 cap] w fun e w' => e = .returned (.slice a 0 cap) ∧ w' = w := AnyG.slices_Compact_int_empty Try.laysSlN43_f57 a cap w
open Go.RowKit Go.Lib Go.Sort in
theorem Try.slices_Sort_int (blk off cap : Nat) (zs : List Int) (w : World) (hH : Holds (Value.int .i64) w blk off zs.toArray) (hblk : blk < w.heap.size) (hsz : zs.length < 4611686018427387904) :
    Calls Try.prog 56 #[.slice (some ⟨blk, off, none⟩) zs.length cap] w fun e w' =>
      e = .returned (.tuple #[]) ∧ ∃ n os, w' = grow (putRow (Value.int .i64) (Sort.ahead w n) blk off (zs.mergeSort fun x y => decide (x ≤ y)).toArray) os := AnyM.slices_Sort_int Try.laysSlM5_f56 blk off cap zs w hH hblk hsz
open Go.RowKit Go.Lib Go.Sort in
theorem Try.slices_Sort_int_none (p : Option Addr) (cap : Nat) (w : World) :
    Calls Try.prog 56 #[.slice p 0 cap] w fun e w' => e = .returned (.tuple #[]) ∧ w' = w := AnyM.slices_Sort_int_none Try.laysSlM5_f56 p cap w
end Go.Proofs

namespace Go.Proofs.Ytmhpgnndjagogaa.V
set_option maxRecDepth 100000
open Go.RowKit Go.Maps Go.Sort
theorem putRow_grow0 (w : World) (g off q : Nat) (d : Array Int) : putRow (Value.int .i64) (Sort.ahead w q) g off d = Sort.grow (putRow (Value.int .i64) (Sort.ahead w q) g off d) #[] := by
  unfold Sort.grow putRow mapBlock Sort.ahead
  simp
set_option maxRecDepth 100000 in
set_option maxHeartbeats 400000 in
theorem sortInts (B : Nat) (b : Option Addr) (c : Nat) (l : List Int) (w : World) (h : Own w B (.slice b l.length c) l) (hl : l.length ≤ 1000) :
    Calls Try.prog 56 #[.slice b l.length c] w fun e w' => e = .returned (.tuple #[]) ∧ Own w' B (.slice b l.length c) (l.mergeSort fun x y => decide (x ≤ y)) ∧ w.grownBy w' (Value.slice b l.length c).ownBlock := by
  by_cases h0 : l.length = 0
  · obtain rfl : l = [] := List.eq_nil_of_length_eq_zero h0
    refine (Try.slices_Sort_int_none b c w).mono ?_
    rintro e w' ⟨rfl, rfl⟩
    exact ⟨rfl, by simpa using h, ⟨rfl, rfl, rfl, Nat.le_refl _, fun _ _ _ => rfl⟩⟩
  · rcases h.2 with ⟨-, hn⟩ | ⟨g, cap, cur, hv, hbase, hb, h1, h2, h3, h4⟩
    · exact absurd hn h0
    · injection hv with e1 e2 e3
      subst e1 e3
      rw [Nat.mul_one] at h4
      refine (Try.slices_Sort_int g 0 c l w (holds_of_blockI hb h4) (Array.getElem?_eq_some_iff.1 hb).1 (by omega)).mono ?_
      rintro e w' ⟨rfl, nn, os, rfl⟩
      have hlen : (l.mergeSort fun x y => decide (x ≤ y)).length = l.length := by simp
      refine ⟨rfl, ?_, grownBy_sortedI _⟩
      show World.ownsRow _ _ _ _ _ (List.mergeSort _ _).length _
      rw [hlen]
      exact ownsRow_sortedI hlen hbase hb h1 h2 h3
set_option maxRecDepth 100000 in
set_option maxHeartbeats 400000 in
theorem compactInts (B : Nat) (b : Option Addr) (c : Nat) (l : List Int) (w : World) (h : Own w B (.slice b l.length c) l) (hl : l.length ≤ 1000) :
    Calls Try.prog 57 #[.slice b l.length c] w fun e w' => e = .returned (.slice b (Lib.compact l).length c) ∧ Own w' B (.slice b (Lib.compact l).length c) (Lib.compact l) ∧ w.grownBy w' (Value.slice b l.length c).ownBlock := by
  by_cases h0 : l.length = 0
  · obtain rfl : l = [] := List.eq_nil_of_length_eq_zero h0
    refine (Try.slices_Compact_int_empty b c w).mono ?_
    rintro e w' ⟨rfl, rfl⟩
    have e0 : Lib.compact ([] : List Int) = [] := by simp [Lib.compact, Lib.compactUpTo]
    rw [e0]
    exact ⟨rfl, h, ⟨rfl, rfl, rfl, Nat.le_refl _, fun _ _ _ => rfl⟩⟩
  · rcases h.2 with ⟨-, hn⟩ | ⟨g, cap, cur, hv, hbase, hb, h1, h2, h3, h4⟩
    · exact absurd hn h0
    · injection hv with e1 e2 e3
      subst e1 e3
      rw [Nat.mul_one] at h4
      have hcl := Lib.compact_length_le l
      refine (Try.slices_Compact_int g 0 c l w (holds_of_blockI hb h4) (by omega) h1).mono ?_
      rintro e w' ⟨rfl, q, rfl⟩
      have hlen : (Lib.compact l ++ List.replicate (l.length - (Lib.compact l).length) 0).length = l.length := by simp; omega
      refine ⟨rfl, ?_, ?_⟩
      · rw [putRow_grow0]
        have ho := ownsRow_sortedI (w := w) (n := q) (os := #[]) (ss := l) (ts := Lib.compact l ++ List.replicate (l.length - (Lib.compact l).length) 0) hlen hbase hb h1 h2 h3
        rcases ho.2 with ⟨he, -⟩ | ⟨g', cap', cur', hv', hb1, hb2, hb3, hb4, hb5, hb6⟩
        · cases he
        · injection hv' with e1 e2 e3
          injection e1 with e1
          injection e1 with e1
          subst e1 e3
          refine ⟨by simp, .inr ⟨g, c, cur', rfl, hb1, hb2, by omega, hb4, hb5, ?_⟩⟩
          have hk := congrArg (List.take (Lib.compact l).length) hb6
          have hz : List.take (Lib.compact l).length (List.map (Value.int .i64) (Lib.compact l)) = List.map (Value.int .i64) (Lib.compact l) := List.take_of_length_le (by simp)
          rw [List.take_take, Nat.min_eq_left (by omega), List.map_append, List.take_append_of_le_length (by simp), hz] at hk
          rw [Nat.mul_one]
          exact hk
      · rw [putRow_grow0]; exact grownBy_sortedI _
theorem append1A (w : World) {ops : Array Oper} {rest : List Oper} {o : Oper} {a : Act} {Q : Exit → Act → World → Prop} (hgd : o.guard = none) (s x : Operand)
    (ho : o.op = .call { callee := .builtin .append, args := #[s, x], argTypes := #[25, 25] }) (B : Nat) (v : Value) (l : List Int) (y : Int) (n : Nat) (hn : l.length = n) (hs : a.eval s = v) (hown : Own w B v l)
    {A : Nat} (hx : a.eval x = .slice (some ⟨A, 0, none⟩) 1 1) (hA : A = w.heap.size) (hlen : l.length ≤ 2000000) (hB : B ≤ w.heap.size)
    (h : ∀ b' c' w', Own w' B (.slice b' (n + 1) c') (l ++ [y]) → Below B w w' → wpList Try.prog ops Q rest (a.put o.dst (.slice b' (n + 1) c')) w') :
    wpList Try.prog ops Q (o :: rest) a (w.alloc (.cells #[.int .i64 y] 2)) :=
  append1 w hgd s x ho B v l y n hn hs hown (by rw [hx, hA]) hlen hB fun b' c' w' h1 h2 _ => h b' c' w' h1 h2
set_option maxRecDepth 100000 in
set_option maxHeartbeats 4000000 in
theorem criticalNodes (n m b : Nat) (S : Nat → Nat → Bool) (w : World) (hI : IsArcs w b n m S) (n2 : n ≤ 10) (hm : m ≤ 100) :
    Calls Try.prog 34 #[.map (some b)] w fun e w' => ∃ (bb : Option Addr) (c : Nat) (l : List Int), e = .returned (.slice bb l.length c) ∧ Own w' w.heap.size (.slice bb l.length c) l ∧ (∃ ss : List Int, l = Lib.compact (ss.mergeSort fun x y => decide (x ≤ y)) ∧ ∀ x, x ∈ ss ↔ ∃ f t : Nat, f < n ∧ t < n ∧ S f t = true ∧ x = f) ∧ Below w.heap.size w w' := by
  have HI := Lib.hid hI
  have hbl := hI.lt
  clear hI
  go_enter Try.func34, Try.ntmps34
  go_wp2_with (first | (at_range; refine wpList_rangeA _ rfl _ rfl b n m S rfl HI.out ?_; intro w0 cnt hr hcm hg hz))
  go_frame
  have HR0 := Lib.hid hr
  have HG0 := Lib.hid hg
  have HZ0 := Lib.hid hz
  have HB0 : Hid (Below w.heap.size w w0) := (Below.refl _ _).grown hg (Nat.le_refl _) (fun j hj => by cases hj)
  clear hr hg hz
  go_loopw [3, 4] (fun sv _ wr => ∃ (L : Nat → Nat → Bool) (ss : List Int) (k : Nat) (bb : Option Addr) (c : Nat), sv = .slice bb ss.length c ∧ Hid (RngA wr b w.heap.size n m S L k) ∧ Hid (Own wr (w.heap.size + 1) (.slice bb ss.length c) ss) ∧ ss.length + k ≤ 100 ∧ Hid (∀ x, x ∈ ss ↔ ∃ f t : Nat, f < n ∧ t < n ∧ S f t = true ∧ L f t = false ∧ x = f) ∧ Hid (Below w.heap.size w wr) ∧ w.heap.size + 1 ≤ wr.heap.size) (fun _ _ wr => wr.rangeLeft b w.heap.size)
  case atStart =>
    exact ⟨S, [], cnt, none, 0, rfl, HR0, own_nil _ _, by simp; omega, fun x => ⟨fun h => by simp at h, fun ⟨f, t, _, _, h1, h2, _⟩ => by rw [h1] at h2; cases h2⟩, HB0, by rw [HZ0.out]; exact Nat.le_refl _⟩
  case round =>
    obtain ⟨L, ss, k, bb, c, rfl, HR, HO, hk, HM, HB, hsz⟩ := hrel
    clear HR0 HG0 HB0
    go_wp2_with (first | (at_next; refine wpList_nextA _ rfl _ rfl b _ n m S L k n2 rfl HR.out ?_ ?_))
    · intro hl0
      have HMs : Hid (∀ x, x ∈ ss ↔ ∃ f t : Nat, f < n ∧ t < n ∧ S f t = true ∧ x = f) := fun x => (HM.out x).trans ⟨fun ⟨f, t, h1, h2, h3, _, h5⟩ => ⟨f, t, h1, h2, h3, h5⟩, fun ⟨f, t, h1, h2, h3, h5⟩ => ⟨f, t, h1, h2, h3, hl0 f t h1 h2, h5⟩⟩
      have HOb : Hid (∀ j, (Value.slice bb ss.length c).ownBlock = some j → w.heap.size ≤ j) := fun j hj => by have := (own_lt HO.out hj).1; omega
      clear hl0
      go_wp2_with fail
      refine (sortInts (w.heap.size + 1) bb c ss _ HO.out (by omega)).mono ?_
      rintro e w1 ⟨rfl, ho, hg1⟩
      have hlen : (ss.mergeSort fun x y => decide (x ≤ y)).length = ss.length := by simp
      have HB1 := Lib.hid (HB.out.grown hg1 (by omega) (fun j hj => HOb.out j hj))
      have hz1 : w.heap.size ≤ w1.heap.size := HB1.out.size
      have hcc := compactInts (w.heap.size + 1) bb c (ss.mergeSort fun x y => decide (x ≤ y)) w1 (by rw [hlen]; exact ho) (by rw [hlen]; omega)
      rw [hlen] at hcc
      have HCC := Lib.hid hcc
      clear hcc hlen ho hg1
      go_wp2_with fail
      refine HCC.out.mono ?_
      rintro e w2 ⟨rfl, ho2, hg2⟩
      have HO2 := Lib.hid (ho2.mono (B' := w.heap.size) (by omega))
      have HB2 := Lib.hid (HB1.out.grown hg2 hz1 (fun j hj => HOb.out j hj))
      clear ho2 hg2
      go_wp2
      go_ret
      exact ⟨bb, c, _, rfl, HO2.out, ⟨ss, rfl, HMs.out⟩, HB2.out⟩
    · intro f t w1 k1 hf ht hl hs hr1 hlt hg1 hs1 hen
      have HR1 := Lib.hid hr1
      have HOb : Hid (Own (w1.alloc (.cells #[.int .i64 (f : Int), .int .i64 (t : Int)] 59)) (w.heap.size + 1) (.slice bb ss.length c) ss) := by
        show Own _ _ _ _
        refine (HO.out.keep (w' := w1) fun j h1 h2 => hg1.block j h2 (by intro e; injection e with e; omega)).below (b_alloc _ _)
      have HB1 := Lib.hid (HB.out.grown hg1 (by omega) (fun j hj => by cases hj; exact Nat.le_refl _))
      have HLt := Lib.hid hlt
      have HMs : Hid (∀ x, x ∈ ss ++ [(f : Int)] ↔ ∃ f' t' : Nat, f' < n ∧ t' < n ∧ S f' t' = true ∧ strike L f t f' t' = false ∧ x = f') := fun x => by
        rw [List.mem_append, HM.out x, List.mem_singleton]
        constructor
        · rintro (⟨f', t', h1, h2, h3, h4, h5⟩ | rfl)
          · exact ⟨f', t', h1, h2, h3, by unfold strike; rw [h4]; rfl, h5⟩
          · exact ⟨f, t, hf, ht, hs, by unfold strike; simp, rfl⟩
        · rintro ⟨f', t', h1, h2, h3, h4, h5⟩
          unfold strike at h4
          by_cases hq : f' = f ∧ t' = t
          · right; rw [h5, hq.1]
          · left
            refine ⟨f', t', h1, h2, h3, ?_, h5⟩
            have : (decide (f' = f) && decide (t' = t)) = false := by
              by_cases p1 : f' = f
              · by_cases p2 : t' = t
                · exact absurd ⟨p1, p2⟩ hq
                · simp [p2]
              · simp [p1]
            rw [this] at h4
            simpa using h4
      have HS1 := Lib.hid hs1
      have hszA : w.heap.size + 1 ≤ (w1.alloc (.cells #[.int .i64 (f : Int), .int .i64 (t : Int)] 59)).heap.size := by simp; omega
      have HSzA := Lib.hid hszA
      clear hr1 hg1 hs1 hl hs hlt hszA
      go_wp2_with (at_builtin; refine append1A _ rfl (.tmp 11) (.tmp 14) rfl (w.heap.size + 1) _ ss (f : Int) _ rfl rfl HOb.out rfl (by simp) (by omega) HSzA.out ?_)
      intro b4 c4 w4 hO4 hb4
      have HO4 := Lib.hid hO4
      have hb5 : Below (w.heap.size + 1) w1 w4 := ((b_alloc w1 (.cells #[.int .i64 (f : Int), .int .i64 (t : Int)] 59)).mono (by have := HS1.out; omega)).trans hb4
      have HR4 := Lib.hid (HR1.out.blocks (hb5.block b (by omega)) (hb5.block w.heap.size (by omega)))
      have HB4 := Lib.hid (HB1.out.trans (hb5.mono (by omega)))
      have hsz4 : w.heap.size + 1 ≤ w4.heap.size := by have := hb5.size; have := HS1.out; omega
      have hk1 : (ss ++ [(f : Int)]).length + k1 ≤ 100 := by rw [List.length_append]; have := HLt.out; simp; omega
      clear hO4 hb4 hb5 hen
      go_wp2
      go_roundw
      case rel => exact ⟨strike L f t, ss ++ [(f : Int)], k1, b4, c4, by rw [List.length_append]; rfl, HR4, by show Own _ _ _ _; rw [List.length_append]; exact HO4.out, hk1, HMs, HB4, hsz4⟩
      case measure => rw [HR4.out.left_eq, HR.out.left_eq]; exact HLt.out
set_option maxRecDepth 100000 in
set_option maxHeartbeats 400000 in
/-- .. of no map. -/
theorem criticalNodes_nil (w : World) :
    Calls Try.prog 34 #[.map none] w fun e w' => e = .returned (.slice none 0 0) ∧ Below w.heap.size w w' := by
  have hr := run_range_nilMap (P := Try.prog) w 51 59 4 Try.underlying51
  have hn := fun ty => run_next_nilMap (P := Try.prog) w ty 0 0 #[]
  go_enter Try.func34, Try.ntmps34
  go_wp2
  refine wp_loop_rounds 1 ?_
  rw [rounds_succ]
  go_wp2_with fail
  refine (Try.slices_Sort_int_none none 0 _).mono ?_
  rintro e w1 ⟨rfl, rfl⟩
  go_wp2_with fail
  refine (Try.slices_Compact_int_empty none 0 _).mono ?_
  rintro e w2 ⟨rfl, rfl⟩
  go_wp2
  go_ret
  exact ⟨rfl, b_alloc _ _⟩
set_option maxRecDepth 100000 in
set_option maxHeartbeats 1000000 in
theorem criticalNodesX (a : Option Addr) (n cap : Nat) (R : List (List Int)) (w : World) (h : Mat w a n R) :
    Calls Try.prog 16 #[.slice a n cap] w (VRes (M.nodesRes R) w) := by
  have HA := Lib.hid h
  have hRn : R.length = n := h.1
  by_cases hc : M.crCode R = 0
  · obtain ⟨h1, h2⟩ := M.cr_code hc
    have H1 := Lib.hid h1
    have H2 := Lib.hid h2
    obtain ⟨-, n1, n2, -⟩ := sq_parts h h1
    have HE : Hid (M.nodesRes R = (M.nodesL R, 0)) := by show _ = _; unfold M.nodesRes; rw [if_pos hc]
    have HRn := Lib.hid hRn
    clear h hc h1 h2 hRn
    go_enter Try.func16, Try.ntmps16
    go_wp2_with fail
    refine (criticalArcs _ _ _ R _ HA.out H1.out H2.out).mono ?_
    rintro e w1 ⟨b1, m1, rfl, -, hm1, hI, hb⟩
    have HI := Lib.hid hI
    have HB := Lib.hid hb
    clear hI hb
    go_wp2_with fail
    refine (criticalNodes n m1 b1 _ _ HI.out n2 hm1).mono ?_
    rintro e w2 ⟨b2, c2, l, rfl, ho, ⟨ss, hl, hss⟩, hb⟩
    have hN : l = M.nodesL R := by rw [hl]; exact M.srt_nodes fun x => by rw [HRn.out]; exact hss x
    have HN := Lib.hid hN
    have HO := Lib.hid (ho.mono HB.out.size)
    have HB2 := Lib.hid (HB.out.trans (hb.mono HB.out.size))
    clear ho hb hl hss hN
    go_wp2
    go_ret2
    rw [HE.out]
    refine ⟨_, _, _, rfl, ?_, HB2.out⟩
    show Own _ _ _ (M.nodesL R)
    rw [← HN.out]
    exact HO.out
  · have HC := Lib.hid hc
    obtain ⟨k, hk⟩ : ∃ k, k = M.crCode R := ⟨_, rfl⟩
    have HE : Hid (M.nodesRes R = ([], k)) := by show _ = _; unfold M.nodesRes; rw [if_neg hc, hk]
    have HK := Lib.hid hk
    clear h hc hRn hk
    go_enter Try.func16, Try.ntmps16
    go_wp2_with fail
    refine (criticalArcs_no _ _ _ R _ HA.out HC.out).mono ?_
    rintro e w1 ⟨rfl, hb⟩
    rw [← HK.out]
    have HB := Lib.hid hb
    clear hb
    go_wp2_with fail
    refine (criticalNodes_nil _).mono ?_
    rintro e w2 ⟨rfl, hb⟩
    have HB2 := Lib.hid (HB.out.trans (hb.mono HB.out.size))
    clear hb
    go_wp2
    go_ret2
    exact VRes.nil HE.out HB2.out
end Go.Proofs.Ytmhpgnndjagogaa.V

namespace Go.Proofs.Ytmhpgnndjagogaa.V
open Go.RowKit

set_option maxRecDepth 100000 in
set_option maxHeartbeats 400000 in
theorem toRatio (a b : Int) (w : World) :
    Calls Try.prog 10 #[.agg #[.int .i64 a, .int .i64 b]] w fun e w' => e = .returned (.agg #[.int .i64 a, .int .i64 b]) ∧ Below w.heap.size w w' := by
  go_enter Try.func10, Try.ntmps10
  go_wp2
  exact bodyPost_ret (v := .agg #[.int .i64 a, .int .i64 b]) (by simp [results, Try.results10, go_sem]) rfl ⟨rfl, (b_alloc2 _ _ _).alloc (by simp; omega) _⟩

end Go.Proofs.Ytmhpgnndjagogaa.V

namespace Go.Proofs.Ytmhpgnndjagogaa.V
open Go.RowKit Go.ChangeShapes Go.WideShapes Go.Deep

theorem mat_open {H : Type} {enc : TypeId × Value → H} {P : Program} {w : World} {base : Nat} {held : Bool} {t e q : TypeId} {fuel : Nat} {cs : List Value} {x : DataW H × List MemPlace} (ht : P.underlying t = some (.slice e)) (he : P.underlying e = some (.slice q)) (hq : P.underlying q = some (.int .i64))
    (ce : P.cellsOf e = 1) (cq : P.cellsOf q = 1) (h : DataW.trod enc P w base (fun _ => true) held fuel t cs = some x) :
    ∃ a len cap R, cs = [.slice a len cap] ∧ Mat w a len R := by
  rcases open_int_rows ht he hq ce cq h with ⟨rfl, -⟩ | ⟨a, len, cap, A, L, C, Z, rfl, hb, hl, hm, -, hr⟩
  · exact ⟨none, 0, 0, [], rfl, rfl, Nat.zero_le _, .inl rfl⟩
  · refine ⟨some a, len, cap, (List.range len).map fun r => (Z r).take (L r), rfl, by simp, by omega, ?_⟩
    by_cases h0 : len = 0
    · exact .inl h0
    · have hsp : a.spot = none := by
        have := (hr 0 (by omega)).1
        simpa [Addr.add] using World.cell?_spot this
      obtain ⟨b, off, spot⟩ := a
      simp only at hsp
      subst hsp
      refine .inr ⟨b, off, rfl, ?_, fun i hi => ?_⟩
      · have := cell_lt (hr 0 (by omega)).1
        simpa [Addr.add] using this
      · obtain ⟨h1, h2, h3, h4, h5, h6, h7⟩ := hr i (by omega)
        have eR : ((List.range len).map fun r => (Z r).take (L r)).getD i [] = (Z i).take (L i) := by simp [hi]
        rw [eR]
        have eL : ((Z i).take (L i)).length = L i := by rw [List.length_take]; omega
        rw [eL]
        refine ⟨A i, C i, by rw [← Go.WideShapes.add_plain]; exact h1, eL, by omega, ?_⟩
        by_cases hL : L i = 0
        · exact .inl hL
        · cases hA : A i with
          | none => have := h6 hA; omega
          | some a' =>
            obtain ⟨-, hc⟩ := h7 a' hA
            obtain ⟨b', off', rfl, hc'⟩ := ints_at (k := .i64) (zs := Z i) (fun j hj => hc j (by omega)) (by omega)
            refine .inr ⟨b', off', rfl, cell_lt (hc' 0 (by omega)), fun j hj => ?_⟩
            rw [hc' j (by omega)]
            simp [List.getD_eq_getElem?_getD, hj]
end Go.Proofs.Ytmhpgnndjagogaa.V
