/- Texts laid together: Ndm. -/
import Derived.Test.YtlljnfljcdljaabGreatQz11
import Derived.Test.YtlljnfljcdljaabGreatQz19
import Derived.Test.YtlljnfljcdljaabGreatQz20
import Derived.Test.YtlljnfljcdljaabGreatQz5
import Derived.Test.YtlljnfljcdljaabGreatQz8
set_option linter.unusedSimpArgs false
set_option linter.unusedVariables false
set_option linter.unusedSectionVars false
namespace Go.Proofs.YtlljnfljcdljaabGreat
namespace M
/-- The first nodes of the first k arcs, each once. -/
def ndK (R : List (List Int)) : Nat → List Int
  | 0 => []
  | k + 1 => if hasB (ndK R k) (((arcsL R).getD k []).getD 0 0) then ndK R k else ndK R k ++ [((arcsL R).getD k []).getD 0 0]
theorem ndK_len (R : List (List Int)) (k : Nat) : (ndK R k).length ≤ k := by
  induction k with
  | zero => exact Nat.le_refl _
  | succ k ih =>
    unfold ndK
    split
    · omega
    · rw [List.length_append]; simp; omega
/-- The arcs are sorted by their first nodes. -/
theorem arcs_sorted (R : List (List Int)) : (arcsL R).Pairwise (fun x y => x.getD 0 0 ≤ y.getD 0 0) := by
  have hrow : ∀ j k, (∀ l, l ∈ arcRow R j k → l.getD 0 0 = (j : Int)) := fun j k l hl => by
    unfold arcRow at hl
    obtain ⟨i, -, hi⟩ := List.mem_flatMap.1 hl
    split at hi
    · rw [List.mem_singleton.1 hi]; rfl
    · exact absurd hi (List.not_mem_nil)
  have key : ∀ k, (arcsP R k).Pairwise (fun x y => x.getD 0 0 ≤ y.getD 0 0) ∧ ∀ l, l ∈ arcsP R k → l.getD 0 0 < (k : Int) := fun k => by
    induction k with
    | zero => exact ⟨by simp [arcsP], fun l h => by simp [arcsP] at h⟩
    | succ k ih =>
      rw [arcsP_next]
      refine ⟨List.pairwise_append.2 ⟨ih.1, ?_, fun x hx y hy => ?_⟩, fun l hl => ?_⟩
      · refine List.pairwise_iff_getElem.2 fun i j hi hj _ => ?_
        rw [hrow k R.length _ (List.getElem_mem hi), hrow k R.length _ (List.getElem_mem hj)]
        exact Int.le_refl _
      · have := ih.2 x hx; rw [hrow k R.length y hy]; omega
      · rcases List.mem_append.1 hl with h | h
        · have := ih.2 l h; omega
        · rw [hrow k R.length l h]; omega
  exact (key R.length).1
theorem getD_at {L : List (List Int)} {k : Nat} (h : k < L.length) : L.getD k [] = L[k] := by
  rw [List.getD_eq_getElem?_getD, List.getElem?_eq_getElem h, Option.getD_some]
theorem ndK_t (R : List (List Int)) (k : Nat) (hk : k ≤ (arcsL R).length) : (ndK R k).Pairwise (fun x y => x < y) ∧ ∀ x, x ∈ ndK R k ↔ ∃ j, j < k ∧ ((arcsL R).getD j []).getD 0 0 = x := by
  induction k with
  | zero => exact ⟨List.Pairwise.nil, fun x => ⟨fun h => absurd h (List.not_mem_nil), fun ⟨j, hj, _⟩ => absurd hj (Nat.not_lt_zero j)⟩⟩
  | succ k ih =>
    obtain ⟨i1, i2⟩ := ih (by omega)
    have hle : ∀ x, x ∈ ndK R k → x ≤ ((arcsL R).getD k []).getD 0 0 := fun x hx => by
      obtain ⟨j, hj, e⟩ := (i2 x).1 hx
      have := List.pairwise_iff_getElem.1 (arcs_sorted R) j k (by omega) (by omega) hj
      rw [← getD_at (by omega), ← getD_at (by omega), e] at this
      exact this
    unfold ndK
    by_cases h : hasB (ndK R k) (((arcsL R).getD k []).getD 0 0) = true
    · rw [if_pos h]
      refine ⟨i1, fun x => (i2 x).trans ⟨fun ⟨j, hj, e⟩ => ⟨j, by omega, e⟩, fun ⟨j, hj, e⟩ => ?_⟩⟩
      by_cases hjk : j < k
      · exact ⟨j, hjk, e⟩
      · obtain rfl : j = k := by omega
        rw [← e]
        exact (i2 _).1 (hasB_iff.1 h)
    · rw [if_neg h]
      have hn := fun hm => h (hasB_iff.2 hm)
      refine ⟨List.pairwise_append.2 ⟨i1, List.pairwise_singleton .., fun x hx y hy => ?_⟩, fun x => ?_⟩
      · rw [List.mem_singleton.1 hy]
        have h1 := hle x hx
        have h2 : x ≠ ((arcsL R).getD k []).getD 0 0 := fun e => hn (e ▸ hx)
        omega
      · rw [List.mem_append, i2 x, List.mem_singleton]
        constructor
        · rintro (⟨j, hj, e⟩ | e)
          · exact ⟨j, by omega, e⟩
          · exact ⟨k, by omega, e.symm⟩
        · rintro ⟨j, hj, e⟩
          by_cases hjk : j < k
          · exact .inl ⟨j, hjk, e⟩
          · obtain rfl : j = k := by omega
            exact .inr e.symm
theorem ndK_end (R : List (List Int)) : ndK R (arcsL R).length = nodesL R := by
  obtain ⟨h1, h2⟩ := ndK_t R _ (Nat.le_refl _)
  refine uniq_lt h1 (nodesL_lt R) fun x => ?_
  rw [h2, mem_nodesL]
  unfold crN
  constructor
  · rintro ⟨j, hj, e⟩
    obtain ⟨f, t, hf, ht, hc, he⟩ := arcsL_at hj
    rw [he] at e
    exact ⟨f, hf, List.any_eq_true.2 ⟨t, List.mem_range.2 ht, hc⟩, e.symm⟩
  · rintro ⟨f, hf, hc, rfl⟩
    obtain ⟨t, ht, hc⟩ := List.any_eq_true.1 hc
    obtain ⟨k, hk, e⟩ := List.mem_iff_getElem.1 (mem_arcsL.2 ⟨f, t, hf, List.mem_range.1 ht, hc, rfl⟩ : [(f : Int), (t : Int)] ∈ arcsL R)
    exact ⟨k, hk, by rw [getD_at hk, e]; rfl⟩
theorem nodesRes_len (R : List (List Int)) : (nodesRes R).1.length ≤ 10 := by
  unfold nodesRes
  by_cases h : crCode R = 0
  · rw [if_pos h]
    obtain ⟨-, n2, -⟩ := sq_sm (cr_code h).1
    exact Nat.le_trans (nodesL_len R) n2
  · rw [if_neg h]; simp
end M
namespace V
set_option maxRecDepth 100000
open Go.RowKit
set_option maxRecDepth 100000 in
set_option maxHeartbeats 4000000 in
theorem sNodes6 (a : Option Addr) (n cap : Nat) (R : List (List Int)) (w : World) (h : Mat w a n R) (hs : M.sqB R = true) (hc : M.hasCyc (M.ent R) R.length = true) :
    Calls Tryz.prog 39 #[.slice a n cap] w fun e w' => ∃ b c, e = .returned (.slice b (M.nodesL R).length c) ∧ Own w' w.heap.size (.slice b (M.nodesL R).length c) (M.nodesL R) ∧ Below w.heap.size w w' := by
  have HA := Lib.hid h
  have HRn := Lib.hid h.1
  have HS := Lib.hid hs
  have HC := Lib.hid hc
  obtain ⟨hr, n1, n2, -⟩ := sq_parts h hs
  have HLn := Lib.hid (M.arcsL_len R (by rw [h.1]; exact n2))
  clear h hs hc hr
  go_enter Tryz.func39, Tryz.ntmps39
  go_wp2_with fail
  refine (sArcs _ _ _ R _ HA.out HS.out HC.out).mono ?_
  rintro e w2 ⟨b2, c2, rfl, ho, hb⟩
  have HL2 := Lib.hid ho
  have HB2 := Lib.hid hb
  clear ho hb
  go_wp2
  go_loopw [4, 5] (fun o kv wr => ∃ (k : Nat) (b : Option Addr) (c : Nat), k ≤ (M.arcsL R).length ∧ kv = .int .i64 k ∧ o = .slice b (M.ndK R k).length c ∧ Hid (Own wr w2.heap.size (.slice b (M.ndK R k).length c) (M.ndK R k)) ∧ Hid (Below w2.heap.size w2 wr)) (fun _ kv _ => (M.arcsL R).length - (intOf kv).toNat)
  case atStart => exact ⟨0, _, _, Nat.zero_le _, rfl, rfl, own_lit0 _ _ (Nat.le_refl _), b_alloc _ _⟩
  case round =>
    obtain ⟨k, b, c, hk, rfl, rfl, HO, HB⟩ := hrel
    by_cases hkl : k < (M.arcsL R).length
    · have hki : (k : Int) < ((M.arcsL R).length : Int) := by omega
      obtain ⟨j, i, hj, hi, hcr, he⟩ := M.arcsL_at hkl
      have hlen := HLn.out
      have hnl := M.ndK_len R k
      obtain ⟨g2, q2, L2, d2, x0, hgg, -, -, hL2, hx0, r1, r2, -⟩ := (HL2.out.below HB.out).at k 0 hkl (by rw [he]; simp)
      subst hgg
      have hnx : M.ndK R (k + 1) = if M.hasB (M.ndK R k) x0 then M.ndK R k else M.ndK R k ++ [x0] := by rw [hx0]; rfl
      rw [he] at hL2 hx0
      have hL2' : L2 = 2 := hL2
      subst hL2'
      have HI := Lib.hid HO.out.ints'
      obtain ⟨hb, hhb⟩ : ∃ hb, hb = M.hasB (M.ndK R k) x0 := ⟨_, rfl⟩
      rw [← hhb] at hnx
      have HH := Lib.hid hhb
      clear hL2 hx0 he hcr hhb
      generalize (M.arcsL R).length = N at *
      generalize hnd : M.ndK R k = l at *
      clear hnd
      cases hb with
      | true =>
        have HN : Hid (M.ndK R (k + 1) = l) := hnx
        clear hnx
        go_wp2_with (go_at_call 69; refine (sHas _ _ _ l _ _ (by exact HI.out)).mono ?_; rintro e w' ⟨rfl, rfl⟩; rw [← HH.out])
        go_roundw
        case rel => exact ⟨k + 1, b, c, by omega, by go_num, by rw [HN.out], by show Own _ _ _ _; rw [HN.out]; exact HO.out, HB⟩
        case measure => simp [intOf]; omega
      | false =>
        have HN : Hid (M.ndK R (k + 1) = l ++ [x0]) := hnx
        clear hnx
        go_wp2_with (first | (go_at_call 69; refine (sHas _ _ _ l _ _ (by exact HI.out)).mono ?_; rintro e w' ⟨rfl, rfl⟩; rw [← HH.out]) | (at_builtin; refine append1 _ rfl (.tmp 24) (.tmp 31) rfl w2.heap.size _ l x0 _ rfl rfl HO.out rfl (by omega) HB.out.size ?_))
        intro b4 c4 w4 hO4 hb4 _
        have HO4 := Lib.hid hO4
        have HB4 := Lib.hid (HB.out.trans hb4)
        rw [← HN.out] at HO4
        clear hO4 hb4
        go_wp2
        go_roundw
        case rel => exact ⟨k + 1, b4, c4, by omega, by go_num, by rw [HN.out, List.length_append]; rfl, by show Own _ _ _ _; rw [HN.out, List.length_append]; rw [HN.out] at HO4; exact HO4.out, HB4⟩
        case measure => simp [intOf]; omega
    · obtain rfl : k = (M.arcsL R).length := by omega
      have HN : Hid (M.ndK R (M.arcsL R).length = M.nodesL R) := M.ndK_end R
      have HO2 : Hid (Own wr w2.heap.size (.slice b (M.nodesL R).length c) (M.nodesL R)) := by show Own _ _ _ _; rw [← HN.out]; exact HO.out
      rw [HN.out]
      clear HO
      go_wp2
      go_ret
      exact ⟨b, c, rfl, HO2.out.mono HB2.out.size, HB2.out.trans (HB.out.mono HB2.out.size)⟩
set_option maxRecDepth 100000 in
set_option maxHeartbeats 1000000 in
theorem sCriticalNodes (a : Option Addr) (n cap : Nat) (R : List (List Int)) (w : World) (h : Mat w a n R) :
    Calls Tryz.prog 15 #[.slice a n cap] w (VRes (M.nodesRes R) w) := by
  have HA := Lib.hid h
  by_cases hc : M.crCode R = 0
  · obtain ⟨h1, h2⟩ := M.cr_code hc
    have H1 := Lib.hid h1
    have H2 := Lib.hid h2
    have HK := Lib.hid hc
    have HE : Hid (M.nodesRes R = (M.nodesL R, 0)) := by show _ = _; unfold M.nodesRes; rw [if_pos hc]
    clear h hc h1 h2
    go_enter Tryz.func15, Tryz.ntmps15
    go_wp2_with fail
    refine (sCode _ _ _ R _ HA.out).mono ?_
    rintro e w1 ⟨rfl, hb⟩
    rw [HK.out]
    have HB := Lib.hid hb
    clear hb
    go_wp2_with fail
    refine (sNodes6 _ _ _ R _ (HA.out.below HB.out) H1.out H2.out).mono ?_
    rintro e w2 ⟨b2, c2, rfl, ho, hb⟩
    have HO := Lib.hid (ho.mono HB.out.size)
    have HB2 := Lib.hid (HB.out.trans (hb.mono HB.out.size))
    clear ho hb
    go_wp2
    go_ret2
    rw [HE.out]
    exact ⟨_, _, _, rfl, HO.out, HB2.out⟩
  · obtain ⟨k, hk⟩ : ∃ k, k = M.crCode R := ⟨_, rfl⟩
    have HE : Hid (M.nodesRes R = ([], k)) := by show _ = _; unfold M.nodesRes; rw [if_neg hc, hk]
    have HK := Lib.hid hk
    have hk0 : (k != 0) = true := by rw [hk]; simpa using hc
    clear h hc hk
    go_enter Tryz.func15, Tryz.ntmps15
    go_wp2_with fail
    refine (sCode _ _ _ R _ HA.out).mono ?_
    rintro e w1 ⟨rfl, hb⟩
    rw [← HK.out]
    have HB := Lib.hid hb
    clear hb
    go_wp2
    go_ret2
    exact VRes.nil HE.out HB.out
end V
end Go.Proofs.YtlljnfljcdljaabGreat
