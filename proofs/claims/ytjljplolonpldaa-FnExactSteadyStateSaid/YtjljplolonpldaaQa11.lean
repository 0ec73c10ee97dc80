/- Texts laid together: Hv1, Orb, Ser, Sat. -/
import Derived.Test.YtjljplolonpldaaQa9
import Derived.Test.YtjljplolonpldaaQa10
import Derived.Test.YtjljplolonpldaaQa5
import Derived.Test.YtjljplolonpldaaQa6
import Derived.Test.YtjljplolonpldaaQa7
import Derived.Test.YtjljplolonpldaaQa8
import Derived.Test.YtjljplolonpldaaQa2
import Derived.Test.YtjljplolonpldaaQa4
import Derived.Deep.RegionLaw
set_option linter.unusedSimpArgs false
set_option linter.unusedVariables false
set_option linter.unusedSectionVars false
namespace Go.Proofs.Ytjljplolonpldaa.V
open Go.RowKit

theorem OwnM.caps {w : World} {B n cap : Nat} {a : Option Addr} {R : List (List Int)} (h : OwnM w B (.slice a n cap) R) : n ≤ cap ∧ cap ≤ maxLen := by
  obtain ⟨V, h1, h2, _⟩ := h
  obtain ⟨a', c', hv, k1, k2, _⟩ := own_form h2
  injection hv with e1 e2 e3
  subst e2 e3
  exact ⟨k1, k2⟩
/-- One row of an owned matrix, as a list of its own. -/
theorem OwnM.row {w : World} {B n cap : Nat} {a : Option Addr} {R : List (List Int)} (h : OwnM w B (.slice a n cap) R) (i : Nat) (hi : i < n) :
    ∃ g ra rc, a = some ⟨g, 0, none⟩ ∧ w.cell? ⟨g, i, none⟩ = some (.slice ra (R.getD i []).length rc) ∧ Own w B (.slice ra (R.getD i []).length rc) (R.getD i []) := by
  have hl := h.len
  obtain ⟨V, h1, h2, h3, h4, h5⟩ := h
  obtain ⟨a', c', hv, hc, hm, hg⟩ := own_form h2
  injection hv with e1 e2 e3
  subst e1 e2 e3
  obtain ⟨g, rfl, hB, hlt⟩ := hg (by omega)
  have hr := h3 i (by omega)
  obtain ⟨ra, rc, hrv, _⟩ := own_form hr
  rw [hrv] at hr
  refine ⟨g, ra, rc, rfl, ?_, hr⟩
  rw [World.ownsRow.cellAt h2 i (by omega), ← hrv]
  simp [show i < V.length by omega]
theorem ownM_lit1 (w : World) (B : Nat) (hB : B ≤ w.heap.size) {rv : Value} {l : List Int} (ho : Own w B rv l) : OwnM (w.alloc (.cells #[rv] 29)) B (.slice (some ⟨w.heap.size, 0, none⟩) 1 1) [l] := by
  refine ⟨[rv], rfl, World.ownsRow_lit w #[rv] 1 hB (by decide) rfl, fun i hi => ?_, fun i hi k hk => ?_, fun i j hi hj hne => ?_⟩
  · obtain rfl : i = 0 := by simp at hi; omega
    exact ho.below (b_alloc w _)
  · obtain rfl : i = 0 := by simp at hi; omega
    have := (own_lt ho hk).2
    intro e
    simp only [Value.ownBlock, Option.some.injEq] at e
    omega
  · simp at hi hj; omega
/-- A part of one row. -/
theorem mat_sub {w : World} {b off n : Nat} {R : List (List Int)} (h : Mat w (some ⟨b, off, none⟩) n R) (k : Nat) (hk : k < n) : Mat w (some ⟨b, off + k, none⟩) 1 [R.getD k []] := by
  obtain ⟨h1, h2, h3⟩ := h
  refine ⟨rfl, by decide, .inr ?_⟩
  rcases h3 with h3 | ⟨b', off', e, hlt, hc⟩
  · omega
  · injection e with e
    injection e with e1 e2
    subst e1 e2
    refine ⟨b, off + k, rfl, hlt, fun i hi => ?_⟩
    obtain rfl : i = 0 := by omega
    obtain ⟨ra, rc, hr, hI⟩ := hc k hk
    exact ⟨ra, rc, hr, hI⟩
/-- The weights to a node, one row for each number of arcs. -/
def M.wtM (A : Nat → Nat → Int) (n t k : Nat) : List (List Int) := M.mk k n fun s j => M.cpw A n s t j
theorem M.wt_row (A : Nat → Nat → Int) (n t k s : Nat) (h : s < k) : (M.wtM A n t k).getD s [] = (List.range n).map fun j => M.cpw A n s t j := M.mk_row _ _ _ _ h
theorem M.wt_next (R : List (List Int)) (n t s : Nat) : (M.mk 1 n (fun i j => M.dot [(List.range n).map fun j => M.cpw (M.ent R) n s t j] R i j n)).getD 0 [] = (List.range n).map fun j => M.cpw (M.ent R) n (s + 1) t j := by
  rw [M.mk_row _ _ _ _ (by omega)]
  refine List.map_congr_left fun j _ => ?_
  unfold M.dot
  refine M.sumN_congr fun u hu => ?_
  congr 1
  unfold M.ent
  simp [hu]


end Go.Proofs.Ytjljplolonpldaa.V

namespace Go.Proofs.Ytjljplolonpldaa
namespace M
theorem orbL_one (R : List (List Int)) (x : List Int) : orbL R x 1 = [x] := rfl
theorem orbRes_ok (R : List (List Int)) (x : List Int) (n : Int) : pre (orbRes R x n).1 (orbRes R x n).1.length ≤ 2000 ∧ (orbRes R x n).1.length ≤ 101 := by
  unfold orbRes
  split
  · next h =>
    obtain ⟨hs, hx, hl⟩ := orbCode_t h
    split
    · next h2 =>
      split
      · refine ⟨?_, by rw [orbL_len]; omega⟩
        have hv := (isVec_t hx).2.1
        have : ∀ k, pre (orbL R x (n.toNat + 1)) k ≤ 10 * k := by
          intro k
          unfold pre
          induction k with
          | zero => simp
          | succ k ih =>
            by_cases q : k < (orbL R x (n.toNat + 1)).length
            · rw [List.take_succ_eq_append_getElem q, List.map_append, List.sum_append]
              have hk : k < n.toNat + 1 := by rw [orbL_len] at q; exact q
              have : (orbL R x (n.toNat + 1))[k].length ≤ 10 := by
                have e : (orbL R x (n.toNat + 1))[k] = orb R x k := by
                  have := orbL_get (R := R) (x := x) hk
                  rw [List.getD_eq_getElem?_getD, List.getElem?_eq_getElem q] at this
                  exact this
                rw [e, orb_len hl]; omega
              simp only [List.map_cons, List.map_nil, List.sum_cons, List.sum_nil]
              omega
            · rw [List.take_of_length_le (by omega)]
              rw [List.take_of_length_le (by omega)] at ih
              omega
        have := this (orbL R x (n.toNat + 1)).length
        show pre (orbL R x (n.toNat + 1)) (orbL R x (n.toNat + 1)).length ≤ 2000
        rw [orbL_len] at this ⊢
        omega
      · simp [pre]
    · simp [pre]
  · simp [pre]
end M
namespace V
set_option maxRecDepth 100000
open Go.RowKit
theorem sq_parts7 {w : World} {a : Option Addr} {n : Nat} {R : List (List Int)} (h : Mat w a n R) (hs : M.sqB R = true) : Rect R n n ∧ 1 ≤ n ∧ n ≤ 10 ∧ ∀ i j, i < n → j < n → M.Sm 1000000 (M.ent R i j) := by
  have hq := sq_of h hs
  have e := (M.sq_sm hs).2.2
  rw [h.1] at e
  exact ⟨hq.2.1, hq.2.2.2.1, hq.2.2.2.2, e⟩
set_option maxRecDepth 100000 in
set_option maxHeartbeats 400000 in
theorem orbitCode (a : Option Addr) (n cap : Nat) (R : List (List Int)) (a' : Option Addr) (N cap' : Nat) (l : List Int) (w : World) (h : Mat w a n R) (h' : Ints .i64 w a' N l) :
    Calls Try.prog 97 #[.slice a n cap, .slice a' N cap'] w fun e w' => e = .returned (.int .i64 (M.orbCode R l)) ∧ w = w' := by
  have HA := Lib.hid h
  have HI := Lib.hid h'
  have hRn : R.length = n := h.1
  have hln : l.length = N := h'.1
  obtain ⟨v1, hv1⟩ : ∃ v, v = M.sqB R := ⟨_, rfl⟩
  have HV1 := Lib.hid hv1.symm
  cases v1 with
  | false =>
    have HE : Hid (M.orbCode R l = 1) := by show _ = _; unfold M.orbCode; rw [← hv1]; rfl
    clear h h' hv1 hRn hln
    go_enter Try.func97, Try.ntmps97
    go_wp2_with (go_at_call 79; refine (isSquare_b _ _ _ R _ false HV1.out HA.out).mono ?_; rintro e w' ⟨rfl, rfl⟩)
    go_ret
    rw [HE.out]
    exact ⟨rfl, rfl⟩
  | true =>
    obtain ⟨v2, hv2⟩ : ∃ v, v = M.isVec l := ⟨_, rfl⟩
    have HV2 := Lib.hid hv2.symm
    cases v2 with
    | false =>
      have HE : Hid (M.orbCode R l = 1) := by show _ = _; unfold M.orbCode; rw [← hv1, ← hv2]; rfl
      clear h h' hv1 hv2 hRn hln
      go_enter Try.func97, Try.ntmps97
      go_wp2_with (first | (go_at_call 79; refine (isSquare_b _ _ _ R _ true HV1.out HA.out).mono ?_; rintro e w' ⟨rfl, rfl⟩) | (go_at_call 100; refine (isVector_b _ _ _ l _ false HV2.out HI.out).mono ?_; rintro e w' ⟨rfl, rfl⟩))
      go_ret
      rw [HE.out]
      exact ⟨rfl, rfl⟩
    | true =>
      by_cases hl : N = n
      · subst hl
        have HE : Hid (M.orbCode R l = 0) := by show _ = _; unfold M.orbCode; rw [← hv1, ← hv2, if_pos (by rfl), if_pos (by omega)]
        clear h h' hv1 hv2 hRn hln
        go_enter Try.func97, Try.ntmps97
        go_wp2_with (first | (go_at_call 79; refine (isSquare_b _ _ _ R _ true HV1.out HA.out).mono ?_; rintro e w' ⟨rfl, rfl⟩) | (go_at_call 100; refine (isVector_b _ _ _ l _ true HV2.out HI.out).mono ?_; rintro e w' ⟨rfl, rfl⟩))
        go_ret
        rw [HE.out]
        exact ⟨rfl, rfl⟩
      · have HE : Hid (M.orbCode R l = 5) := by show _ = _; unfold M.orbCode; rw [← hv1, ← hv2, if_pos (by rfl), if_neg (by omega)]
        have hne : ((N : Int) != (n : Int)) = true := by simp; omega
        clear h h' hv1 hv2 hRn hln
        go_enter Try.func97, Try.ntmps97
        go_wp2_with (first | (go_at_call 79; refine (isSquare_b _ _ _ R _ true HV1.out HA.out).mono ?_; rintro e w' ⟨rfl, rfl⟩) | (go_at_call 100; refine (isVector_b _ _ _ l _ true HV2.out HI.out).mono ?_; rintro e w' ⟨rfl, rfl⟩))
        go_ret
        rw [HE.out]
        exact ⟨rfl, rfl⟩
set_option maxRecDepth 100000 in
set_option maxHeartbeats 4000000 in
theorem orbitOf (a : Option Addr) (n cap : Nat) (R : List (List Int)) (a' : Option Addr) (N cap' : Nat) (l : List Int) (m : Int) (w : World) (h : Mat w a n R) (h' : Ints .i64 w a' N l) :
    Calls Try.prog 29 #[.slice a n cap, .slice a' N cap', .int .i64 m] w (MRes (M.orbRes R l m) w) := by
  have HA := Lib.hid h
  have HI := Lib.hid h'
  obtain ⟨k0, hk0⟩ : ∃ k, k = M.orbCode R l := ⟨_, rfl⟩
  have HK := Lib.hid hk0.symm
  by_cases hk : k0 = 0
  · subst hk
    obtain ⟨hs, hx, hl⟩ := M.orbCode_t hk0.symm
    obtain ⟨hr, n1, n2, hsm⟩ := sq_parts7 h hs
    have hRn : R.length = n := h.1
    have hNn : N = n := by rw [← h'.1, hl]; exact hRn
    subst hNn
    by_cases hm : 0 ≤ m ∧ m ≤ 100
    · obtain ⟨q, rfl⟩ := Int.eq_ofNat_of_zero_le hm.1
      have hq : q ≤ 100 := by omega
      have hq2 : (decide ((q : Int) < 0)) = false := by simp
      have HE : Hid (M.orbRes R l (q : Int) = if (M.orbL R l (q + 1)).all M.isVec then (M.orbL R l (q + 1), 0) else ([], 3)) := by show _ = _; unfold M.orbRes; rw [← hk0, if_pos rfl, if_pos hm]; rfl
      have HV := Lib.hid hx
      have HR := Lib.hid hr
      have HRB : Hid (∀ i j, i < N → j < N → M.Big (M.ent R i j)) := fun i j hi hj => M.big_sm (hsm i j hi hj) (by omega)
      have HLn : Hid (∀ k, (M.orb R l k).length = N) := fun k => by rw [M.orb_len hl]; exact hRn
      clear h h' hk0 hs hx hl hr hsm hRn hm
      go_enter Try.func29, Try.ntmps29
      go_wp2_with (go_at_call 97; refine (orbitCode _ _ _ R _ _ _ l _ HA.out HI.out).mono ?_; rintro e w' ⟨rfl, rfl⟩; rw [HK.out])
      refine (clone _ _ _ l _ HI.out (by omega) (by omega)).mono ?_
      rintro e w1 ⟨b1, c1, rfl, ho, hb⟩
      have HO0 : Hid (OwnM (w1.alloc (.cells #[.slice b1 N c1] 29)) w.heap.size (.slice (some ⟨w1.heap.size, 0, none⟩) 1 1) (M.orbL R l (0 + 1))) := ownM_lit1 w1 _ hb.size ho
      have HB0 : Hid (Below w.heap.size w (w1.alloc (.cells #[.slice b1 N c1] 29))) := hb.alloc hb.size _
      have HF0 : Hid ((M.orbL R l (0 + 1)).all M.isVec = true) := by show _ = _; rw [Nat.zero_add, M.orbL_one]; simp [HV.out]
      clear ho hb
      go_wp2
      go_loopw [9, 10, 27] (fun o _ kv wr => ∃ (k : Nat) (b : Option Addr) (c : Nat), k ≤ q ∧ kv = .int .i64 k ∧ o = .slice b (k + 1) c ∧ Hid (OwnM wr w.heap.size (.slice b (k + 1) c) (M.orbL R l (k + 1))) ∧ Hid ((M.orbL R l (k + 1)).all M.isVec = true) ∧ Hid (Below w.heap.size w wr)) (fun _ _ kv _ => q - (intOf kv).toNat)
      case atStart => exact ⟨0, _, _, Nat.zero_le _, rfl, rfl, HO0, HF0, HB0⟩
      case round =>
        obtain ⟨k, b, c, hk, rfl, rfl, HO, HF, HB⟩ := hrel
        obtain ⟨wo, rfl⟩ : ∃ x, x = wr := ⟨_, rfl⟩
        by_cases hkl : k < q
        · have hki : (k : Int) < (q : Int) := by omega
          obtain ⟨g, ra, rc, rfl, hcr, hro⟩ := HO.out.row k (by omega)
          rw [M.orbL_get (Nat.lt_succ_self k), HLn.out k] at hcr hro
          have hvk := M.orb_all HF.out (Nat.lt_succ_self k)
          have HRo := Lib.hid hro.ints'
          have HBg : Hid (∀ j, j < N → M.Big ((M.orb R l k).getD j 0)) := fun j hj => M.big_val ((M.isVec_t hvk).2.2 j (by rw [HLn.out]; exact hj))
          have hzo : w.heap.size ≤ wo.heap.size := HB.out.size
          obtain ⟨bv, hbv⟩ : ∃ b, b = M.isVec (M.orb R l (k + 1)) := ⟨_, rfl⟩
          have HBv := Lib.hid hbv.symm
          have HLk : Hid ((M.orbL R l (k + 1)).length = k + 1) := M.orbL_len _ _ _
          have hz1 : ((k : Int) + 1 - 1) = (k : Int) := by omega
          clear hro hvk hbv
          go_wp2_with fail
          refine (timesColumn _ _ _ R _ _ _ (M.orb R l k) _ (HA.out.below HB.out) HRo.out HR.out HRB.out HBg.out n1 n2 n1 n2).mono ?_
          rintro e w3 ⟨b3, c3, rfl, ho3, hb3⟩
          have HR3 : Hid (Own w3 wo.heap.size (.slice b3 N c3) (M.orb R l (k + 1))) := ho3
          have HB3 := Lib.hid hb3
          clear ho3 hb3
          cases bv with
          | false =>
            have HN : Hid ((M.orbL R l (q + 1)).all M.isVec = false) := M.orb_all_not (k := k + 1) (by omega) HBv.out
            go_wp2_with fail
            refine (isVector_b _ _ _ (M.orb R l (k + 1)) _ false HBv.out HR3.out.ints').mono ?_
            rintro e w' ⟨rfl, rfl⟩
            go_wp2
            go_ret2
            exact MRes.nil (by rw [HE.out, HN.out]; rfl) (HB.out.trans (HB3.out.mono hzo))
          | true =>
            have HF2 : Hid ((M.orbL R l (k + 1 + 1)).all M.isVec = true) := M.orb_all_next HF.out HBv.out
            go_wp2_with (first | (go_at_call 100; refine (isVector_b _ _ _ (M.orb R l (k + 1)) _ true HBv.out HR3.out.ints').mono ?_; rintro e w' ⟨rfl, rfl⟩) | (at_builtin; refine appendRow wo _ rfl (.tmp 40) (.tmp 42) rfl w.heap.size _ _ (M.orbL R l (k + 1)) (M.orb R l (k + 1)) (k + 1) HLk.out rfl HO.out HB3.out HR3.out rfl (by rw [HLk.out]; omega) hzo ?_))
            intro b4 c4 w4 hO4 hb4 _
            rw [← M.orbL_next] at hO4
            have HO4 := Lib.hid hO4
            have HB4 := Lib.hid ((HB.out.trans (HB3.out.mono hzo)).trans hb4)
            clear hO4 hb4
            go_wp2
            go_roundw
            case rel => exact ⟨k + 1, b4, c4, by omega, by go_num, rfl, HO4, HF2, HB4⟩
            case measure => simp [intOf]; omega
        · obtain rfl : k = q := by omega
          go_wp2
          go_ret2
          rw [HE.out, HF.out]
          exact ⟨_, _, _, rfl, HO.out, HB.out⟩
    · have HE : Hid (M.orbRes R l m = ([], 2)) := by show _ = _; unfold M.orbRes; rw [← hk0, if_pos rfl, if_neg hm]
      by_cases hm0 : m < 0
      · clear h h' hk0 hs hx hl hr hsm hRn hm
        go_enter Try.func29, Try.ntmps29
        go_wp2_with (go_at_call 97; refine (orbitCode _ _ _ R _ _ _ l _ HA.out HI.out).mono ?_; rintro e w' ⟨rfl, rfl⟩; rw [HK.out])
        go_ret2
        exact MRes.nil HE.out (Below.refl _ _)
      · have hm1 : 100 < m := by omega
        clear h h' hk0 hs hx hl hr hsm hRn hm
        go_enter Try.func29, Try.ntmps29
        go_wp2_with (go_at_call 97; refine (orbitCode _ _ _ R _ _ _ l _ HA.out HI.out).mono ?_; rintro e w' ⟨rfl, rfl⟩; rw [HK.out])
        go_ret2
        exact MRes.nil HE.out (Below.refl _ _)
  · have HE : Hid (M.orbRes R l m = ([], k0)) := by show _ = _; unfold M.orbRes; rw [← hk0, if_neg hk]
    have hk2 : (k0 != 0) = true := by simpa using hk
    clear h h' hk0 hk
    go_enter Try.func29, Try.ntmps29
    go_wp2_with (go_at_call 97; refine (orbitCode _ _ _ R _ _ _ l _ HA.out HI.out).mono ?_; rintro e w' ⟨rfl, rfl⟩; rw [HK.out])
    go_ret2
    exact MRes.nil HE.out (Below.refl _ _)
end V
end Go.Proofs.Ytjljplolonpldaa

namespace Go.Proofs.Ytjljplolonpldaa
namespace M
theorem flat_take {X : List (List Int)} {k : Nat} (hk : k < X.length) : (X.take (k + 1)).flatten = (X.take k).flatten ++ X.getD k [] := by
  rw [List.take_succ_eq_append_getElem hk, List.flatten_append]
  simp [hk]
theorem flat_small {X : List (List Int)} {n L : Nat} (h1 : X.length = n) (h2 : ∀ i, i < n → (X.getD i []).length = L) : ∀ k, k ≤ n → (X.take k).flatten.length = k * L := by
  intro k
  induction k with
  | zero => intro _; simp
  | succ k ih =>
    intro hk
    rw [flat_take (by omega), List.length_append, ih (by omega), h2 k (by omega), Nat.succ_mul]
end M
namespace V
set_option maxRecDepth 100000
open Go.RowKit
/-- A list of integers is appended to an owned list of integers. -/
theorem appendInts (w : World) {ops : Array Oper} {rest : List Oper} {o : Oper} {a : Act} {Q : Exit → Act → World → Prop} (hgd : o.guard = none) (s x : Operand)
    (ho : o.op = .call { callee := .builtin .append, args := #[s, x], argTypes := #[29, 29] }) (B : Nat) (v : Value) (l l2 : List Int) (hs : a.eval s = v) (hown : Own w B v l)
    {ad : Option Addr} {n2 c2 : Nat} (hx : a.eval x = .slice ad n2 c2) (hI : Ints .i64 w ad n2 l2) (h0 : 0 < n2) (hlen : l.length + n2 ≤ 2000000) (hB : B ≤ w.heap.size)
    (h : ∀ b' c' w', Own w' B (.slice b' (l.length + n2) c') (l ++ l2) → Below B w w' → wpList Try.prog ops Q rest (a.put o.dst (.slice b' (l.length + n2) c')) w') :
    wpList Try.prog ops Q (o :: rest) a w := by
  obtain ⟨i0, hi, hz0, hz1, hz2⟩ := info_parts info64
  obtain ⟨e1, e2, e3⟩ := hI
  rcases e3 with e3 | ⟨b, off, rfl, hlt, hc⟩
  · omega
  refine wpList_append_own_at (w := w) hgd s x 29 ho B 2 i0 (.int .i64 0) 1 8 Try.underlying29 hi hz0 hz1 hz2 rfl (by decide) v _ _ hs hown ⟨b, off, none⟩ n2 c2 (l2.map (Value.int .i64)) hx (by simp [e1]) (ints_cells hc e1) ?c2 ?c3 ?c4 hB ?_
  case c2 => intro u hu; obtain ⟨x, _, rfl⟩ := List.mem_map.1 hu; rfl
  case c3 => unfold maxLen; omega
  case c4 => omega
  · intro v' w' hown' hgrow hz hvb
    have ho' : Own w' B v' (l ++ l2) := by
      show w'.ownsRow B _ 1 v' (l ++ l2).length ((l ++ l2).map (Value.int .i64))
      rw [List.length_append, e1, List.map_append]
      exact hown'
    obtain ⟨b', c', hv', _⟩ := own_form ho'
    rw [show (l ++ l2).length = l.length + n2 by rw [List.length_append, e1]] at hv'
    subst hv'
    exact h b' c' w' ho' ((Below.refl B w).grown hgrow hB (fun k hk => (own_lt hown hk).1))
set_option maxRecDepth 100000 in
set_option maxHeartbeats 1000000 in
theorem sFlat7 (a : Option Addr) (n cap L : Nat) (X : List (List Int)) (w : World) (h : Mat w a n X) (hr : Rect X n L) (n2 : n ≤ 10) (l1 : 1 ≤ L) (l2 : L ≤ 10) :
    Calls Try.prog 129 #[.slice a n cap] w fun e w' => ∃ b m c, e = .returned (.slice b m c) ∧ Own w' w.heap.size (.slice b m c) X.flatten ∧ Below w.heap.size w w' := by
  have HA := Lib.hid h
  have HR := Lib.hid hr
  have HLn := Lib.hid (M.flat_small h.1 hr.2)
  have HT : Hid (∀ k, k < n → (X.take (k + 1)).flatten = (X.take k).flatten ++ X.getD k []) := fun k hk => M.flat_take (by rw [h.1]; exact hk)
  have HXl := Lib.hid h.1
  clear h hr
  go_enter Try.func129, Try.ntmps129
  go_wp2
  go_loopw [3, 4] (fun ov kv wr => ∃ (k m : Nat) (b : Option Addr) (c : Nat), k ≤ n ∧ kv = .int .i64 k ∧ ov = .slice b m c ∧ Hid (Own wr w.heap.size (.slice b m c) (X.take k).flatten) ∧ Hid (Below w.heap.size w wr)) (fun _ kv _ => n - (intOf kv).toNat)
  case atStart => exact ⟨0, 0, _, _, Nat.zero_le _, rfl, rfl, own_lit0 w _ (Nat.le_refl _), b_alloc _ _⟩
  case round =>
    obtain ⟨k, m, b, c, hk, rfl, rfl, HO, HB⟩ := hrel
    by_cases hlt : k < n
    · have hki : (k : Int) < (n : Int) := by omega
      obtain ⟨ab, ao, ra, rc, rfl, -, hcr, hIr⟩ := (HA.out.below HB.out).rect_at HR.out k hlt
      have HIr := Lib.hid hIr
      have HTk := Lib.hid (HT.out k hlt)
      have hlk := HLn.out k (by omega)
      have hkL : k * L ≤ 10 * 10 := Nat.mul_le_mul (by omega) l2
      have HLk : Hid ((X.take k).flatten.length ≤ 100) := by show _ ≤ _; omega
      clear hIr hlk hkL
      generalize (X.take k).flatten = Xk at *
      go_wp2_with (at_builtin; refine appendInts _ rfl (.tmp 12) (.tmp 16) rfl w.heap.size _ Xk (X.getD k []) rfl HO.out rfl HIr.out (by omega) (by have := HLk.out; omega) HB.out.size ?_)
      intro b4 c4 w4 hO4 hb4
      have HO4 := Lib.hid hO4
      have HB4 := Lib.hid (HB.out.trans hb4)
      clear hO4 hb4
      go_wp2
      go_roundw
      case rel => exact ⟨k + 1, _, b4, c4, by omega, by go_num, rfl, by show Own _ _ _ _; rw [HTk.out]; exact HO4.out, HB4⟩
      case measure => simp [intOf]; omega
    · obtain rfl : k = n := by omega
      have HTa : Hid (X.take k = X) := List.take_of_length_le (by have := HXl.out; omega)
      go_wp2
      go_ret
      exact ⟨_, _, _, rfl, by have := HO.out; rw [HTa.out] at this; exact this, HB.out⟩
def serF (a0 v1 v2 : Value) (i : Nat) : Value := if i = 0 then a0 else if i = 1 then v1 else v2
/-- A series that has been looked at up to its element k. -/
def IsSer (w0 w : World) (p : Nat) (a : Option Addr) (n cap : Nat) (R F : List (List Int)) (k : Nat) : Prop :=
  Below w0.heap.size w0 w ∧ w0.heap.size ≤ p ∧ ∃ b1 c1 b2 c2, w.rowIs p 81 3 (serF (.slice a n cap) (.slice b1 n c1) (.slice b2 (k + 1) c2)) ∧
    OwnP w w0.heap.size (fun q => q ≠ p) (.slice b1 n c1) (M.sq7 R F k) ∧ OwnP w w0.heap.size (fun q => q ≠ p) (.slice b2 (k + 1) c2) (M.sqL R F (k + 1))
theorem IsSer.keep {w0 w w' : World} {p n cap k : Nat} {a : Option Addr} {R F : List (List Int)} (h : IsSer w0 w p a n cap R F k) (hb : Below w.heap.size w w') : IsSer w0 w' p a n cap R F k := by
  obtain ⟨h1, h2, b1, c1, b2, c2, h3, h4, h5⟩ := h
  exact ⟨h1.trans (hb.mono h1.size), h2, b1, c1, b2, c2, World.rowIs.of_block h3 (hb.block p (World.rowIs.lt h3)), h4.below hb, h5.below hb⟩
theorem serF_set1 (a0 v1 v2 v : Value) : ∀ i, i < 3 → (if i = 1 then v else serF a0 v1 v2 i) = serF a0 v v2 i := fun i hi => by
  unfold serF
  by_cases e : i = 0
  · subst e; rfl
  · by_cases e1 : i = 1
    · simp [e, e1]
    · simp [e, e1]
theorem serF_set2 (a0 v1 v2 v : Value) : ∀ i, i < 3 → (if i = 2 then v else serF a0 v1 v2 i) = serF a0 v1 v i := fun i hi => by
  unfold serF
  by_cases e : i = 0
  · subst e; rfl
  · by_cases e1 : i = 1
    · subst e1; rfl
    · have : i = 2 := by omega
      subst this; rfl
set_option maxRecDepth 100000 in
set_option maxHeartbeats 1000000 in
theorem sStart7 (w0 : World) (a : Option Addr) (n cap L : Nat) (R F : List (List Int)) (b : Option Addr) (c : Nat) (w : World) (hb0 : Below w0.heap.size w0 w) (hF : OwnM w w0.heap.size (.slice b n c) F) (hr : Rect F n L) (n2 : n ≤ 10) (l1 : 1 ≤ L) (l2 : L ≤ 10) :
    Calls Try.prog 74 #[.slice a n cap, .slice b n c] w fun e w' => ∃ p, e = .returned (.pointer (some ⟨p, 0, none⟩)) ∧ IsSer w0 w' p a n cap R F 0 := by
  have HB0 := Lib.hid hb0
  have HF := Lib.hid hF
  have hz0 := hb0.size
  have HR := Lib.hid hr
  clear hb0 hF hr
  go_enter Try.func74, Try.ntmps74
  go_wp2_with fail
  refine (sFlat7 _ _ _ L F _ HF.out.mat HR.out n2 l1 l2).mono ?_
  rintro e w1 ⟨b1, m1, c1, rfl, ho, hb⟩
  have HO1 := Lib.hid ho
  have HF1 := Lib.hid (HF.out.below hb)
  have HB1 := Lib.hid (HB0.out.trans (hb.mono hz0))
  have hz1 := hb.size
  clear ho hb HF
  go_wp2
  go_ret
  refine ⟨w1.heap.size + 1, by simp, ?_⟩
  have hA : Below w1.heap.size w1 (w1.alloc (.cells #[.slice b1 m1 c1] 29)) := b_alloc _ _
  have hz : (w1.alloc (.cells #[.slice b1 m1 c1] 29)).heap.size = w1.heap.size + 1 := by simp
  have hLi : OwnM (w1.alloc (.cells #[.slice b1 m1 c1] 29)) w.heap.size (.slice (some ⟨w1.heap.size, 0, none⟩) 1 1) [F.flatten] := ownM_lit1 w1 _ hz1 HO1.out
  have hFi := HF1.out.below hA
  have hBi := HB1.out.trans (hA.mono (Nat.le_trans hz0 hz1))
  generalize w1.alloc (.cells #[.slice b1 m1 c1] 29) = wa at *
  have hA2 : ∀ o, Below wa.heap.size wa (wa.alloc o) := fun o => b_alloc _ _
  refine ⟨hBi.trans ((hA2 _).mono (by omega)), by omega, b, c, _, _, ?_, OwnP.below (hFi.toP fun k _ hk => by omega) (hA2 _), OwnP.below ((hLi.mono (by omega)).toP fun k _ hk => by omega) (hA2 _)⟩
  have := World.rowIs_alloc wa #[.slice a n cap, .slice b n c, .slice (some ⟨w1.heap.size, 0, none⟩) 1 1] 81 (serF (.slice a n cap) (.slice b n c) (.slice (some ⟨w1.heap.size, 0, none⟩) 1 1)) (fun i hi => by
    have hi : i < 3 := hi
    match i, hi with
    | 0, _ => rfl
    | 1, _ => rfl
    | 2, _ => rfl)
  rw [hz] at this
  exact this
end V
end Go.Proofs.Ytjljplolonpldaa

namespace Go.Proofs.Ytjljplolonpldaa.V
set_option maxRecDepth 100000
open Go.RowKit
def lenOf : Option Value → Nat
  | some (.slice _ n _) => n
  | _ => 0
/-- What a series stands on. -/
structure SerB (w0 : World) (a : Option Addr) (n L : Nat) (R F : List (List Int)) : Prop where
  mat : Mat w0 a n R
  rect : Rect R n n
  n1 : 1 ≤ n
  n2 : n ≤ 10
  sm : ∀ i j, i < n → j < n → M.Sm 1000000 (M.ent R i j)
  len : F.length = n
  wid : M.wid F = L
  l1 : 1 ≤ L
  l2 : L ≤ 10
theorem SerB.rlen {w0 : World} {a : Option Addr} {n L : Nat} {R F : List (List Int)} (h : SerB w0 a n L R F) : R.length = n := h.mat.1
theorem SerB.sq {w0 : World} {a : Option Addr} {n L : Nat} {R F : List (List Int)} (h : SerB w0 a n L R F) {k : Nat} (hk : M.okQ R F k = true) : Rect (M.sq7 R F k) n L ∧ ∀ i j, i < n → j < L → M.isVal (M.ent (M.sq7 R F k) i j) = true := by
  have hl := M.sq7_len (R := R) (F := F) (by rw [h.len, h.rlen]) k
  have hw := M.sq7_wid (R := R) (F := F) (by rw [h.rlen]; exact h.n1) k
  have hr := rect_mat hk
  rw [hl, hw, h.rlen, h.wid] at hr
  exact ⟨hr, fun i j hi hj => (M.isMat_t hk).2.2.2.2.2 i (by rw [hl, h.rlen]; exact hi) j (by rw [hw, h.wid]; exact hj)⟩
theorem SerB.next {w0 : World} {a : Option Addr} {n L : Nat} {R F : List (List Int)} (h : SerB w0 a n L R F) (k : Nat) : M.sq7 R F (k + 1) = M.mk n L fun i j => M.dot R (M.sq7 R F k) i j n := by
  show M.mulM R _ = _
  unfold M.mulM
  rw [M.sq7_wid (R := R) (F := F) (by rw [h.rlen]; exact h.n1) k, M.sq7_len (R := R) (F := F) (by rw [h.len, h.rlen]) k, h.rlen, h.wid]
theorem serL (w : World) {p n cap k : Nat} {w0 : World} {a : Option Addr} {R F : List (List Int)} (h : IsSer w0 w p a n cap R F k) : lenOf (w.cell? ⟨p, 2, none⟩) = k + 1 := by
  obtain ⟨-, -, b1, c1, b2, c2, h3, -⟩ := h
  have := World.rowIs.cell h3 (i := 2) (by omega)
  rw [this]
  rfl
set_option maxRecDepth 100000 in
set_option maxHeartbeats 4000000 in
theorem sAt7 (w0 : World) (a : Option Addr) (n cap L : Nat) (R F : List (List Int)) (p k0 q : Nat) (w : World) (hS : SerB w0 a n L R F) (h : IsSer w0 w p a n cap R F k0) (hok : M.okTo R F k0) (hq : q ≤ 200) :
    Calls Try.prog 101 #[.pointer (some ⟨p, 0, none⟩), .int .i64 q] w fun e w' =>
      (∃ k1, q ≤ k1 ∧ k0 ≤ k1 ∧ (k1 = k0 ∨ k1 = q) ∧ M.okTo R F k1 ∧ IsSer w0 w' p a n cap R F k1 ∧ ∃ ra m rc, e = .returned (.tuple #[.slice ra m rc, .bool true]) ∧ Ints .i64 w' ra m (M.sq7 R F q).flatten) ∨
      (∃ j, k0 < j ∧ j ≤ q ∧ M.okTo R F (j - 1) ∧ M.okQ R F j = false ∧ e = .returned (.tuple #[.slice none 0 0, .bool false]) ∧ Below w0.heap.size w0 w') := by
  have HS := Lib.hid hS
  have H0 := Lib.hid h
  have HOk := Lib.hid hok
  have n1 := hS.n1
  have n2 := hS.n2
  have l1 := hS.l1
  have l2 := hS.l2
  have HRB : Hid (∀ i j, i < n → j < n → M.Big (M.ent R i j)) := fun i j hi hj => M.big_sm (hS.sm i j hi hj) (by omega)
  clear hS h hok
  go_enter Try.func101, Try.ntmps101
  go_wp2
  go_loopw [6] (fun _ wr => ∃ k : Nat, k0 ≤ k ∧ (k = k0 ∨ k ≤ q) ∧ Hid (M.okTo R F k) ∧ Hid (IsSer w0 wr p a n cap R F k)) (fun _ wr => q + 1 - lenOf (wr.cell? ⟨p, 2, none⟩))
  case atStart => exact ⟨k0, Nat.le_refl _, .inl rfl, HOk, H0⟩
  case round =>
    obtain ⟨k, hk1, hk2, HOkk, HI⟩ := hrel
    obtain ⟨wo, rfl⟩ : ∃ x, x = wr := ⟨_, rfl⟩
    obtain ⟨hb0, hp, b1, c1, b2, c2, hrow, ho1, ho2⟩ := HI.out
    have HB := Lib.hid hb0
    have HRow := Lib.hid hrow
    have HO1 := Lib.hid ho1
    have HO2 := Lib.hid ho2
    have hpl := World.rowIs.lt hrow
    have s0 : wo.cell? ⟨p, 0, none⟩ = some (.slice a n cap) := World.rowIs.cell hrow (i := 0) (by omega)
    have s1 : wo.cell? ⟨p, 1, none⟩ = some (.slice b1 n c1) := World.rowIs.cell hrow (i := 1) (by omega)
    have s2 : wo.cell? ⟨p, 2, none⟩ = some (.slice b2 (k + 1) c2) := World.rowIs.cell hrow (i := 2) (by omega)
    clear hb0 hrow ho1 ho2
    by_cases hlt : k < q
    · have hle : (k : Int) + 1 ≤ (q : Int) := by omega
      obtain ⟨hrk, hvk⟩ := HS.out.sq (HOkk.out k (Nat.le_refl _))
      have HRk := Lib.hid hrk
      have HVk : Hid (∀ i j, i < n → j < L → M.Big (M.ent (M.sq7 R F k) i j)) := fun i j hi hj => M.big_val (hvk i j hi hj)
      have HNx := Lib.hid (HS.out.next k)
      clear hrk hvk
      go_wp2
      go_region_law (go_simp; go_at_call 119; refine (sMultiplyB a n cap n R b1 c1 L (M.sq7 R F k) _ ?ha ?hb1 HS.out.rect HRk.out HRB.out HVk.out n1 n2 n1 n2 l1 l2).mono ?_; (case ha => exact (HS.out.mat.below HB.out).below (Below.refl _ _).drew); (case hb1 => exact HO1.out.toM.mat.below (Below.refl _ _).drew); rintro e w1 ⟨b3, c3, rfl, ho3, hb3⟩; rw [← HNx.out] at ho3; have HO3 := Lib.hid ho3; have HB3 := Lib.hid hb3; have HR3 := Lib.hid (World.rowIs.of_block (w' := w1) HRow.out (hb3.block p hpl)); have t1 := World.rowIs.cell HR3.out (i := 1) (by omega); have t2 := World.rowIs.frozen HR3.out 1; clear ho3 hb3)
      all_goals
        have HRs := Lib.hid ((World.rowIs.set HR3.out 1 (.slice b3 n c3)).congr (serF_set1 _ _ _ _))
        have HO2s : Hid (OwnP (w1.setCell ⟨p, 1, none⟩ (.slice b3 n c3)) w0.heap.size (fun q => q ≠ p) (.slice b2 (k + 1) c2) (M.sqL R F (k + 1))) := (HO2.out.keep (w' := w1) fun j _ _ hj => HB3.out.block j hj).keep fun j hj _ _ => Below.heap_setCell _ _ _ _ hj
        have HO3s : Hid (OwnP (w1.setCell ⟨p, 1, none⟩ (.slice b3 n c3)) w0.heap.size (fun q => wo.heap.size ≤ q) (.slice b3 n c3) (M.sq7 R F (k + 1))) := ((HO3.out.toP (P := fun q => wo.heap.size ≤ q) fun j h1 _ => h1).mono (HB.out.size)).keep fun j hj _ _ => Below.heap_setCell _ _ _ _ (by show j ≠ p; omega)
        have HLb : Hid (∀ j, (Value.slice b2 (k + 1) c2).ownBlock = some j → j ≠ p ∧ j < wo.heap.size) := fun j hj => by
          obtain ⟨V, q0, q1, -⟩ := HO2.out
          exact ⟨q1 j hj, (own_lt q0.2.1 hj).2⟩
        have HBs : Hid (Below w0.heap.size w0 (w1.setCell ⟨p, 1, none⟩ (.slice b3 n c3))) := (HB.out.trans (((Below.refl _ wo).drew.trans (HB3.out.mono (Nat.le_refl _))).mono HB.out.size)).setCell hp _
        have HI0 := HI
        clear HR3 HO2 HO3 HB3 HRow HO1 HB HI t1 t2 s0 s1 s2
        generalize w1.setCell ⟨p, 1, none⟩ (.slice b3 n c3) = ws at *
        have u1 : ws.cell? ⟨p, 1, none⟩ = some (.slice b3 n c3) := World.rowIs.cell HRs.out (i := 1) (by omega)
        obtain ⟨bv, hbv⟩ : ∃ b, b = M.isMat (M.sq7 R F (k + 1)) := ⟨_, rfl⟩
        have HBv := Lib.hid hbv.symm
        clear hbv
        cases bv with
        | false =>
          go_wp2_with fail
          refine (sIsMatrixB_b _ _ _ (M.sq7 R F (k + 1)) _ false HBv.out HO3s.out.toM.mat).mono ?_
          rintro e w' ⟨rfl, hb⟩
          have HBe := Lib.hid (HBs.out.trans (hb.mono HBs.out.size))
          clear hb u1
          go_wp2
          go_ret2
          exact .inr ⟨k + 1, by omega, by omega, HOkk.out, HBv.out, rfl, HBe.out⟩
        | true =>
          have HOk2 : Hid (M.okTo R F (k + 1)) := fun j hj => by
            by_cases e : j = k + 1
            · subst e; exact HBv.out
            · exact HOkk.out j (by omega)
          have HRk2 := Lib.hid (HS.out.sq (k := k + 1) HBv.out).1
          go_wp2_with fail
          refine (sIsMatrixB_b _ _ _ (M.sq7 R F (k + 1)) _ true HBv.out HO3s.out.toM.mat).mono ?_
          rintro e w2 ⟨rfl, hb⟩
          have HR2 := Lib.hid (World.rowIs.of_block (w' := w2) HRs.out (hb.block p (World.rowIs.lt HRs.out)))
          have HL2 := Lib.hid (HO2s.out.below hb)
          have HM2 := Lib.hid (HO3s.out.below hb)
          have HB2 := Lib.hid (HBs.out.trans (hb.mono HBs.out.size))
          clear hb u1 HRs HO2s HO3s HBs
          have hp2 := World.rowIs.lt HR2.out
          have v1 : w2.cell? ⟨p, 1, none⟩ = some (.slice b3 n c3) := World.rowIs.cell HR2.out (i := 1) (by omega)
          have v2 : w2.cell? ⟨p, 2, none⟩ = some (.slice b2 (k + 1) c2) := World.rowIs.cell HR2.out (i := 2) (by omega)
          have HSl : Hid ((M.sqL R F (k + 1)).length = k + 1) := M.sqL_len _ _ _
          have HSn : Hid (M.sqL R F (k + 1) ++ [(M.sq7 R F (k + 1)).flatten] = M.sqL R F (k + 1 + 1)) := (M.sqL_next _ _ _).symm
          have hz2 : w0.heap.size ≤ w2.heap.size := HB2.out.size
          go_wp2
          go_region_law (first
            | (refine step_appendRowP w2.drew _ rfl _ _ rfl w0.heap.size (fun q => q ≠ p) _ (.slice b4 m4 c4) (M.sqL R F (k + 1)) (M.sq7 R F (k + 1)).flatten (k + 1) _ HSl.out rfl ?hown ?hb ?hro rfl ?hy (by omega) hz2 ?hP ?_; (case hown => exact HL2.out.below (Below.refl _ _).drew); (case hb => exact HB4.out.trans ((b_alloc _ _).mono HB4.out.size)); (case hro => exact HO4.out.below (b_alloc _ _)); (case hy => simp); (case hP => intro j hj; have : w2.heap.size ≤ j := hj; omega); intro b5 c5 w5 ho5 hb5 hk5; rw [HSn.out] at ho5; have HO5 := Lib.hid ho5; have HB5 := Lib.hid hb5; have HR5 := Lib.hid (World.rowIs.of_block (w' := w5) HR4.out ((hk5 p (by simp; have := HB4.out.size; have e : w2.drew.heap.size = w2.heap.size := rfl; omega) (fun e => (HLb.out p e).1 rfl)).trans (Below.heap_alloc _ _ _ (World.rowIs.lt HR4.out)))); have HK5 := Lib.hid hk5; have t2 := World.rowIs.cell HR5.out (i := 2) (by omega); have t3 := World.rowIs.frozen HR5.out 2; clear ho5 hb5 hk5)
            | (go_simp; go_at_call 129; refine (sFlat7 b3 n c3 L (M.sq7 R F (k + 1)) _ ?hm HRk2.out n2 l1 l2).mono ?_; (case hm => exact HM2.out.toM.mat.below (Below.refl _ _).drew); rintro e w4 ⟨b4, m4, c4, rfl, ho4, hb4⟩; have HO4 := Lib.hid ho4; have HB4 := Lib.hid hb4; have HR4 := Lib.hid (World.rowIs.of_block (w' := w4) HR2.out (hb4.block p hp2)); have t4 := World.rowIs.cell HR4.out (i := 2) (by omega); have t5 : ∀ o, (w4.alloc o).cell? ⟨p, 2, none⟩ = some (.slice b2 (k + 1) c2) := (fun o => (World.cell?_alloc_old _ _ _ (Nat.ne_of_lt (World.rowIs.lt HR4.out))).trans t4); clear ho4 hb4))
          all_goals
            have HIn : Hid (IsSer w0 (w5.setCell ⟨p, 2, none⟩ (.slice b5 (k + 1 + 1) c5)) p a n cap R F (k + 1)) := by
              refine ⟨?_, hp, b3, c3, b5, c5, (World.rowIs.set HR5.out 2 (.slice b5 (k + 1 + 1) c5)).congr (serF_set2 _ _ _ _), ?_, ?_⟩
              · have q1 : Below w0.heap.size w0 w4 := HB2.out.trans (((Below.refl _ w2).drew.trans (HB4.out.mono (Nat.le_refl _))).mono hz2)
                have q2 := (q1.trans ((b_alloc w4 (.cells #[.slice b4 m4 c4] 29)).mono q1.size)).trans HB5.out
                exact q2.setCell hp _
              · refine OwnP.imp (P := fun q => wo.heap.size ≤ q) (OwnP.keep (w := w5) (OwnP.keep (w := w2) HM2.out fun j hj h1 h2 => ?_) fun j hj _ _ => Below.heap_setCell _ _ _ _ (by show j ≠ p; omega)) fun j hj => by omega
                have hj4 : j < w4.heap.size := by have := HB4.out.size; have e : w2.drew.heap.size = w2.heap.size := rfl; omega
                exact ((HK5.out j (by simp; omega) (fun e => by have := (HLb.out j e).2; omega)).trans (Below.heap_alloc _ _ _ hj4)).trans (HB4.out.block j h2)
              · exact HO5.out.keep fun j hj _ _ => Below.heap_setCell _ _ _ _ hj
            go_wp2
            go_roundw
            case rel => exact ⟨k + 1, by omega, .inr (by omega), HOk2, HIn⟩
            case measure => rw [serL _ HIn.out, serL _ HI0.out]; omega
    · have hgt : ¬ ((k : Int) + 1 ≤ (q : Int)) := by omega
      have hqk : (q : Int) < (k : Int) + 1 := by omega
      obtain ⟨g2, ra, rc, rfl, hcr, hro⟩ := HO2.out.toM.row q (by omega)
      rw [M.sqL_get (show q < k + 1 by omega)] at hcr hro
      obtain ⟨mm, hmm⟩ : ∃ mm, mm = (M.sq7 R F q).flatten.length := ⟨_, rfl⟩
      rw [← hmm] at hcr hro
      have HRo := Lib.hid hro.ints'
      clear hro hmm
      go_wp2
      go_ret2
      refine .inl ⟨k, by omega, hk1, by omega, HOkk.out, HI.out, ?_⟩
      first
        | exact ⟨ra, mm, rc, rfl, HRo.out⟩
        | exact ⟨ra, mm, ⟨rc, rfl⟩, HRo.out⟩
end Go.Proofs.Ytjljplolonpldaa.V
