/- Texts laid together: Plg. -/
import Derived.Test.YtlljnfljcdljaaaQa16
import Derived.Test.YtlljnfljcdljaaaQa9
import Derived.Test.YtlljnfljcdljaaaQa8
set_option linter.unusedSimpArgs false
set_option linter.unusedVariables false
set_option linter.unusedSectionVars false
namespace Go.Proofs.Ytlljnfljcdljaaa
namespace M
theorem all_same_f {l l' : List Int} {T : List Nat} {k : Nat} (hk : k < T.length) (h : l.getD (T.getD k 0) 0 ≠ l'.getD (T.getD k 0) 0) : (T.all fun j => decide (l.getD j 0 = l'.getD j 0)) = false := by
  cases e : T.all fun j => decide (l.getD j 0 = l'.getD j 0) with
  | false => rfl
  | true =>
    rw [List.all_eq_true] at e
    have := e (T.getD k 0) (by rw [List.getD_eq_getElem?_getD, List.getElem?_eq_getElem hk]; exact List.getElem_mem _)
    exact absurd (of_decide_eq_true this) h
theorem all_same_t {l l' : List Int} {T : List Nat} (h : ∀ k, k < T.length → l.getD (T.getD k 0) 0 = l'.getD (T.getD k 0) 0) : (T.all fun j => decide (l.getD j 0 = l'.getD j 0)) = true := by
  rw [List.all_eq_true]
  intro x hx
  obtain ⟨j, hj, rfl⟩ := List.getElem_of_mem hx
  have := h j hj
  rw [List.getD_eq_getElem?_getD (l := T), List.getElem?_eq_getElem hj] at this
  exact decide_eq_true this
theorem iL_inj {T T' : List Nat} : iL T = iL T' ↔ T = T' := by
  constructor
  · intro h
    refine List.ext_getElem (by have := congrArg List.length h; rw [iL_len, iL_len] at this; exact this) fun i a b => ?_
    have := congrArg (fun l => l.getD i 0) h
    simp only [iL_get a, iL_get b] at this
    rw [List.getD_eq_getElem?_getD, List.getD_eq_getElem?_getD, List.getElem?_eq_getElem a, List.getElem?_eq_getElem b] at this
    have h3 : ((T[i] : Nat) : Int) = ((T'[i] : Nat) : Int) := by simpa using this
    omega
  · rintro rfl; rfl
end M
namespace V
set_option maxRecDepth 100000
open Go.RowKit
/-- A truth value and a code. -/
def BPost9 (r : Bool × Int) (w : World) (e : Ending) (w' : World) : Prop := e = .returned (.tuple #[.bool r.1, .int .i64 r.2]) ∧ Below w.heap.size w w'
set_option maxRecDepth 100000 in
set_option maxHeartbeats 1000000 in
theorem sEssentialTerms (a : Option Addr) (n cap : Nat) (l : List Int) (w : World) (h : Ints .i64 w a n l) :
    Calls Try.prog 39 #[.slice a n cap] w (VRes (M.termRes l) w) := by
  have HI := Lib.hid h
  obtain ⟨v1, hv1⟩ : ∃ v, v = M.isPoly l := ⟨_, rfl⟩
  have HV1 := Lib.hid hv1.symm
  cases v1 with
  | false =>
    have HE : Hid (M.termRes l = ([], 1)) := by show _ = _; unfold M.termRes; rw [← hv1]; rfl
    clear h hv1
    go_enter Try.func39, Try.ntmps39
    go_wp2_with fail
    refine (sIsPolynomial_b _ _ _ l _ false HV1.out HI.out).mono ?_
    rintro e w' ⟨rfl, rfl⟩
    go_wp2
    go_ret2
    exact VRes.nil HE.out (Below.refl _ _)
  | true =>
    have HE : Hid (M.termRes l = (M.iL (M.tL l), 0)) := by show _ = _; unfold M.termRes; rw [← hv1]; rfl
    obtain ⟨-, p2, p3, -⟩ := M.isPoly_t hv1.symm
    rw [h.1] at p2
    have HV : Hid (∀ i, i < n → M.isVal (l.getD i 0) = true) := fun i hi => p3 i (by rw [h.1]; exact hi)
    clear h hv1 p3
    go_enter Try.func39, Try.ntmps39
    go_wp2_with fail
    refine (sIsPolynomial_b _ _ _ l _ true HV1.out HI.out).mono ?_
    rintro e w' ⟨rfl, rfl⟩
    go_wp2_with fail
    refine (sTerms9 _ _ _ l _ HI.out p2 HV.out).mono ?_
    rintro e w1 ⟨b1, c1, rfl, ho, hb⟩
    have HO := Lib.hid ho
    have HB := Lib.hid hb
    clear ho hb
    go_wp2
    go_ret2
    rw [HE.out]
    exact ⟨_, _, _, rfl, HO.out, HB.out⟩
set_option maxRecDepth 100000 in
set_option maxHeartbeats 1000000 in
theorem differs1 (Bc Bd : Nat) (a : Option Addr) (n cap : Nat) (l : List Int) (a' : Option Addr) (n' cap' : Nat) (l' : List Int) (j : Nat) (w : World) (h : Ints .i64 w a n l) (h' : Ints .i64 w a' n' l') (hc : w.cell? ⟨Bc, 0, none⟩ = some (.slice a n cap)) (hd : w.cell? ⟨Bd, 0, none⟩ = some (.slice a' n' cap')) (hj : j < n) (hj' : j < n') :
    Calls Try.prog 79 #[.int .i64 j, .pointer (some ⟨Bc, 0, none⟩), .pointer (some ⟨Bd, 0, none⟩)] w fun e w' => e = .returned (.bool (decide (l.getD j 0 ≠ l'.getD j 0))) ∧ ∃ q, w' = w.drewN q := by
  obtain ⟨b, off, x, rfl, -, hx, hcx⟩ := h.at j hj
  obtain ⟨b', off', y, rfl, -, hy, hcy⟩ := h'.at j hj'
  rw [← hx, ← hy]
  have hji : (j : Int) < (n : Int) := by omega
  have hji' : (j : Int) < (n' : Int) := by omega
  clear hx hy h h'
  go_enter Try.func79, Try.ntmps79
  go_wp2
  go_quiet (fail)
  go_wp2
  go_ret
  refine ⟨retB ?_, _, rfl⟩
  by_cases e : x = y
  · subst e; simp
  · simp [e]
set_option maxRecDepth 100000 in
set_option maxHeartbeats 1000000 in
theorem indexDiff (Bc Bd : Nat) (a : Option Addr) (n cap : Nat) (l : List Int) (a' : Option Addr) (n' cap' : Nat) (l' : List Int) (b : Option Addr) (L c : Nat) (T : List Nat) (w : World) (h : Ints .i64 w a n l) (h' : Ints .i64 w a' n' l') (hc : w.cell? ⟨Bc, 0, none⟩ = some (.slice a n cap)) (hd : w.cell? ⟨Bd, 0, none⟩ = some (.slice a' n' cap'))
    (hT : Ints .i64 w b L (M.iL T)) (hlt : ∀ j, j < L → T.getD j 0 < n ∧ T.getD j 0 < n') :
    Calls Try.prog 98 #[.slice b L c, .func (.func 79) #[] #[.pointer (some ⟨Bc, 0, none⟩), .pointer (some ⟨Bd, 0, none⟩)]] w fun e w' => (∃ q, w' = w.drewN q) ∧
      ((e = .returned (.int .i64 (-1)) ∧ (T.all fun j => decide (l.getD j 0 = l'.getD j 0)) = true) ∨ ∃ j : Nat, e = .returned (.int .i64 j) ∧ (T.all fun j => decide (l.getD j 0 = l'.getD j 0)) = false) := by
  have HTI := Lib.hid hT
  have HLt := Lib.hid hlt
  have HTL : Hid (T.length = L) := by have := hT.1; rw [M.iL_len] at this; exact this
  have hm := hT.2.1
  unfold maxLen at hm
  have HD : Hid (∀ q j, j < n → j < n' → Calls Try.prog 79 #[.int .i64 j, .pointer (some ⟨Bc, 0, none⟩), .pointer (some ⟨Bd, 0, none⟩)] (w.drewN q) fun e w' => e = .returned (.bool (decide (l.getD j 0 ≠ l'.getD j 0))) ∧ ∃ q', w' = (w.drewN q).drewN q') := fun q j hj hj' => differs1 Bc Bd a n cap l a' n' cap' l' j (w.drewN q) (h.below (b_draws w q)) (h'.below (b_draws w q)) hc hd hj hj'
  clear hT hlt h h' hc hd
  go_enter Try.func98, Try.ntmps98
  go_wp2
  go_loopw [5, 8] (fun _ iv wr => ∃ k : Nat, k ≤ L ∧ iv = .int .i64 k ∧ Hid (∀ j, j < k → l.getD (T.getD j 0) 0 = l'.getD (T.getD j 0) 0) ∧ Hid (∃ q, wr = w.drewN q)) (fun _ iv _ => L - (intOf iv).toNat)
  case atStart => exact ⟨0, Nat.zero_le _, rfl, fun j hj => absurd hj (Nat.not_lt_zero j), 0, rfl⟩
  case round =>
    obtain ⟨k, hk, rfl, HA, HW⟩ := hrel
    obtain ⟨q, hq⟩ := HW.out
    subst hq
    by_cases hkl : k < L
    · have hki : (k : Int) < (L : Int) := by omega
      obtain ⟨tb, to, tv, rfl, -, htv, hct⟩ := (HTI.out.below (b_draws w q)).at k hkl
      rw [M.iL_get (by have := HTL.out; omega)] at htv
      obtain ⟨j, hj⟩ : ∃ j, j = T.getD k 0 := ⟨_, rfl⟩
      rw [← hj] at htv
      have hlt := HLt.out k hkl
      rw [← hj] at hlt
      have hcall := HD.out q j hlt.1 hlt.2
      have HJ := Lib.hid hj
      subst htv
      by_cases he : l.getD j 0 = l'.getD j 0
      · have hb : decide (l.getD j 0 ≠ l'.getD j 0) = false := by simpa using he
        rw [hb] at hcall
        have HCa := Lib.hid hcall
        have HE := Lib.hid he
        clear hcall he hb hj hlt
        go_wp2_with (go_at_call 79; refine (HCa.out).mono ?_; rintro e w' ⟨rfl, q', rfl⟩)
        go_roundw
        case rel => exact ⟨k + 1, by omega, by go_num, fun x hx => by rcases Nat.lt_or_ge x k with h | h; exact HA.out x h; rw [show x = k by omega, ← HJ.out]; exact HE.out, q + q', rfl⟩
        case measure => simp [intOf]; omega
      · have hb : decide (l.getD j 0 ≠ l'.getD j 0) = true := by simpa using he
        rw [hb] at hcall
        have HCa := Lib.hid hcall
        have HE : Hid ((T.all fun j => decide (l.getD j 0 = l'.getD j 0)) = false) := M.all_same_f (k := k) (by have := HTL.out; omega) (by rw [← hj]; exact he)
        clear hcall he hb hj hlt
        go_wp2_with (go_at_call 79; refine (HCa.out).mono ?_; rintro e w' ⟨rfl, q', rfl⟩)
        go_ret
        exact ⟨⟨q + q', rfl⟩, .inr ⟨k, rfl, HE.out⟩⟩
    · obtain rfl : k = L := by omega
      have HE : Hid ((T.all fun j => decide (l.getD j 0 = l'.getD j 0)) = true) := M.all_same_t (fun j hj => HA.out j (by have := HTL.out; omega))
      go_wp2
      go_ret
      exact ⟨⟨q, rfl⟩, .inl ⟨rfl, HE.out⟩⟩
set_option maxRecDepth 100000 in
set_option maxHeartbeats 1000000 in
theorem containsDiff (Bc Bd : Nat) (a : Option Addr) (n cap : Nat) (l : List Int) (a' : Option Addr) (n' cap' : Nat) (l' : List Int) (b : Option Addr) (L c : Nat) (T : List Nat) (w : World) (v : Bool) (h : Ints .i64 w a n l) (h' : Ints .i64 w a' n' l') (hc : w.cell? ⟨Bc, 0, none⟩ = some (.slice a n cap)) (hd : w.cell? ⟨Bd, 0, none⟩ = some (.slice a' n' cap'))
    (hT : Ints .i64 w b L (M.iL T)) (hlt : ∀ j, j < L → T.getD j 0 < n ∧ T.getD j 0 < n') (hv : (T.all fun j => decide (l.getD j 0 = l'.getD j 0)) = v) :
    Calls Try.prog 80 #[.slice b L c, .func (.func 79) #[] #[.pointer (some ⟨Bc, 0, none⟩), .pointer (some ⟨Bd, 0, none⟩)]] w fun e w' => e = .returned (.bool (!v)) ∧ ∃ q, w' = w.drewN q := by
  have HC := Lib.hid (indexDiff Bc Bd a n cap l a' n' cap' l' b L c T w h h' hc hd hT hlt)
  have HV := Lib.hid hv
  clear h h' hc hd hT hlt hv
  go_enter Try.func80, Try.ntmps80
  go_wp2_with fail
  refine (HC.out).mono ?_
  rintro e w1 ⟨⟨q, rfl⟩, ⟨rfl, hall⟩ | ⟨j, rfl, hall⟩⟩
  · rw [HV.out] at hall
    subst hall
    go_wp2
    go_ret
    exact ⟨rfl, q, rfl⟩
  · rw [HV.out] at hall
    subst hall
    have hj0 : (0 : Int) ≤ (j : Int) := by omega
    go_wp2
    go_ret
    exact ⟨rfl, q, rfl⟩
set_option maxRecDepth 100000 in
set_option maxHeartbeats 400000 in
theorem slicesEqual_ne (a : Option Addr) (n cap : Nat) (a' : Option Addr) (n' cap' : Nat) (w : World) (hn : n ≠ n') :
    Calls Try.prog 78 #[.slice a n cap, .slice a' n' cap'] w fun e w' => e = .returned (.bool false) ∧ ∃ q, w' = w.drewN q := by
  have hne : ¬ (n : Int) = (n' : Int) := by omega
  have hb : ((n : Int) != (n' : Int)) = true := by simpa using hne
  have hb2 : ((n : Int) == (n' : Int)) = false := by simpa using hne
  go_enter Try.func78, Try.ntmps78
  go_wp2
  go_ret
  exact ⟨rfl, 0, rfl⟩
set_option maxRecDepth 100000 in
set_option maxHeartbeats 2000000 in
theorem sameFunction (a : Option Addr) (n cap : Nat) (l : List Int) (a' : Option Addr) (n' cap' : Nat) (l' : List Int) (w : World) (h : Ints .i64 w a n l) (h' : Ints .i64 w a' n' l') :
    Calls Try.prog 36 #[.slice a n cap, .slice a' n' cap'] w (BPost9 (M.sameRes l l') w) := by
  obtain ⟨w0, hw0⟩ : ∃ w0, w0 = (w.alloc (.cells #[.slice a n cap] 24)).alloc (.cells #[.slice a' n' cap'] 24) := ⟨_, rfl⟩
  have hb0 : Below w.heap.size w w0 := by rw [hw0]; exact b_alloc2 _ _ _
  have HB0 := Lib.hid hb0
  have HI := Lib.hid (h.below hb0)
  have HI' := Lib.hid (h'.below hb0)
  have hc : w0.cell? ⟨w.heap.size, 0, none⟩ = some (.slice a n cap) := by rw [hw0, World.cell?_alloc_old _ _ _ (by simp)]; simp
  have hd : w0.cell? ⟨w.heap.size + 1, 0, none⟩ = some (.slice a' n' cap') := by
    have h := World.alloc_heap_new (w.alloc (.cells #[.slice a n cap] 24)) (.cells #[.slice a' n' cap'] 24)
    rw [World.size_alloc] at h
    rw [hw0]
    simp only [World.cell?, h]
    rfl
  have HC := Lib.hid hc
  have HD := Lib.hid hd
  have hbk : w.heap.size + 1 < w0.heap.size := by rw [hw0]; simp
  have HBK := Lib.hid hbk
  obtain ⟨v1, hv1⟩ : ∃ v, v = M.isPoly l := ⟨_, rfl⟩
  have HV1 := Lib.hid hv1.symm
  cases v1 with
  | false =>
    have HE : Hid (M.sameRes l l' = (false, 1)) := by show _ = _; unfold M.sameRes; rw [← hv1]; rfl
    clear h h' hv1 hb0 hbk
    go_enter Try.func36, Try.ntmps36
    go_wp2_with fail
    simp only [← hw0]
    clear hw0
    refine (isPolynomial_b _ _ _ l _ false HV1.out HI.out).mono ?_
    rintro e w' ⟨rfl, rfl⟩
    go_wp2
    go_ret2
    rw [HE.out]
    exact ⟨rfl, HB0.out⟩
  | true =>
    obtain ⟨v2, hv2⟩ : ∃ v, v = M.isPoly l' := ⟨_, rfl⟩
    have HV2 := Lib.hid hv2.symm
    cases v2 with
    | false =>
      have HE : Hid (M.sameRes l l' = (false, 1)) := by show _ = _; unfold M.sameRes; rw [← hv1, ← hv2]; rfl
      clear h h' hv1 hv2 hb0 hbk
      go_enter Try.func36, Try.ntmps36
      go_wp2_with fail
      simp only [← hw0]
      clear hw0
      refine (isPolynomial_b _ _ _ l _ true HV1.out HI.out).mono ?_
      rintro e w' ⟨rfl, rfl⟩
      go_wp2_with fail
      refine (isPolynomial_b _ _ _ l' _ false HV2.out HI'.out).mono ?_
      rintro e w' ⟨rfl, rfl⟩
      go_wp2
      go_ret2
      rw [HE.out]
      exact ⟨rfl, HB0.out⟩
    | true =>
      have HE : Hid (M.sameRes l l' = (M.sameB l l', 0)) := by show _ = _; unfold M.sameRes; rw [← hv1, ← hv2]; rfl
      obtain ⟨-, p2, p3, -⟩ := M.isPoly_t hv1.symm
      obtain ⟨-, q2, q3, -⟩ := M.isPoly_t hv2.symm
      rw [h.1] at p2
      rw [h'.1] at q2
      have HV : Hid (∀ i, i < n → M.isVal (l.getD i 0) = true) := fun i hi => p3 i (by rw [h.1]; exact hi)
      have HV' : Hid (∀ i, i < n' → M.isVal (l'.getD i 0) = true) := fun i hi => q3 i (by rw [h'.1]; exact hi)
      have HLt : Hid (∀ j, j < (M.tL l).length → (M.tL l).getD j 0 < n) := fun j hj => by have := M.tL_lt hj; rw [h.1] at this; exact this
      have HLt' : Hid (∀ j, j < (M.tL l').length → (M.tL l').getD j 0 < n') := fun j hj => by have := M.tL_lt hj; rw [h'.1] at this; exact this
      have HL12 : Hid ((M.tL l).length ≤ 12) := by show _ ≤ _; have := M.tL_len l; rw [h.1] at this; omega
      clear h h' hv1 hv2 hb0 hbk p3 q3
      go_enter Try.func36, Try.ntmps36
      go_wp2_with fail
      simp only [← hw0]
      clear hw0
      refine (isPolynomial_b _ _ _ l _ true HV1.out HI.out).mono ?_
      rintro e w' ⟨rfl, rfl⟩
      go_wp2_with fail
      refine (isPolynomial_b _ _ _ l' _ true HV2.out HI'.out).mono ?_
      rintro e w' ⟨rfl, rfl⟩
      go_wp2_with fail
      refine (essentialTerms _ _ _ l _ HI.out p2 HV.out).mono ?_
      rintro e w1 ⟨b1, c1, rfl, ho1, hb1⟩
      have HO1 := Lib.hid ho1
      have HB1 := Lib.hid hb1
      have hd1 := (hb1.cell (p := ⟨w.heap.size + 1, 0, none⟩) HBK.out).trans HD.out
      clear ho1 hb1 hc hd
      go_wp2_with fail
      refine (essentialTerms _ _ _ l' _ (HI'.out.below HB1.out) q2 HV'.out).mono ?_
      rintro e w2 ⟨b2, c2, rfl, ho2, hb2⟩
      have HO2 := Lib.hid ho2
      have HO1b := Lib.hid (HO1.out.below hb2)
      have HB2 := Lib.hid (HB1.out.trans (hb2.mono HB1.out.size))
      clear ho2 hb2 hd1
      obtain ⟨L1, hL1⟩ : ∃ L1, L1 = (M.tL l).length := ⟨_, rfl⟩
      obtain ⟨L2, hL2⟩ : ∃ L2, L2 = (M.tL l').length := ⟨_, rfl⟩
      rw [← hL1] at HO1b HL12 ⊢
      rw [← hL2] at HO2 ⊢
      have HL1 := Lib.hid hL1
      have HL2 := Lib.hid hL2
      clear hL1 hL2 HO1
      by_cases hLL : L1 = L2
      · subst hLL
        have HBf : Hid (M.sameB l l' = (decide (M.iL (M.tL l) = M.iL (M.tL l')) && (M.tL l).all fun j => decide (l.getD j 0 = l'.getD j 0))) := by
          show _ = _
          unfold M.sameB
          congr 1
          exact decide_eq_decide.2 M.iL_inj.symm
        go_wp2_with fail
        refine (slicesEqual _ _ _ _ _ _ _ _ HO1b.out.ints' HO2.out.ints' (by have := HL12.out; omega)).mono ?_
        rintro e w' ⟨rfl, q, rfl⟩
        by_cases hT : M.tL l = M.tL l'
        · have hdec : decide (M.iL (M.tL l) = M.iL (M.tL l')) = true := decide_eq_true (by rw [hT])
          obtain ⟨v, hv⟩ : ∃ v, v = (M.tL l).all fun j => decide (l.getD j 0 = l'.getD j 0) := ⟨_, rfl⟩
          have HEv : Hid (M.sameRes l l' = (v, 0)) := by show _ = _; rw [HE.out, HBf.out, hdec, ← hv]; rfl
          have HVv := Lib.hid hv.symm
          have HT := Lib.hid hT
          rw [hdec]
          clear hdec hv hT
          go_wp2_with fail
          refine (containsDiff w.heap.size (w.heap.size + 1) a n cap l a' n' cap' l' b1 L1 c1 (M.tL l) _ v ((HI.out.below HB2.out).below (b_draws _ _)) ((HI'.out.below HB2.out).below (b_draws _ _)) ?k1 ?k2 (HO1b.out.ints'.below (b_draws _ _)) (fun j hj => ⟨HLt.out j (by rw [← HL1.out]; exact hj), by rw [HT.out]; exact HLt'.out j (by rw [← HT.out, ← HL1.out]; exact hj)⟩) HVv.out).mono ?_
          case k1 => exact (HB2.out.cell (p := ⟨w.heap.size, 0, none⟩) (by have := HBK.out; show w.heap.size < _; omega)).trans HC.out
          case k2 => exact (HB2.out.cell (p := ⟨w.heap.size + 1, 0, none⟩) HBK.out).trans HD.out
          rintro e w' ⟨rfl, q', rfl⟩
          go_wp2
          go_ret2
          rw [HEv.out]
          refine ⟨by simp, ?_⟩
          exact below_drewN (HB0.out.trans (HB2.out.mono HB0.out.size)) _
        · have hdec : decide (M.iL (M.tL l) = M.iL (M.tL l')) = false := decide_eq_false (fun e => hT (M.iL_inj.1 e))
          have HEv : Hid (M.sameRes l l' = (false, 0)) := by show _ = _; rw [HE.out, HBf.out, hdec]; rfl
          rw [hdec]
          clear hdec hT
          go_wp2
          go_ret2
          rw [HEv.out]
          exact ⟨rfl, below_drewN (HB0.out.trans (HB2.out.mono HB0.out.size)) _⟩
      · have HEv : Hid (M.sameRes l l' = (false, 0)) := by
          show _ = _
          rw [HE.out]
          unfold M.sameB
          rw [decide_eq_false (fun e => hLL (by rw [HL1.out, HL2.out, e]))]; rfl
        go_wp2_with fail
        refine (slicesEqual_ne _ _ _ _ _ _ _ hLL).mono ?_
        rintro e w' ⟨rfl, q, rfl⟩
        go_wp2
        go_ret2
        rw [HEv.out]
        exact ⟨rfl, below_drewN (HB0.out.trans (HB2.out.mono HB0.out.size)) _⟩
set_option maxRecDepth 100000 in
set_option maxHeartbeats 2000000 in
theorem sSameFunction (a : Option Addr) (n cap : Nat) (l : List Int) (a' : Option Addr) (n' cap' : Nat) (l' : List Int) (w : World) (h : Ints .i64 w a n l) (h' : Ints .i64 w a' n' l') :
    Calls Try.prog 37 #[.slice a n cap, .slice a' n' cap'] w (BPost9 (M.sameRes l l') w) := by
  have HI := Lib.hid h
  have HI' := Lib.hid h'
  obtain ⟨v1, hv1⟩ : ∃ v, v = M.isPoly l := ⟨_, rfl⟩
  have HV1 := Lib.hid hv1.symm
  cases v1 with
  | false =>
    have HE : Hid (M.sameRes l l' = (false, 1)) := by show _ = _; unfold M.sameRes; rw [← hv1]; rfl
    clear h h' hv1
    go_enter Try.func37, Try.ntmps37
    go_wp2_with fail
    refine (sIsPolynomial_b _ _ _ l _ false HV1.out HI.out).mono ?_
    rintro e w' ⟨rfl, rfl⟩
    go_wp2
    go_ret2
    rw [HE.out]
    exact ⟨rfl, Below.refl _ _⟩
  | true =>
    obtain ⟨v2, hv2⟩ : ∃ v, v = M.isPoly l' := ⟨_, rfl⟩
    have HV2 := Lib.hid hv2.symm
    cases v2 with
    | false =>
      have HE : Hid (M.sameRes l l' = (false, 1)) := by show _ = _; unfold M.sameRes; rw [← hv1, ← hv2]; rfl
      clear h h' hv1 hv2
      go_enter Try.func37, Try.ntmps37
      go_wp2_with fail
      refine (sIsPolynomial_b _ _ _ l _ true HV1.out HI.out).mono ?_
      rintro e w' ⟨rfl, rfl⟩
      go_wp2_with fail
      refine (sIsPolynomial_b _ _ _ l' _ false HV2.out HI'.out).mono ?_
      rintro e w' ⟨rfl, rfl⟩
      go_wp2
      go_ret2
      rw [HE.out]
      exact ⟨rfl, Below.refl _ _⟩
    | true =>
      have HE : Hid (M.sameRes l l' = (M.sameB l l', 0)) := by show _ = _; unfold M.sameRes; rw [← hv1, ← hv2]; rfl
      obtain ⟨-, p2, p3, -⟩ := M.isPoly_t hv1.symm
      obtain ⟨-, q2, q3, -⟩ := M.isPoly_t hv2.symm
      rw [h.1] at p2
      rw [h'.1] at q2
      have HV : Hid (∀ i, i < n → M.isVal (l.getD i 0) = true) := fun i hi => p3 i (by rw [h.1]; exact hi)
      have HV' : Hid (∀ i, i < n' → M.isVal (l'.getD i 0) = true) := fun i hi => q3 i (by rw [h'.1]; exact hi)
      have HLt : Hid (∀ j, j < (M.tL l).length → (M.tL l).getD j 0 < n) := fun j hj => by have := M.tL_lt hj; rw [h.1] at this; exact this
      have HLt' : Hid (∀ j, j < (M.tL l').length → (M.tL l').getD j 0 < n') := fun j hj => by have := M.tL_lt hj; rw [h'.1] at this; exact this
      have HL12 : Hid ((M.tL l).length ≤ 12) := by show _ ≤ _; have := M.tL_len l; rw [h.1] at this; omega
      clear h h' hv1 hv2 p3 q3
      go_enter Try.func37, Try.ntmps37
      go_wp2_with fail
      refine (sIsPolynomial_b _ _ _ l _ true HV1.out HI.out).mono ?_
      rintro e w' ⟨rfl, rfl⟩
      go_wp2_with fail
      refine (sIsPolynomial_b _ _ _ l' _ true HV2.out HI'.out).mono ?_
      rintro e w' ⟨rfl, rfl⟩
      go_wp2_with fail
      refine (sTerms9 _ _ _ l _ HI.out p2 HV.out).mono ?_
      rintro e w1 ⟨b1, c1, rfl, ho1, hb1⟩
      have HO1 := Lib.hid ho1
      have HB1 := Lib.hid hb1
      clear ho1 hb1
      go_wp2_with fail
      refine (sTerms9 _ _ _ l' _ (HI'.out.below HB1.out) q2 HV'.out).mono ?_
      rintro e w2 ⟨b2, c2, rfl, ho2, hb2⟩
      have HO2 := Lib.hid ho2
      have HO1b := Lib.hid (HO1.out.below hb2)
      have HB2 := Lib.hid (HB1.out.trans (hb2.mono HB1.out.size))
      clear ho2 hb2
      obtain ⟨T, hT⟩ : ∃ T, T = M.tL l := ⟨_, rfl⟩
      obtain ⟨T', hT'⟩ : ∃ T', T' = M.tL l' := ⟨_, rfl⟩
      have HBf : Hid (M.sameB l l' = (decide (M.iL T = M.iL T') && T.all fun j => decide (l.getD j 0 = l'.getD j 0))) := by
        show _ = _
        unfold M.sameB
        rw [hT, hT']
        congr 1
        exact decide_eq_decide.2 M.iL_inj.symm
      rw [← hT] at HO1b HL12 HLt ⊢
      rw [← hT'] at HO2 HLt' ⊢
      clear hT hT' HO1
      obtain ⟨L1, hL1⟩ : ∃ L1, L1 = T.length := ⟨_, rfl⟩
      obtain ⟨L2, hL2⟩ : ∃ L2, L2 = T'.length := ⟨_, rfl⟩
      rw [← hL1] at HO1b HL12 HLt ⊢
      rw [← hL2] at HO2 HLt' ⊢
      have HL1 := Lib.hid hL1
      clear hL1 hL2
      go_wp2_with fail
      refine (sSame _ _ _ _ _ _ _ _ _ HO1b.out.ints' HO2.out.ints').mono ?_
      rintro e w' ⟨v, rfl, hv, q, rfl⟩
      cases v with
      | false =>
        have HEv : Hid (M.sameRes l l' = (false, 0)) := by show _ = _; rw [HE.out, HBf.out, ← hv.out]; rfl
        clear hv
        go_wp2
        go_ret2
        rw [HEv.out]
        exact ⟨rfl, below_drewN HB2.out _⟩
      | true =>
        have hTT : T = T' := M.iL_inj.1 (of_decide_eq_true hv.out.symm)
        have HEv : Hid (M.sameRes l l' = (T.all fun j => decide (l.getD j 0 = l'.getD j 0), 0)) := by show _ = _; rw [HE.out, HBf.out, ← hv.out]; rfl
        have hLL : L1 = L2 := by
          have e1 := HO1b.out.len
          have e2 := HO2.out.len
          rw [M.iL_len] at e1 e2
          rw [e1, e2, hTT]
        subst hLL
        have HTT := Lib.hid hTT
        have HT1 : Hid (Ints .i64 w2 b1 L1 (M.iL T)) := HO1b.out.ints'
        have HT2 : Hid (Ints .i64 w2 b2 L1 (M.iL T)) := by show Ints _ _ _ _ _; rw [HTT.out]; exact HO2.out.ints'
        have HW : Hid (Ints .i64 w2 a n l ∧ Ints .i64 w2 a' n' l') := ⟨HI.out.below HB2.out, HI'.out.below HB2.out⟩
        clear hv hTT
        go_wp2
        go_loopw [8] (fun iv wr => ∃ k : Nat, k ≤ L1 ∧ iv = .int .i64 k ∧ Hid (∀ j, j < k → l.getD (T.getD j 0) 0 = l'.getD (T.getD j 0) 0) ∧ Hid (∃ q, wr = w2.drewN q)) (fun iv _ => L1 - (intOf iv).toNat)
        case atStart => exact ⟨0, Nat.zero_le _, rfl, fun j hj => absurd hj (Nat.not_lt_zero j), q, rfl⟩
        case round =>
          obtain ⟨k, hk, rfl, HA, HQ⟩ := hrel
          obtain ⟨q2, hq2⟩ := HQ.out
          subst hq2
          by_cases hkl : k < L1
          · have hki : (k : Int) < (L1 : Int) := by omega
            obtain ⟨tb, to, tv, rfl, -, htv, hct⟩ := HT1.out.at k hkl
            obtain ⟨ub, uo, uv, rfl, -, huv, hcu⟩ := HT2.out.at k hkl
            rw [M.iL_get (by have := HL1.out; omega)] at htv huv
            obtain ⟨j, hj⟩ : ∃ j, j = T.getD k 0 := ⟨_, rfl⟩
            rw [← hj] at htv huv
            have hlt := HLt.out k hkl
            have hlt' := HLt'.out k hkl
            rw [← HTT.out] at hlt'
            rw [← hj] at hlt hlt'
            subst htv huv
            obtain ⟨xb, xo, x, rfl, -, hx, hcx⟩ := HW.out.1.at j hlt
            obtain ⟨yb, yo, y, rfl, -, hy, hcy⟩ := HW.out.2.at j hlt'
            have hji : (j : Int) < (n : Int) := by omega
            have hji' : (j : Int) < (n' : Int) := by omega
            have hL12 := HL12.out
            have HJ := Lib.hid hj
            have HX := Lib.hid hx
            have HY := Lib.hid hy
            clear hj hx hy
            by_cases he : x = y
            · subst he
              go_wp2
              go_quiet (fail)
              go_wp2
              go_roundw
              case rel => exact ⟨k + 1, by omega, by go_num, fun i hi => by rcases Nat.lt_or_ge i k with h | h; exact HA.out i h; rw [show i = k by omega, ← HJ.out, ← HX.out, ← HY.out], by first | exact ⟨_, rfl⟩ | exact ⟨_, World.drewN_drewN _ _ _⟩⟩
              case measure => simp [intOf]; omega
            · have hb : (x == y) = false := by simpa using he
              have hb2 : (x != y) = true := by simpa using he
              have HF : Hid ((T.all fun j => decide (l.getD j 0 = l'.getD j 0)) = false) := M.all_same_f (k := k) (by have := HL1.out; omega) (by rw [← HJ.out, ← HX.out, ← HY.out]; exact he)
              go_wp2
              go_quiet (fail)
              go_wp2
              go_ret2
              rw [HEv.out, HF.out]
              exact ⟨rfl, below_drewN (below_drewN HB2.out _) _⟩
          · obtain rfl : k = L1 := by omega
            have HF : Hid ((T.all fun j => decide (l.getD j 0 = l'.getD j 0)) = true) := M.all_same_t (fun j hj => HA.out j (by have := HL1.out; omega))
            go_wp2
            go_ret2
            rw [HEv.out, HF.out]
            exact ⟨rfl, below_drewN HB2.out _⟩
end V
end Go.Proofs.Ytlljnfljcdljaaa
