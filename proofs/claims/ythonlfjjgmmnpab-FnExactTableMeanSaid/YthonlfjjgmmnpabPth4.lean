/- Cycles in the model. -/
import Derived.Test.YthonlfjjgmmnpabPth3
import Derived.Deep.RegionHeld3
import Derived.Deep.AppendLies
namespace Go.Proofs.Ythonlfjjgmmnpab.V
open Go.RowKit

/-- One integer is appended to an owned list, at a step of a region. -/
theorem step_append1 (w : World) {ops : Array Oper} {o : Oper} {a : Act} {K : Act → World → Prop} {Q : Exit → Act → World → Prop} {E : Prop} (hgd : o.guard = none) (s x : Operand)
    (ho : o.op = .call { callee := .builtin .append, args := #[s, x], argTypes := #[30, 30] }) (B : Nat) (v : Value) (l : List Int) (y : Int) (g n : Nat) (hn : l.length = n) (hs : a.eval s = v) (hown : Own w B v l)
    (hx : a.eval x = .slice (some ⟨g, 0, none⟩) 1 1) (hy : w.cell? ⟨g, 0, none⟩ = some (.int .i64 y)) (hlen : n ≤ 2000000) (hB : B ≤ w.heap.size)
    (h : ∀ b' c' w', Own w' B (.slice b' (n + 1) c') (l ++ [y]) → Below B w w' → K (a.put o.dst (.slice b' (n + 1) c')) w') :
    if Region.wanted o (yielded ops a.tmps) = true then Oper.wp Try.prog o a w K Q else E := by
  subst hn
  obtain ⟨i0, hi, hz0, hz1, hz2⟩ := info_parts info64
  refine step_append_lies w hgd s x 30 ho B 2 i0 (.int .i64 0) 1 8 Try.underlying30 hi hz0 hz1 hz2 rfl (by decide) v l.length (l.map (Value.int .i64)) hs hown ⟨g, 0, none⟩ 1 1 [.int .i64 y] hx rfl ?c1 ?c2 (by decide) ?c3 ?c4 hB w.heap.size rfl ?_
  case c1 =>
    intro j u hj
    have : j = 0 := by
      cases j with
      | zero => rfl
      | succ j => simp at hj
    subst this
    simp at hj
    subst hj
    exact hy
  case c2 => intro u hu; simp at hu; subst hu; rfl
  case c3 => unfold maxLen; omega
  case c4 => omega
  · intro g' cap' w' hown' hgrow hat hlt
    have ho' : Own w' B (.slice (some ⟨g', 0, none⟩) (l.length + 1) cap') (l ++ [y]) := by
      show w'.ownsRow B _ 1 _ (l ++ [y]).length ((l ++ [y]).map (Value.int .i64))
      simpa using hown'
    exact h _ _ w' ho' ((Below.refl B w).grown hgrow hB (fun k hk => (own_lt hown hk).1))

theorem new_kept {wd w1 : World} {x : Int} (hb : Below (wd.alloc (.cells #[.int .i64 x] 2)).heap.size (wd.alloc (.cells #[.int .i64 x] 2)) w1) : w1.cell? ⟨wd.heap.size, 0, none⟩ = some (.int .i64 x) := by
  rw [hb.cell (p := ⟨wd.heap.size, 0, none⟩) (by simp)]
  simp
set_option maxRecDepth 100000 in
set_option maxHeartbeats 1000000 in
theorem sCycle (a : Option Addr) (n cap : Nat) (R : List (List Int)) (a' : Option Addr) (N cap' : Nat) (l : List Int) (w : World) (h : Sq w a n R) (h' : Ints .i64 w a' N l) (hc1 : N ≤ cap') (hc2 : cap' ≤ maxLen) :
    Calls Try.prog 71 #[.slice a n cap, .slice a' N cap'] w fun e w' => e = .returned (.tuple #[.int .i64 (M.cycleR R l).1, .bool (M.cycleR R l).2]) ∧ Below w.heap.size w w' := by
  have HM := Lib.hid hc2
  unfold maxLen at hc2
  have HS := Lib.hid h
  have HI := Lib.hid h'
  have HL := Lib.hid h'.1
  have HR := Lib.hid h.1.1
  obtain ⟨n1, n2⟩ := h.2.2.2
  by_cases h0 : N = 0
  · subst h0
    have HE : Hid (M.cycleR R l = (0, false)) := by show _ = _; unfold M.cycleR M.cycB; rw [HL.out]; simp
    clear h h'
    go_enter Try.func71, Try.ntmps71
    go_wp2
    go_ret2
    rw [HE.out]
    exact ⟨rfl, Below.refl _ _⟩
  · by_cases hv : M.nodesB n l = true
    · have HV := Lib.hid hv
      have hN : (N == 0) = false := by simpa using h0
      have hN2 : ((N : Int) == 0) = false := by simp; omega
      have hD0 : Hid (∀ i, i < 0 → M.hasB (l.take i) (l.getD i 0) = false) := fun i hi => absurd hi (Nat.not_lt_zero i)
      obtain ⟨b', off', x0, rfl, hd0, hx0, c0⟩ := h'.at 0 (by omega)
      have HD0 := Lib.hid hd0
      clear h h' hv hd0
      go_enter Try.func71, Try.ntmps71
      go_wp2_with (go_at_call 102; refine (sNodes_b _ n _ _ _ _ l _ true HV.out (by omega) HI.out).mono ?_; rintro e w' ⟨rfl, rfl⟩)
      go_loopw [6] (fun i wr => ∃ k : Nat, k ≤ N ∧ i = .int .i64 k ∧ Hid (∀ i, i < k → M.hasB (l.take i) (l.getD i 0) = false) ∧ ∃ q, wr = w.drewN q) (fun i _ => N - (intOf i).toNat)
      case atStart => exact ⟨0, Nat.zero_le _, rfl, hD0, 0, rfl⟩
      case round =>
        obtain ⟨k, hk, rfl, HD, q2, rfl⟩ := hrel
        clear hD0
        by_cases hlt : k < N
        · have hki : (k : Int) < (N : Int) := by omega
          have hkc : k ≤ cap' := by omega
          obtain ⟨d, od, x, hdd, hd, hx, c1⟩ := HI.out.at k hlt
          injection hdd with hdd
          injection hdd with e1 e2
          subst e1 e2
          obtain ⟨q, hq⟩ : ∃ q, q = M.hasB (l.take k) x := ⟨_, rfl⟩
          have HQ := Lib.hid hq
          have HX := Lib.hid hx
          have HC : ∀ q3, Calls Try.prog 103 #[.slice (some ⟨b', off', none⟩) k cap', .int .i64 x] (w.drewN q3) fun e w' => e = .returned (.bool q) ∧ w.drewN q3 = w' := by
            intro q3
            rw [HQ.out]
            exact sHas _ _ _ _ _ _ (ints_take (HI.out.below (b_draws w _)) k (by omega))
          clear hq hx hd
          cases q with
          | true =>
            have HF : Hid (M.cycleR R l = (0, false)) := by
              show _ = _; unfold M.cycleR M.cycB
              rw [M.diffB_f (i := k) (by have := HL.out; omega) (by rw [← HX.out]; exact HQ.out.symm)]; simp
            go_wp2
            go_quiet ((go_at_call 103; exact q_more_s (HC _)))
            go_wp2
            go_ret2
            rw [HF.out]
            exact ⟨rfl, below_drewN (b_draws _ _) _⟩
          | false =>
            have HD2 : Hid (∀ i, i < k + 1 → M.hasB (l.take i) (l.getD i 0) = false) := fun i hi => by
              by_cases e : i = k
              · subst e; rw [← HX.out]; exact HQ.out.symm
              · exact HD.out i (by omega)
            go_wp2
            go_quiet ((go_at_call 103; exact q_more_s (HC _)))
            go_wp2
            go_roundw
            case rel => exact ⟨k + 1, by omega, by go_num, HD2, _, rfl⟩
            case measure => simp [intOf]; omega
        · obtain rfl : k = N := by omega
          have hdf : M.diffB l = true := M.diffB_of (fun i hi => HD.out i (by have := HL.out; omega))
          have HDF := Lib.hid hdf
          have hN10 := M.diffB_len HV.out hdf
          rw [HL.out] at hN10
          clear hdf
          obtain ⟨wq, hwq⟩ : ∃ wq, wq = w.drewN q2 := ⟨_, rfl⟩
          have HIq : Hid (Ints .i64 wq.drew (some ⟨b', off', none⟩) k l) := by show Ints _ _ _ _ _; rw [hwq]; exact HI.out.below (b_draws _ _).drew
          have HBq : Hid (Below w.heap.size w wq.drew) := by show Below _ _ _; rw [hwq]; exact (b_draws _ _).drew
          have hcq : wq.cell? ⟨b', off', none⟩ = some (.int .i64 x0) := by rw [hwq]; simpa using c0
          have hbq : b' < wq.heap.size := by rw [hwq]; exact HD0.out
          have HX0 := Lib.hid hx0
          have HN1 : Hid (M.nodesB n (l ++ [x0]) = true) := by
            show _ = _
            have h1 := M.nodesB_at HV.out (k := 0) (by have := HL.out; omega)
            unfold M.nodesB
            rw [List.all_append]
            have e1 : l.all (M.inN n) = true := HV.out
            have e2 : M.inN n x0 = true := by rw [hx0]; unfold M.inN; rw [decide_eq_true h1.1, decide_eq_true h1.2]; rfl
            rw [e1]
            simp [e2]
          rw [← hwq]
          have hk0 : (0 : Int) < (k : Int) := by omega
          have hk00 : 0 < k := by omega
          have hbw : b' < w.heap.size := HD0.out
          have hz : w.heap.size ≤ wq.drew.heap.size := HBq.out.size
          have hz2 : w.heap.size ≤ wq.heap.size := hz
          have HBa : Hid (Below w.heap.size w (wq.alloc (.cells #[.int .i64 x0] 2)).drew) := (HBq.out.alloc hz (.cells #[.int .i64 x0] 2))
          have hz4 : w.heap.size ≤ (wq.alloc (.cells #[.int .i64 x0] 2)).drew.heap.size := HBa.out.size
          obtain ⟨r, hr⟩ : ∃ r, r = M.walkR R (l ++ [x0]) := ⟨_, rfl⟩
          have HW := Lib.hid hr
          have HF : Hid (M.cycleR R l = r) := by
            show _ = _
            have e := M.around_snoc R l (by have := HL.out; omega)
            rw [← hx0] at e
            rw [hr]
            unfold M.cycleR M.walkR M.cycB
            rw [e, HR.out, HV.out, HDF.out, HL.out]
            by_cases h5 : M.aroundW R l = -1000000000000000
            · simp [h5]
            · have : 1 ≤ k := by omega
              simp [h5, this]
          have HCW : ∀ (b2 : Option Addr) (c2 : Nat) (w2 : World), Below w.heap.size w w2 → Own w2 w.heap.size (.slice b2 (k + 1) c2) (l ++ [x0]) → Calls Try.prog 104 #[.slice a n cap, .slice b2 (k + 1) c2] w2 fun e w' => e = .returned (.tuple #[.int .i64 r.1, .bool r.2]) ∧ ∃ q, w' = w2.drewN q := by
            intro b2 c2 w2 hb ho
            rw [hr]
            exact sWalk _ n _ R _ (k + 1) _ (l ++ [x0]) _ (HS.out.below hb) ho.ints' HN1.out (by omega) (by omega)
          clear hwq hx0 c0 HI hr
          go_wp2_with fail
          go_region_held3 (fun w' => w'.cell? ⟨b', off', none⟩ = some (.int .i64 x0))
            (first | go_keep | exact (HB2.out.cell (p := ⟨b', off', none⟩) hbw).trans ‹_› | exact (HB1.out.cell (p := ⟨b', off', none⟩) (by simp; omega)).trans ‹_›)
            (first
              | (go_at_call 87; refine (sOwn _ _ _ l _ ?hh ?h1 ?h2).mono ?_; (case hh => (first | exact HIq.out | exact HIq.out.below (b_alloc _ _))); (case h1 => omega); (case h2 => omega); rintro e w1 ⟨b1, c1, rfl, ho, hb⟩; have HO := Lib.hid ho; have HB1 := Lib.hid hb; have hs1 := hb.size; simp at hs1; clear ho hb)
              | (go_at_call 104; refine (HCW _ _ _ ?hh HO2.out).mono ?_; (case hh => (first | exact ((HBq.out.trans (HB1.out.mono hz)).alloc (Nat.le_trans hz HB1.out.size) _).trans HB2.out | exact (HBa.out.trans (HB1.out.mono hz4)).trans HB2.out)); rintro e w3 ⟨rfl, q3, rfl⟩)
              | (refine step_append1 _ rfl _ _ rfl w.heap.size _ l x0 _ k HL.out rfl ?ho rfl ?hy ?hl ?hb ?_; (case ho => (first | exact HO.out.mono hz | exact HO.out.mono hz4 | exact (HO.out.below (b_alloc _ _)).mono hz)); (case hy => (first | (simp; done) | exact new_kept (wd := wq.drew) HB1.out)); (case hl => omega); (case hb => (first | omega | (simp; omega))); intro b2 c2 w2 ho hb; have HO2 := Lib.hid ho; have HB2 := Lib.hid hb; clear ho hb))
          all_goals
            go_wp2
            go_ret2
            refine ⟨?_, ?_⟩
            · rw [HF.out]; rfl
            · first | exact below_drewN (((HBq.out.trans (HB1.out.mono hz)).alloc (Nat.le_trans hz HB1.out.size) _).trans HB2.out) _ | exact below_drewN ((HBa.out.trans (HB1.out.mono hz4)).trans HB2.out) _
    · simp only [Bool.not_eq_true] at hv
      have HV := Lib.hid hv
      have hN : (N == 0) = false := by simpa using h0
      have hN2 : ((N : Int) == 0) = false := by simp; omega
      have HE : Hid (M.cycleR R l = (0, false)) := by show _ = _; unfold M.cycleR M.cycB; rw [HR.out, HV.out]; simp
      clear h h' hv
      go_enter Try.func71, Try.ntmps71
      go_wp2_with (go_at_call 102; refine (sNodes_b _ n _ _ _ _ l _ false HV.out (by omega) HI.out).mono ?_; rintro e w' ⟨rfl, rfl⟩)
      go_ret2
      rw [HE.out]
      exact ⟨rfl, Below.refl _ _⟩
end Go.Proofs.Ythonlfjjgmmnpab.V
