/- Texts laid together: Pth3, Pth4, Pth6. -/
import Derived.Test.YtnnajlehhfmjfaaRows
import Derived.Test.YtnnajlehhfmjfaaQe1
import Derived.Test.YtnnajlehhfmjfaaQe2
import Derived.WalkKit
import Derived.ProofKit
import Derived.WalkSmall
import Derived.Deep.QuietTactic
import Derived.BigQuiet
import Derived.BigRegion
import Derived.Deep.Draws
import Derived.Deep.RegionWith
import Derived.Deep.RegionHeld3
import Derived.Lib.Hide
import Derived.IntWalk
import Derived.OpenShut
import Derived.Deep.OwnRows
import Derived.Test.YtnnajlehhfmjfaaQe7
import Derived.Test.YtnnajlehhfmjfaaQe6
import Derived.Test.YtnnajlehhfmjfaaQe3
import Derived.Deep.AppendLies
set_option linter.unusedSimpArgs false
set_option linter.unusedVariables false
set_option linter.unusedSectionVars false
namespace Go.Proofs.Ytnnajlehhfmjfaa.V
open Go.RowKit

theorem caps_own {w : World} {B n cap : Nat} {a : Option Addr} {l : List Int} (h : Own w B (.slice a n cap) l) : n ≤ cap ∧ cap ≤ maxLen := by
  obtain ⟨a', c', hv, h1, h2, _⟩ := own_form h
  injection hv with e1 e2 e3
  subst e2 e3
  exact ⟨h1, h2⟩
theorem has_snoc (l : List Int) (k : Nat) (h : k < l.length) (x : Int) : M.hasB (l.take (k + 1)) x = (M.hasB (l.take k) x || decide (x = l.getD k 0)) := by
  rw [M.take_snoc l k h, Bool.eq_iff_iff]
  simp [M.hasB, List.contains_iff_mem]

set_option maxRecDepth 100000 in
set_option maxHeartbeats 1000000 in
theorem areDifferent (n : Nat) (a' : Option Addr) (N cap' : Nat) (l : List Int) (w : World) (h' : Ints .i64 w a' N l) (hv : M.nodesB n l = true) (n2 : n ≤ 10) :
    Calls Try.prog 119 #[.slice a' N cap'] w fun e w' => e = .returned (.bool (M.diffB l)) ∧ Below w.heap.size w w' := by
  have HI := Lib.hid h'
  have HV := Lib.hid hv
  have HL := Lib.hid h'.1
  have hm := h'.2.1
  unfold maxLen at hm
  have hr0 : Hid ((w.alloc (.cells #[.bool false, .bool false, .bool false, .bool false, .bool false, .bool false, .bool false, .bool false, .bool false, .bool false] 125)).rowIs w.heap.size 125 10 (fun s => .bool (M.hasB (l.take 0) (s : Int)))) :=
    World.rowIs_alloc w _ _ _ (fun i hi => by
      have : i = 0 ∨ i = 1 ∨ i = 2 ∨ i = 3 ∨ i = 4 ∨ i = 5 ∨ i = 6 ∨ i = 7 ∨ i = 8 ∨ i = 9 := by simp at hi; omega
      rcases this with rfl | rfl | rfl | rfl | rfl | rfl | rfl | rfl | rfl | rfl <;> rfl)
  have hb0 : Hid (Below w.heap.size w (w.alloc (.cells #[.bool false, .bool false, .bool false, .bool false, .bool false, .bool false, .bool false, .bool false, .bool false, .bool false] 125))) := b_alloc w _
  have hd0 : Hid (∀ i, i < 0 → M.hasB (l.take i) (l.getD i 0) = false) := fun i hi => absurd hi (Nat.not_lt_zero i)
  clear h' hv
  go_enter Try.func119, Try.ntmps119
  go_wp2
  go_loopw [5, 8] (fun _ i wr => ∃ k : Nat, k ≤ N ∧ i = .int .i64 k ∧ wr.rowIs w.heap.size 125 10 (fun s => .bool (M.hasB (l.take k) (s : Int))) ∧ Below w.heap.size w wr ∧ Hid (∀ i, i < k → M.hasB (l.take i) (l.getD i 0) = false)) (fun _ i _ => N - (intOf i).toNat)
  case atStart => exact ⟨0, Nat.zero_le _, rfl, hr0.out, hb0.out, hd0⟩
  case round =>
    obtain ⟨k, hk, rfl, hR, hB, HD⟩ := hrel
    have HR := Lib.hid hR
    have HB := Lib.hid hB
    clear hR hB hr0 hb0 hd0
    by_cases hlt : k < N
    · have hki : (k : Int) < (N : Int) := by omega
      have hl := HL.out
      obtain ⟨b', off', x, rfl, hd, hx, c1⟩ := (HI.out.below HB.out).at k hlt
      have hb1 := M.nodesB_at HV.out (k := k) (by omega)
      have hv1 : x = ((M.vx l k : Nat) : Int) := by rw [hx]; unfold M.vx; omega
      have hw1 := M.vx_lt HV.out (k := k) (by omega)
      have hx2 : ((M.vx l k : Nat) : Int) = l.getD k 0 := by rw [← hv1, hx]
      generalize M.vx l k = u at hv1 hw1 hx2
      subst hv1
      have hu : u < 10 := by omega
      have hu2 : (u : Int) < 10 := by omega
      obtain ⟨q, hq⟩ : ∃ q, q = M.hasB (l.take k) (u : Int) := ⟨_, rfl⟩
      have hc := HR.out.cell (i := u) hu
      rw [← hq] at hc
      have hf := HR.out.frozen u
      cases q with
      | true =>
        have HF : Hid (M.diffB l = false) := M.diffB_f (i := k) (by omega) (by rw [← hx2]; exact hq.symm)
        clear hq hx hx2 hl hb1
        go_wp2
        go_ret
        exact ⟨retB HF.out.symm, HB.out⟩
      | false =>
        have HD2 : Hid (∀ i, i < k + 1 → M.hasB (l.take i) (l.getD i 0) = false) := fun i hi => by
          by_cases e : i = k
          · subst e; rw [← hx2]; exact hq.symm
          · exact HD.out i (by omega)
        have HR2 : Hid ((wr.setCell ⟨w.heap.size, u, none⟩ (.bool true)).rowIs w.heap.size 125 10 (fun s => .bool (M.hasB (l.take (k + 1)) (s : Int)))) :=
          (HR.out.set u (.bool true)).congr (fun s hs => by
            have := has_snoc l k (by have := HL.out; omega) (s : Int)
            show (if s = u then Value.bool true else Value.bool (M.hasB (l.take k) (s : Int))) = Value.bool (M.hasB (l.take (k + 1)) (s : Int))
            rw [this, ← hx2]
            by_cases e : s = u
            · subst e; simp
            · have e2 : ¬ ((s : Int) = (u : Int)) := by omega
              simp [e, e2])
        clear hq hx hx2 hl hb1 HD
        go_wp2
        go_roundw
        case rel => exact ⟨k + 1, by omega, by go_num, HR2.out, HB.out.setCell (Nat.le_refl _) _, HD2⟩
        case measure => simp [intOf]; omega
    · obtain rfl : k = N := by omega
      go_wp2
      go_ret
      exact ⟨retB (M.diffB_of (fun i hi => HD.out i (by have := HL.out; omega))).symm, HB.out⟩

set_option maxRecDepth 100000 in
set_option maxHeartbeats 400000 in
theorem sHas (a' : Option Addr) (N cap' : Nat) (l : List Int) (x : Int) (w : World) (h : Ints .i64 w a' N l) :
    Calls Try.prog 124 #[.slice a' N cap', .int .i64 x] w fun e w' => e = .returned (.bool (M.hasB l x)) ∧ w = w' := by
  obtain ⟨hl, hm, hr⟩ := h
  unfold maxLen at hm
  have HL := Lib.hid hl
  clear hl
  go_enter Try.func124, Try.ntmps124
  go_wp2
  go_loop [5] (fun i => ∃ k : Nat, k ≤ N ∧ i = .int .i64 k ∧ Hid (M.hasB (l.take k) x = false)) (fun i => N - (intOf i).toNat)
  case atStart => exact ⟨0, Nat.zero_le _, rfl, rfl⟩
  case round =>
    obtain ⟨k, hk, rfl, HA⟩ := hrel
    by_cases hlt : k < N
    · rcases hr with h0 | ⟨b, off, rfl, hbl, hc⟩
      · omega
      · have hck := hc k hlt
        have hsn := has_snoc l k (by have := HL.out; omega) x
        obtain ⟨y, hy⟩ : ∃ y, y = l.getD k 0 := ⟨_, rfl⟩
        rw [← hy] at hck hsn
        have HY := Lib.hid hy
        have HS := Lib.hid hsn
        clear hc hy hsn
        by_cases hv : y = x
        · subst hv
          have HF : Hid (M.hasB l y = true) := by
            show _ = _
            rw [M.hasB_iff]
            have : k < l.length := by have := HL.out; omega
            have e := HY.out
            simp only [List.getD_eq_getElem?_getD, List.getElem?_eq_getElem this, Option.getD_some] at e
            rw [e]; exact List.getElem_mem this
          go_wp2
          go_ret
          exact ⟨retB HF.out.symm, rfl⟩
        · have HA2 : Hid (M.hasB (l.take (k + 1)) x = false) := by
            show _ = _; rw [HS.out, HA.out]; simp; omega
          have hv2 : (y == x) = false := by simpa using hv
          go_wp2
          go_round
          case rel => exact ⟨k + 1, by omega, by go_num, HA2⟩
          case measure => simp [intOf]; omega
    · have hkn : k = N := by omega
      subst hkn
      have HT : Hid (l.take k = l) := M.take_all l k (by have := HL.out; omega)
      clear hr
      go_wp2
      go_ret
      exact ⟨retB (by have h2 := HA.out; rw [HT.out] at h2; exact h2.symm), rfl⟩
theorem ints_take {w : World} {a : Option Addr} {n : Nat} {l : List Int} (h : Ints .i64 w a n l) (k : Nat) (hk : k ≤ n) : Ints .i64 w a k (l.take k) := by
  obtain ⟨h1, h2, h3⟩ := h
  refine ⟨by rw [List.length_take]; omega, by omega, ?_⟩
  rcases h3 with h0 | ⟨b, off, rfl, hb, hc⟩
  · left; omega
  · right
    refine ⟨b, off, rfl, hb, fun i hi => ?_⟩
    rw [hc i (by omega)]
    simp [List.getD_eq_getElem?_getD, List.getElem?_take, hi]
end Go.Proofs.Ytnnajlehhfmjfaa.V

namespace Go.Proofs.Ytnnajlehhfmjfaa.V
open Go.RowKit

/-- One integer is appended to an owned list, at a step of a region. -/
theorem step_append1 (w : World) {ops : Array Oper} {o : Oper} {a : Act} {K : Act → World → Prop} {Q : Exit → Act → World → Prop} {E : Prop} (hgd : o.guard = none) (s x : Operand)
    (ho : o.op = .call { callee := .builtin .append, args := #[s, x], argTypes := #[30, 30] }) (B : Nat) (v : Value) (l : List Int) (y : Int) (g n : Nat) (hn : l.length = n) (hs : a.eval s = v) (hown : Own w B v l)
    (hx : a.eval x = .slice (some ⟨g, 0, none⟩) 1 1) (hy : w.cell? ⟨g, 0, none⟩ = some (.int .i64 y)) (hlen : n ≤ 2000000) (hB : B ≤ w.heap.size)
    (h : ∀ b' c' w', Own w' B (.slice b' (n + 1) c') (l ++ [y]) → Below B w w' → K (a.put o.dst (.slice b' (n + 1) c')) w') :
    if Region.wanted o (yielded ops a.tmps) = true then Oper.wp Try.prog o a w K Q else E := by
  subst hn
  obtain ⟨i0, hi, hz0, hz1, hz2⟩ := info_parts info64
  refine step_append_lies w hgd s x 30 ho B 2 i0 (.int .i64 0) 1 8 Try.underlying30 hi hz0 hz1 hz2 rfl (by decide) v l.length (l.map (Value.int .i64)) hs hown ⟨g, 0, none⟩ 1 1 [.int .i64 y] hx rfl ?c1 ?c2 (by decide) ?c3 ?c4 hB w.heap.size rfl ?_
  case c1 =>
    intro j u hj
    have : j = 0 := by
      cases j with
      | zero => rfl
      | succ j => simp at hj
    subst this
    simp at hj
    subst hj
    exact hy
  case c2 => intro u hu; simp at hu; subst hu; rfl
  case c3 => unfold maxLen; omega
  case c4 => omega
  · intro g' cap' w' hown' hgrow hat hlt
    have ho' : Own w' B (.slice (some ⟨g', 0, none⟩) (l.length + 1) cap') (l ++ [y]) := by
      show w'.ownsRow B _ 1 _ (l ++ [y]).length ((l ++ [y]).map (Value.int .i64))
      simpa using hown'
    exact h _ _ w' ho' ((Below.refl B w).grown hgrow hB (fun k hk => (own_lt hown hk).1))

theorem new_kept {wd w1 : World} {x : Int} (hb : Below (wd.alloc (.cells #[.int .i64 x] 2)).heap.size (wd.alloc (.cells #[.int .i64 x] 2)) w1) : w1.cell? ⟨wd.heap.size, 0, none⟩ = some (.int .i64 x) := by
  rw [hb.cell (p := ⟨wd.heap.size, 0, none⟩) (by simp)]
  simp
set_option maxRecDepth 100000 in
set_option maxHeartbeats 1000000 in
theorem sCycle (a : Option Addr) (n cap : Nat) (R : List (List Int)) (a' : Option Addr) (N cap' : Nat) (l : List Int) (w : World) (h : Sq w a n R) (h' : Ints .i64 w a' N l) (hc1 : N ≤ cap') (hc2 : cap' ≤ maxLen) :
    Calls Try.prog 84 #[.slice a n cap, .slice a' N cap'] w fun e w' => e = .returned (.tuple #[.int .i64 (M.cycleR R l).1, .bool (M.cycleR R l).2]) ∧ Below w.heap.size w w' := by
  have HM := Lib.hid hc2
  unfold maxLen at hc2
  have HS := Lib.hid h
  have HI := Lib.hid h'
  have HL := Lib.hid h'.1
  have HR := Lib.hid h.1.1
  obtain ⟨n1, n2⟩ := h.2.2.2
  by_cases h0 : N = 0
  · subst h0
    have HE : Hid (M.cycleR R l = (0, false)) := by show _ = _; unfold M.cycleR M.cycB; rw [HL.out]; simp
    clear h h'
    go_enter Try.func84, Try.ntmps84
    go_wp2
    go_ret2
    rw [HE.out]
    exact ⟨rfl, Below.refl _ _⟩
  · by_cases hv : M.nodesB n l = true
    · have HV := Lib.hid hv
      have hN : (N == 0) = false := by simpa using h0
      have hN2 : ((N : Int) == 0) = false := by simp; omega
      have hD0 : Hid (∀ i, i < 0 → M.hasB (l.take i) (l.getD i 0) = false) := fun i hi => absurd hi (Nat.not_lt_zero i)
      obtain ⟨b', off', x0, rfl, hd0, hx0, c0⟩ := h'.at 0 (by omega)
      have HD0 := Lib.hid hd0
      clear h h' hv hd0
      go_enter Try.func84, Try.ntmps84
      go_wp2_with (go_at_call 123; refine (sNodes_b _ n _ _ _ _ l _ true HV.out (by omega) HI.out).mono ?_; rintro e w' ⟨rfl, rfl⟩)
      go_loopw [6] (fun i wr => ∃ k : Nat, k ≤ N ∧ i = .int .i64 k ∧ Hid (∀ i, i < k → M.hasB (l.take i) (l.getD i 0) = false) ∧ ∃ q, wr = w.drewN q) (fun i _ => N - (intOf i).toNat)
      case atStart => exact ⟨0, Nat.zero_le _, rfl, hD0, 0, rfl⟩
      case round =>
        obtain ⟨k, hk, rfl, HD, q2, rfl⟩ := hrel
        clear hD0
        by_cases hlt : k < N
        · have hki : (k : Int) < (N : Int) := by omega
          have hkc : k ≤ cap' := by omega
          obtain ⟨d, od, x, hdd, hd, hx, c1⟩ := HI.out.at k hlt
          injection hdd with hdd
          injection hdd with e1 e2
          subst e1 e2
          obtain ⟨q, hq⟩ : ∃ q, q = M.hasB (l.take k) x := ⟨_, rfl⟩
          have HQ := Lib.hid hq
          have HX := Lib.hid hx
          have HC : ∀ q3, Calls Try.prog 124 #[.slice (some ⟨b', off', none⟩) k cap', .int .i64 x] (w.drewN q3) fun e w' => e = .returned (.bool q) ∧ w.drewN q3 = w' := by
            intro q3
            rw [HQ.out]
            exact sHas _ _ _ _ _ _ (ints_take (HI.out.below (b_draws w _)) k (by omega))
          clear hq hx hd
          cases q with
          | true =>
            have HF : Hid (M.cycleR R l = (0, false)) := by
              show _ = _; unfold M.cycleR M.cycB
              rw [M.diffB_f (i := k) (by have := HL.out; omega) (by rw [← HX.out]; exact HQ.out.symm)]; simp
            go_wp2
            go_quiet ((go_at_call 124; exact q_more_s (HC _)))
            go_wp2
            go_ret2
            rw [HF.out]
            exact ⟨rfl, below_drewN (b_draws _ _) _⟩
          | false =>
            have HD2 : Hid (∀ i, i < k + 1 → M.hasB (l.take i) (l.getD i 0) = false) := fun i hi => by
              by_cases e : i = k
              · subst e; rw [← HX.out]; exact HQ.out.symm
              · exact HD.out i (by omega)
            go_wp2
            go_quiet ((go_at_call 124; exact q_more_s (HC _)))
            go_wp2
            go_roundw
            case rel => exact ⟨k + 1, by omega, by go_num, HD2, _, rfl⟩
            case measure => simp [intOf]; omega
        · obtain rfl : k = N := by omega
          have hdf : M.diffB l = true := M.diffB_of (fun i hi => HD.out i (by have := HL.out; omega))
          have HDF := Lib.hid hdf
          have hN10 := M.diffB_len HV.out hdf
          rw [HL.out] at hN10
          clear hdf
          obtain ⟨wq, hwq⟩ : ∃ wq, wq = w.drewN q2 := ⟨_, rfl⟩
          have HIq : Hid (Ints .i64 wq.drew (some ⟨b', off', none⟩) k l) := by show Ints _ _ _ _ _; rw [hwq]; exact HI.out.below (b_draws _ _).drew
          have HBq : Hid (Below w.heap.size w wq.drew) := by show Below _ _ _; rw [hwq]; exact (b_draws _ _).drew
          have hcq : wq.cell? ⟨b', off', none⟩ = some (.int .i64 x0) := by rw [hwq]; simpa using c0
          have hbq : b' < wq.heap.size := by rw [hwq]; exact HD0.out
          have HX0 := Lib.hid hx0
          have HN1 : Hid (M.nodesB n (l ++ [x0]) = true) := by
            show _ = _
            have h1 := M.nodesB_at HV.out (k := 0) (by have := HL.out; omega)
            unfold M.nodesB
            rw [List.all_append]
            have e1 : l.all (M.inN n) = true := HV.out
            have e2 : M.inN n x0 = true := by rw [hx0]; unfold M.inN; rw [decide_eq_true h1.1, decide_eq_true h1.2]; rfl
            rw [e1]
            simp [e2]
          rw [← hwq]
          have hk0 : (0 : Int) < (k : Int) := by omega
          have hk00 : 0 < k := by omega
          have hbw : b' < w.heap.size := HD0.out
          have hz : w.heap.size ≤ wq.drew.heap.size := HBq.out.size
          have hz2 : w.heap.size ≤ wq.heap.size := hz
          have HBa : Hid (Below w.heap.size w (wq.alloc (.cells #[.int .i64 x0] 2)).drew) := (HBq.out.alloc hz (.cells #[.int .i64 x0] 2))
          have hz4 : w.heap.size ≤ (wq.alloc (.cells #[.int .i64 x0] 2)).drew.heap.size := HBa.out.size
          obtain ⟨r, hr⟩ : ∃ r, r = M.walkR R (l ++ [x0]) := ⟨_, rfl⟩
          have HW := Lib.hid hr
          have HF : Hid (M.cycleR R l = r) := by
            show _ = _
            have e := M.around_snoc R l (by have := HL.out; omega)
            rw [← hx0] at e
            rw [hr]
            unfold M.cycleR M.walkR M.cycB
            rw [e, HR.out, HV.out, HDF.out, HL.out]
            by_cases h5 : M.aroundW R l = -1000000000000000
            · simp [h5]
            · have : 1 ≤ k := by omega
              simp [h5, this]
          have HCW : ∀ (b2 : Option Addr) (c2 : Nat) (w2 : World), Below w.heap.size w w2 → Own w2 w.heap.size (.slice b2 (k + 1) c2) (l ++ [x0]) → Calls Try.prog 125 #[.slice a n cap, .slice b2 (k + 1) c2] w2 fun e w' => e = .returned (.tuple #[.int .i64 r.1, .bool r.2]) ∧ ∃ q, w' = w2.drewN q := by
            intro b2 c2 w2 hb ho
            rw [hr]
            exact sWalk _ n _ R _ (k + 1) _ (l ++ [x0]) _ (HS.out.below hb) ho.ints' HN1.out (by omega) (by omega)
          clear hwq hx0 c0 HI hr
          go_wp2_with fail
          go_region_held3 (fun w' => w'.cell? ⟨b', off', none⟩ = some (.int .i64 x0))
            (first | go_keep | exact (HB2.out.cell (p := ⟨b', off', none⟩) hbw).trans ‹_› | exact (HB1.out.cell (p := ⟨b', off', none⟩) (by simp; omega)).trans ‹_›)
            (first
              | (go_at_call 126; refine (sOwn _ _ _ l _ ?hh ?h1 ?h2).mono ?_; (case hh => (first | exact HIq.out | exact HIq.out.below (b_alloc _ _))); (case h1 => omega); (case h2 => omega); rintro e w1 ⟨b1, c1, rfl, ho, hb⟩; have HO := Lib.hid ho; have HB1 := Lib.hid hb; have hs1 := hb.size; simp at hs1; clear ho hb)
              | (go_at_call 125; refine (HCW _ _ _ ?hh HO2.out).mono ?_; (case hh => (first | exact ((HBq.out.trans (HB1.out.mono hz)).alloc (Nat.le_trans hz HB1.out.size) _).trans HB2.out | exact (HBa.out.trans (HB1.out.mono hz4)).trans HB2.out)); rintro e w3 ⟨rfl, q3, rfl⟩)
              | (refine step_append1 _ rfl _ _ rfl w.heap.size _ l x0 _ k HL.out rfl ?ho rfl ?hy ?hl ?hb ?_; (case ho => (first | exact HO.out.mono hz | exact HO.out.mono hz4 | exact (HO.out.below (b_alloc _ _)).mono hz)); (case hy => (first | (simp; done) | exact new_kept (wd := wq.drew) HB1.out)); (case hl => omega); (case hb => (first | omega | (simp; omega))); intro b2 c2 w2 ho hb; have HO2 := Lib.hid ho; have HB2 := Lib.hid hb; clear ho hb))
          all_goals
            go_wp2
            go_ret2
            refine ⟨?_, ?_⟩
            · rw [HF.out]; rfl
            · first | exact below_drewN (((HBq.out.trans (HB1.out.mono hz)).alloc (Nat.le_trans hz HB1.out.size) _).trans HB2.out) _ | exact below_drewN ((HBa.out.trans (HB1.out.mono hz4)).trans HB2.out) _
    · simp only [Bool.not_eq_true] at hv
      have HV := Lib.hid hv
      have hN : (N == 0) = false := by simpa using h0
      have hN2 : ((N : Int) == 0) = false := by simp; omega
      have HE : Hid (M.cycleR R l = (0, false)) := by show _ = _; unfold M.cycleR M.cycB; rw [HR.out, HV.out]; simp
      clear h h' hv
      go_enter Try.func84, Try.ntmps84
      go_wp2_with (go_at_call 123; refine (sNodes_b _ n _ _ _ _ l _ false HV.out (by omega) HI.out).mono ?_; rintro e w' ⟨rfl, rfl⟩)
      go_ret2
      rw [HE.out]
      exact ⟨rfl, Below.refl _ _⟩
end Go.Proofs.Ytnnajlehhfmjfaa.V

namespace Go.Proofs.Ytnnajlehhfmjfaa.V
open Go.RowKit

/-- Two integers are returned, and nothing that was there is changed. -/
def IPost (r : Int × Int) (w : World) (e : Ending) (w' : World) : Prop := e = .returned (.tuple #[.int .i64 r.1, .int .i64 r.2]) ∧ Below w.heap.size w w'
theorem IPost.mk {r : Int × Int} {x y : Int} {w w' : World} (h : r = (x, y)) (hb : Below w.heap.size w w') : IPost r w (.returned (.tuple #[.int .i64 x, .int .i64 y])) w' := by
  subst h; exact ⟨rfl, hb⟩
def BPost (b : Bool) (w : World) (e : Ending) (w' : World) : Prop := e = .returned (.bool b) ∧ Below w.heap.size w w'


end Go.Proofs.Ytnnajlehhfmjfaa.V

namespace Go.Proofs.Ytnnajlehhfmjfaa.V
open Go.RowKit

set_option maxRecDepth 100000 in
set_option maxHeartbeats 1000000 in
theorem isCycle (a : Option Addr) (n cap : Nat) (R : List (List Int)) (a' : Option Addr) (N cap' : Nat) (l : List Int) (w : World) (h : Mat w a n R) (h' : Ints .i64 w a' N l) (hc1 : N ≤ cap') (hc2 : cap' ≤ maxLen) :
    Calls Try.prog 76 #[.slice a n cap, .slice a' N cap'] w (BPost (M.isCycB R l) w) := by
  have HM := Lib.hid hc2
  have hm := h'.2.1
  unfold maxLen at hc2 hm
  have HA := Lib.hid h
  have HI := Lib.hid h'
  have HL := Lib.hid h'.1
  have HR := Lib.hid h.1
  by_cases hs : M.sqB R = true
  · have HS := Lib.hid hs
    have HQ := Lib.hid (sq_of h hs)
    obtain ⟨-, -, -, n1, n2⟩ := sq_of h hs
    clear h h' hs
    by_cases h0 : N = 0
    · subst h0
      have HE : Hid (M.isCycB R l = false) := by show _ = _; unfold M.isCycB M.cycB; rw [HL.out]; simp
      go_enter Try.func76, Try.ntmps76
      go_wp2_with (go_at_call 58; refine (isSquare_b _ _ _ R _ true HS.out HA.out).mono ?_; rintro e w' ⟨rfl, rfl⟩)
      go_ret
      exact ⟨retB HE.out.symm, Below.refl _ _⟩
    · have d1 : 1 ≤ N := by omega
      by_cases hv : M.nodesB n l = true
      · have HV := Lib.hid hv
        clear hv
        obtain ⟨q, hq⟩ : ∃ q, q = M.diffB l := ⟨_, rfl⟩
        have HQd := Lib.hid hq
        have HC : Calls Try.prog 119 #[.slice a' N cap'] w fun e w' => e = .returned (.bool q) ∧ Below w.heap.size w w' := by
          rw [hq]
          exact areDifferent n _ _ _ _ _ HI.out HV.out n2
        clear hq
        cases q with
        | false =>
          have HE : Hid (M.isCycB R l = false) := by show _ = _; unfold M.isCycB M.cycB; rw [← HQd.out]; simp
          go_enter Try.func76, Try.ntmps76
          go_wp2_with (first | (go_at_call 58; refine (isSquare_b _ _ _ R _ true HS.out HA.out).mono ?_; rintro e w' ⟨rfl, rfl⟩) | (go_at_call 118; refine (areNodes_b _ n _ _ _ _ l _ true HV.out (by omega) HI.out).mono ?_; rintro e w' ⟨rfl, rfl⟩) | (go_at_call 119; refine HC.mono ?_; rintro e w1 ⟨rfl, hb⟩; have HB := Lib.hid hb; clear hb))
          go_ret
          exact ⟨retB HE.out.symm, HB.out⟩
        | true =>
          have hN : N ≤ n := by have := M.diffB_len HV.out HQd.out.symm; rw [HL.out] at this; exact this
          obtain ⟨y, hy⟩ : ∃ y, y = M.aroundW R l := ⟨_, rfl⟩
          have HY := Lib.hid hy
          have HC2 : ∀ w1, Below w.heap.size w w1 → Calls Try.prog 120 #[.slice a n cap, .slice a' N cap'] w1 fun e w' => e = .returned (.int .i64 y) ∧ ∃ q, w' = w1.drewN q := by
            intro w1 hb
            rw [hy]
            exact weightAround _ _ _ _ _ _ _ _ _ (HQ.out.below hb) (HI.out.below hb) HV.out hc1 HM.out d1 (by omega)
          clear hy
          by_cases hb : y = -1000000000000000
          · have HE : Hid (M.isCycB R l = false) := by show _ = _; unfold M.isCycB M.cycB; rw [← HY.out, hb]; simp
            subst hb
            go_enter Try.func76, Try.ntmps76
            go_wp2_with (first | (go_at_call 58; refine (isSquare_b _ _ _ R _ true HS.out HA.out).mono ?_; rintro e w' ⟨rfl, rfl⟩) | (go_at_call 118; refine (areNodes_b _ n _ _ _ _ l _ true HV.out (by omega) HI.out).mono ?_; rintro e w' ⟨rfl, rfl⟩) | (go_at_call 119; refine HC.mono ?_; rintro e w1 ⟨rfl, hb⟩; have HB := Lib.hid hb; clear hb) | (go_at_call 120; refine (HC2 _ HB.out).mono ?_; rintro e w' ⟨rfl, q, rfl⟩))
            go_ret
            exact ⟨retB HE.out.symm, below_drewN HB.out _⟩
          · have hb2 : (y == -1000000000000000) = false := by simpa using hb
            have hb3 : (y != -1000000000000000) = true := by simpa using hb
            have HE : Hid (M.isCycB R l = true) := by
              show _ = _; unfold M.isCycB M.cycB
              rw [← HY.out, HS.out, HR.out, HV.out, ← HQd.out, HL.out, decide_eq_true d1, decide_eq_true hb]; rfl
            clear hb
            go_enter Try.func76, Try.ntmps76
            go_wp2_with (first | (go_at_call 58; refine (isSquare_b _ _ _ R _ true HS.out HA.out).mono ?_; rintro e w' ⟨rfl, rfl⟩) | (go_at_call 118; refine (areNodes_b _ n _ _ _ _ l _ true HV.out (by omega) HI.out).mono ?_; rintro e w' ⟨rfl, rfl⟩) | (go_at_call 119; refine HC.mono ?_; rintro e w1 ⟨rfl, hb⟩; have HB := Lib.hid hb; clear hb) | (go_at_call 120; refine (HC2 _ HB.out).mono ?_; rintro e w' ⟨rfl, q, rfl⟩))
            go_ret
            exact ⟨retB HE.out.symm, below_drewN HB.out _⟩
      · simp only [Bool.not_eq_true] at hv
        have HV := Lib.hid hv
        have HE : Hid (M.isCycB R l = false) := by show _ = _; unfold M.isCycB M.cycB; rw [HR.out, HV.out]; simp
        clear hv
        go_enter Try.func76, Try.ntmps76
        go_wp2_with (first | (go_at_call 58; refine (isSquare_b _ _ _ R _ true HS.out HA.out).mono ?_; rintro e w' ⟨rfl, rfl⟩) | (go_at_call 118; refine (areNodes_b _ n _ _ _ _ l _ false HV.out (by omega) HI.out).mono ?_; rintro e w' ⟨rfl, rfl⟩))
        go_ret
        exact ⟨retB HE.out.symm, Below.refl _ _⟩
  · simp only [Bool.not_eq_true] at hs
    have HS := Lib.hid hs
    have HE : Hid (M.isCycB R l = false) := by show _ = _; unfold M.isCycB; rw [HS.out]; rfl
    clear h h' hs
    go_enter Try.func76, Try.ntmps76
    go_wp2_with (go_at_call 58; refine (isSquare_b _ _ _ R _ false HS.out HA.out).mono ?_; rintro e w' ⟨rfl, rfl⟩)
    go_ret
    exact ⟨retB HE.out.symm, Below.refl _ _⟩
theorem isCycle_b (a : Option Addr) (n cap : Nat) (R : List (List Int)) (a' : Option Addr) (N cap' : Nat) (l : List Int) (w : World) (b : Bool) (hb : M.isCycB R l = b) (h : Mat w a n R) (h' : Ints .i64 w a' N l) (hc1 : N ≤ cap') (hc2 : cap' ≤ maxLen) :
    Calls Try.prog 76 #[.slice a n cap, .slice a' N cap'] w fun e w' => e = .returned (.bool b) ∧ Below w.heap.size w w' := by
  subst hb; exact isCycle _ _ _ _ _ _ _ _ _ h h' hc1 hc2



end Go.Proofs.Ytnnajlehhfmjfaa.V
