/- Texts laid together: Gpw, Gpl, Shv. -/
import Derived.Test.YtcofjjipjcekjabQb8
import Derived.Test.YtcofjjipjcekjabQb4
import Derived.Test.YtcofjjipjcekjabQb5
set_option linter.unusedSimpArgs false
set_option linter.unusedVariables false
set_option linter.unusedSectionVars false
namespace Go.Proofs.Ytcofjjipjcekjab
namespace M
theorem times_sumS {k : Nat} {f : Nat → Int} {g : Int} (h : ∀ t, t < k → Sm 100000000 (f t)) (hg : -10000000 ≤ g ∧ g ≤ 10000000) : times (sumN k f) g = sumN k fun t => times (f t) g := by
  induction k with
  | zero => simp [sumN, times]
  | succ k ih =>
    have h1 := sm_sum (k := k) (f := f) (L := 100000000) (fun t ht => h t (by omega)) (by omega) (by omega)
    have h2 := h k (by omega)
    show times (max (sumN k f) (f k)) g = max (sumN k fun t => times (f t) g) (times (f k) g)
    rw [← ih fun t ht => h t (by omega)]
    unfold Sm at h1 h2
    unfold times
    split <;> split <;> split <;> omega
/-- The product with a shifted matrix is the shifted product. -/
theorem mul_shift {R X Y : List (List Int)} {g : Int} (hR : isMat R = true) (hX : isMat X = true) (hg : -10000000 ≤ g ∧ g ≤ 10000000) (h1 : wid R = X.length) (h2 : Y.length = X.length) (h3 : wid Y = wid X)
    (h : ∀ i, i < X.length → ∀ j, j < wid X → ent Y i j = times (ent X i j) g) : ∀ i, i < R.length → ∀ j, j < wid X → ent (mulM R Y) i j = times (ent (mulM R X) i j) g := by
  intro i hi j hj
  rw [ent_mul hi (by omega), ent_mul hi hj, h2]
  have sR : ∀ t, t < X.length → Sm 1000000 (ent R i t) := fun t ht => sm_val ((isMat_t hR).2.2.2.2.2 i hi t (by omega))
  have sX : ∀ t, t < X.length → Sm 1000000 (ent X t j) := fun t ht => sm_val ((isMat_t hX).2.2.2.2.2 t ht j hj)
  rw [times_sumS (fun t ht => by
    have e1 := sR t ht
    have e2 := sX t ht
    unfold Sm at *
    unfold times
    split <;> omega) hg]
  refine sumN_congr fun t ht => ?_
  rw [h t ht j hj]
  have e1 := sR t ht
  have e2 := sX t ht
  unfold Sm at *
  unfold times
  split <;> split <;> split <;> split <;> omega
theorem ent_pat {X Y : List (List Int)} (hx : isMat X = true) (hy : isMat Y = true) (h1 : X.length = Y.length) (h2 : wid X = wid Y) (h : nrm X.flatten = nrm Y.flatten) :
    ∀ i, i < X.length → ∀ j, j < wid X → ent Y i j = times (ent X i j) (maxL Y.flatten - maxL X.flatten) := by
  have hp := (nrm_pat hx hy h1 h2).2 h
  rw [patC_iff h1 h2 (isMat_t hx).2.1 (isMat_t hx).2.2.2.1] at hp
  have hfl := flat_len hx hy h1 h2
  obtain ⟨hg, hs⟩ := nrm_gap hfl (flat_vals hx) (flat_vals hy) h
  have hb := gapI_bd hfl (flat_vals hx) (flat_vals hy)
  rw [hg] at hb
  intro i hi j hj
  have e := hp i hi j hj
  have v1 := isVal_t ((isMat_t hx).2.2.2.2.2 i hi j hj)
  have v2 := isVal_t ((isMat_t hy).2.2.2.2.2 i (by omega) j (by omega))
  have m1 := isVal_t (maxL_vals (flat_vals hx))
  have m2 := isVal_t (maxL_vals (flat_vals hy))
  unfold times at e ⊢
  split at e <;> split at e <;> split <;> omega
theorem powN_sq {R : List (List Int)} (ha : isMat R = true) (hs : R.length = wid R) : ∀ n, (powN R n).2 = true → sq7 R (unitM R.length) n = (powN R n).1
  | 0, _ => rfl
  | n + 1, h => by
    have hn := powN_down (k := n) h (by omega)
    have h1 : (powN R 1).1 = R := by
      have h0 := powN_down (k := 1) h (by omega)
      have := powN_step (a := R) (k := 0) (powN_down h (by omega))
      rw [this]
      exact unit_mul ha
    show mulM R (sq7 R (unitM R.length) n) = _
    rw [powN_sq ha hs n hn]
    have := pow_add ha hs 1 n (by rw [Nat.add_comm]; exact h)
    rw [h1, Nat.add_comm] at this
    exact this
/-- Behind the first repeat the powers go on as shifted forms. -/
theorem sq_goes {R F : List (List Int)} {s c : Nat} {g : Int} (hR : isMat R = true) (hw : wid R = R.length) (hF : F.length = R.length) (hg : -10000000 ≤ g ∧ g ≤ 10000000)
    (h0 : ∀ i, i < R.length → ∀ j, j < wid F → ent (sq7 R F (s + c)) i j = times (ent (sq7 R F s) i j) g) :
    ∀ r, (∀ m, m ≤ s + r → okQ R F m = true) → ∀ i, i < R.length → ∀ j, j < wid F → ent (sq7 R F (s + r + c)) i j = times (ent (sq7 R F (s + r)) i j) g
  | 0, _ => h0
  | r + 1, hok => by
    have hl := sq7_len (R := R) (F := F) hF
    have hwd := sq7_wid (R := R) (F := F) (by have := (isMat_t hR).1; omega)
    have ih := sq_goes hR hw hF hg h0 r (fun m hm => hok m (by omega))
    intro i hi j hj
    have e1 : s + (r + 1) + c = (s + r + c) + 1 := by omega
    rw [e1]
    exact mul_shift (X := sq7 R F (s + r)) (Y := sq7 R F (s + r + c)) hR (hok (s + r) (by omega)) hg (by rw [hl, hw]) (by rw [hl, hl]) (by rw [hwd, hwd])
      (fun i hi j hj => ih i (by rw [hl] at hi; exact hi) j (by rw [hwd] at hj; exact hj)) i hi j (by rw [hwd]; exact hj)
theorem sq_rounds {R F : List (List Int)} {s c r n : Nat} {g : Int} (hR : isMat R = true) (hw : wid R = R.length) (hF : F.length = R.length) (hg : -2000000 ≤ g ∧ g ≤ 2000000)
    (h0 : ∀ i, i < R.length → ∀ j, j < wid F → ent (sq7 R F (s + c)) i j = times (ent (sq7 R F s) i j) g) (hok : ∀ m, m ≤ n → okQ R F m = true) (hn : n ≤ 1000) (hc : 1 ≤ c) :
    ∀ q, s + r + q * c ≤ n → ∀ i, i < R.length → ∀ j, j < wid F → ent (sq7 R F (s + r + q * c)) i j = times (ent (sq7 R F (s + r)) i j) ((q : Int) * g)
  | 0, hq => by
    intro i hi j hj
    have v := isVal_t ((isMat_t (hok (s + r) (by omega))).2.2.2.2.2 i (by rw [sq7_len hF]; exact hi) j (by rw [sq7_wid (by omega)]; exact hj))
    rw [Nat.zero_mul, Nat.add_zero]
    show _ = times _ ((0 : Int) * g)
    rw [Int.zero_mul]
    unfold times
    split <;> omega
  | q + 1, hq => by
    intro i hi j hj
    have e : s + r + (q + 1) * c = s + (r + q * c) + c := by rw [Nat.add_mul]; omega
    have hle : s + (r + q * c) ≤ n := by rw [e] at hq; omega
    have ih := sq_rounds (r := r) hR hw hF hg h0 hok hn hc q (by rw [← Nat.add_assoc] at hle; exact hle) i hi j hj
    rw [e, sq_goes hR hw hF ⟨by omega, by omega⟩ h0 (r + q * c) (fun m hm => hok m (by omega)) i hi j hj, ← Nat.add_assoc, ih]
    have hqn : q ≤ 1000 := by
      have : q * 1 ≤ q * c := Nat.mul_le_mul_left q hc
      omega
    have hb : -2000000000 ≤ (q : Int) * g ∧ (q : Int) * g ≤ 2000000000 := by
      constructor
      · have : (q : Int) * (-2000000) ≤ (q : Int) * g := Int.mul_le_mul_of_nonneg_left hg.1 (by omega)
        omega
      · have : (q : Int) * g ≤ (q : Int) * 2000000 := Int.mul_le_mul_of_nonneg_left hg.2 (by omega)
        omega
    have v := isVal_t ((isMat_t (hok (s + r) (by omega))).2.2.2.2.2 i (by rw [sq7_len hF]; exact hi) j (by rw [sq7_wid (by omega)]; exact hj))
    have e2 : ((q + 1 : Nat) : Int) * g = (q : Int) * g + g := by rw [Int.natCast_add, Int.add_mul]; simp
    rw [e2]
    generalize (q : Int) * g = z at *
    unfold times
    split <;> split <;> split <;> omega
theorem wid_unitP {n : Nat} (h : 1 ≤ n) : wid (unitM n) = n := mk_wid _ _ _ (by omega)
/-- The entry of a power as PowerEntry tells it is that of the power itself. -/
theorem gp_entry {R : List (List Int)} {n s e i j : Nat} {g : Int} (hs : sqB R = true) (hn : n ≤ 100) (hp : (powN R n).2 = true) (hse : s < e) (hr : repQ R (unitM R.length) s e = true) (hg : g = grQ R (unitM R.length) s e)
    (h4 : okQ R (unitM R.length) s = true) (h5 : okQ R (unitM R.length) e = true) (hi : i < R.length) (hj : j < R.length) :
    ent (powN R n).1 i j = peVal R n i j s ((e : Int) - s) g := by
  obtain ⟨hR, hw⟩ := sqB_t hs
  obtain ⟨a1, a2, -⟩ := isMat_t hR
  have hF : (unitM R.length).length = R.length := by unfold unitM; simp
  have hwF := wid_unitP (n := R.length) a1
  have hl := sq7_len (R := R) (F := unitM R.length) hF
  have hwd := sq7_wid (R := R) (F := unitM R.length) (by omega)
  have hok : ∀ m, m ≤ n → okQ R (unitM R.length) m = true := fun m hm => by
    unfold okQ
    rw [powN_sq hR hw m (powN_down hp hm)]
    exact powN_ok a1 a2 m (powN_down hp hm)
  obtain ⟨c, rfl⟩ : ∃ c, e = s + c := ⟨e - s, by omega⟩
  have hc : 1 ≤ c := by omega
  have hcc : ((s + c : Nat) : Int) - (s : Int) = (c : Int) := by omega
  rw [hcc]
  have hn7 : nrm (sq7 R (unitM R.length) s).flatten = nrm (sq7 R (unitM R.length) (s + c)).flatten := of_decide_eq_true hr
  have hx := ent_pat (X := sq7 R (unitM R.length) s) (Y := sq7 R (unitM R.length) (s + c)) h4 h5 (by rw [hl, hl]) (by rw [hwd, hwd]) hn7
  have h0 : ∀ i, i < R.length → ∀ j, j < wid (unitM R.length) → ent (sq7 R (unitM R.length) (s + c)) i j = times (ent (sq7 R (unitM R.length) s) i j) g := fun i hi j hj => by
    rw [hg]
    exact hx i (by rw [hl]; exact hi) j (by rw [hwd]; exact hj)
  have hgb : -2000000 ≤ g ∧ g ≤ 2000000 := by
    have m1 := isVal_t (maxL_vals (flat_vals h4))
    have m2 := isVal_t (maxL_vals (flat_vals h5))
    have hfl := flat_len (X := sq7 R (unitM R.length) s) (Y := sq7 R (unitM R.length) (s + c)) h4 h5 (by rw [hl, hl]) (by rw [hwd, hwd])
    have e1 := (nrm_gap hfl (flat_vals h4) (flat_vals h5) hn7).1
    have e2 := gapI_bd hfl (flat_vals h4) (flat_vals h5)
    rw [hg]
    unfold grQ
    omega
  rw [← powN_sq hR hw n hp]
  unfold peVal
  rw [Int.toNat_natCast, Int.toNat_natCast]
  by_cases q : n ≤ s
  · obtain ⟨q1, q2⟩ := pe_small (c := c) q
    rw [q1, q2, Int.zero_mul]
    have v := isVal_t ((isMat_t (hok n (Nat.le_refl _))).2.2.2.2.2 i (by rw [hl]; exact hi) j (by rw [hwd, hwF]; exact hj))
    unfold times
    split <;> omega
  · obtain ⟨q1, q2⟩ := pe_great (c := c) (show s < n by omega)
    rw [q1, q2]
    have hd := Nat.div_add_mod (n - s) c
    have e : s + (n - s) % c + (n - s) / c * c = n := by rw [Nat.mul_comm]; omega
    have := sq_rounds (r := (n - s) % c) hR hw.symm hF hgb h0 hok (by omega) hc ((n - s) / c) (by omega) i hi j (by rw [hwF]; exact hj)
    rw [e] at this
    exact this
end M
end Go.Proofs.Ytcofjjipjcekjab

namespace Go.Proofs.Ytcofjjipjcekjab
namespace M
theorem gp_law {R : List (List Int)} {n i j : Int} (h : (peRes R n i j).2 = 0) (hn : n ≤ 100) :
    ∃ ni jn : Nat, i = ni ∧ j = jn ∧ ni < R.length ∧ jn < R.length ∧ ((powRes R n).2 = 3 ∨ ((powRes R n).2 = 0 ∧ (powRes R n).1.length = R.length ∧ ((powRes R n).1.getD ni []).length = R.length ∧ ent (powRes R n).1 ni jn = (peRes R n i j).1)) := by
  unfold peRes at h ⊢
  by_cases hs : sqB R = true
  · rw [if_pos hs] at h ⊢
    by_cases hc : 0 ≤ n ∧ n ≤ 100000 ∧ nodesB R.length [i, j] = true
    · rw [if_pos hc] at h ⊢
      obtain ⟨n0, -, hno⟩ := hc
      simp only [nodesB, inN, List.all_cons, List.all_nil, Bool.and_true, Bool.and_eq_true, decide_eq_true_eq] at hno
      obtain ⟨⟨i1, i2⟩, j1, j2⟩ := hno
      obtain ⟨ni, rfl⟩ := Int.eq_ofNat_of_zero_le i1
      obtain ⟨jn, rfl⟩ := Int.eq_ofNat_of_zero_le j1
      obtain ⟨nn, rfl⟩ := Int.eq_ofNat_of_zero_le n0
      refine ⟨ni, jn, rfl, rfl, by omega, by omega, ?_⟩
      by_cases hd : (fnd R (unitM R.length)).2.2.2 = 0
      · rw [if_pos hd] at h ⊢
        obtain ⟨hm, hw⟩ := sqB_t hs
        obtain ⟨a1, a2, -⟩ := isMat_t hm
        have hf : ∃ s c g, fnd R (unitM R.length) = (s, c, g, 0) := ⟨_, _, _, Prod.ext rfl (Prod.ext rfl (Prod.ext rfl hd))⟩
        obtain ⟨s, c, g, hf⟩ := hf
        rw [hf] at h ⊢
        obtain ⟨k, e, rfl, rfl, q1, q2, q3, q4, q5, q6⟩ := out_spec 100 0 rfl (show okQ R (unitM R.length) 0 = true from unitM_ok a1 a2) hf
        have hchk : chk (peVal R nn ni jn k ((e : Int) - k) g) = (peVal R nn ni jn k ((e : Int) - k) g, 0) := by
          unfold chk at h ⊢
          split
          · rfl
          · rename_i hv; rw [if_neg hv] at h; simp at h
        show (powRes R nn).2 = 3 ∨ _
        by_cases hp : (powN R nn).2 = true
        · right
          rw [powRes_y hm (by omega) hw hp]
          have hl := powN_len hp
          have hwd := powN_wid a1 hw hp
          have hok := powN_ok a1 a2 nn hp
          refine ⟨rfl, hl, ?_, ?_⟩
          · show ((powN R nn).1.getD ni []).length = _
            rw [isMat_len hok (by omega), hwd]
          · show ent (powN R nn).1 ni jn = (chk (peVal R nn ni jn k ((e : Int) - k) g)).1
            rw [hchk]
            exact gp_entry hs (by omega) hp q1 q4 q3 q5 q6 (by omega) (by omega)
        · left
          unfold powRes
          rw [if_pos hm, if_pos ⟨by omega, by omega⟩, if_pos hw, Int.toNat_natCast, if_neg hp]
      · rw [if_neg hd] at h; exact absurd h hd
    · rw [if_neg hc] at h; simp at h
  · rw [if_neg hs] at h; simp at h
end M
end Go.Proofs.Ytcofjjipjcekjab

namespace Go.Proofs.Ytcofjjipjcekjab.V
set_option maxRecDepth 100000
open Go.RowKit
/-- A number that is so small that no sum of two overflows. -/
def Wid (v : Int) : Prop := -2000000000000000 ≤ v ∧ v ≤ 2000000000000000
theorem wid_val {v : Int} (h : M.isVal v = true) : Wid v := by have := M.isVal_t h; unfold Wid; omega
set_option maxRecDepth 100000 in
set_option maxHeartbeats 400000 in
theorem timesW (a b : Int) (w : World) (ha : Wid a) (hb : Wid b) : Calls Try.prog 83 #[.int .i64 a, .int .i64 b] w fun e w' => e = .returned (.int .i64 (M.times a b)) ∧ w = w' := by
  obtain ⟨ba1, ba2⟩ := ha
  obtain ⟨bb1, bb2⟩ := hb
  by_cases h : a = -1000000000000000
  · subst h
    go_enter Try.func83, Try.ntmps83
    go_wp2
    all_goals go_ret; exact ⟨retI (by simp [M.times]), rfl⟩
  · have h' : (a == -1000000000000000) = false := by simpa using h
    by_cases h2 : b = -1000000000000000
    · subst h2
      go_enter Try.func83, Try.ntmps83
      go_wp2
      all_goals go_ret; exact ⟨retI (by simp [M.times]), rfl⟩
    · have h2' : (b == -1000000000000000) = false := by simpa using h2
      go_enter Try.func83, Try.ntmps83
      go_wp2
      all_goals go_ret; exact ⟨retI (by simp [M.times, h, h2]), rfl⟩
set_option maxRecDepth 100000 in
set_option maxHeartbeats 400000 in
theorem sTimesW (a b : Int) (w : World) (ha : Wid a) (hb : Wid b) : Calls Try.prog 89 #[.int .i64 a, .int .i64 b] w fun e w' => e = .returned (.int .i64 (M.times a b)) ∧ w = w' := by
  obtain ⟨ba1, ba2⟩ := ha
  obtain ⟨bb1, bb2⟩ := hb
  by_cases h : a = -1000000000000000
  · subst h
    go_enter Try.func89, Try.ntmps89
    go_wp2
    all_goals go_ret; exact ⟨retI (by simp [M.times]), rfl⟩
  · have h' : (a == -1000000000000000) = false := by simpa using h
    by_cases h2 : b = -1000000000000000
    · subst h2
      go_enter Try.func89, Try.ntmps89
      go_wp2
      all_goals go_ret; exact ⟨retI (by simp [M.times]), rfl⟩
    · have h2' : (b == -1000000000000000) = false := by simpa using h2
      go_enter Try.func89, Try.ntmps89
      go_wp2
      all_goals go_ret; exact ⟨retI (by simp [M.times, h, h2]), rfl⟩
/-- The first k elements of a list of n that is being filled. -/
def vPart (n : Nat) (f : Nat → Int) (k : Nat) : List Int := (List.range n).map fun j => if j < k then f j else 0
theorem vPart_zero (n : Nat) (f : Nat → Int) : vPart n f 0 = (List.range n).map fun _ => 0 := by simp [vPart]
theorem vPart_end (n : Nat) (f : Nat → Int) : vPart n f n = (List.range n).map f := List.map_congr_left fun j hj => by simp [List.mem_range.1 hj]
theorem vPart_set (n : Nat) (f : Nat → Int) (k : Nat) : (vPart n f k).set k (f k) = vPart n f (k + 1) := by
  unfold vPart
  rw [M.map_set]
  refine List.map_congr_left fun j _ => ?_
  by_cases e : j = k
  · subst e; rw [if_pos rfl, if_pos (by omega)]
  · rw [if_neg e]
    by_cases e2 : j < k
    · rw [if_pos e2, if_pos (by omega)]
    · rw [if_neg e2, if_neg (by omega)]
theorem shv_map (l : List Int) (g : Int) : M.shvL l g = (List.range l.length).map fun j => M.times (l.getD j 0) g := by
  refine M.list_ext0 (by rw [M.shv_len]; simp) fun i hi => ?_
  rw [M.shv_len] at hi
  rw [M.shv_get hi]
  simp [hi]
set_option maxRecDepth 100000 in
set_option maxHeartbeats 400000 in
theorem clTimesW (a b : Int) (w : World) (ha : Wid a) (hb : Wid b) : Calls Try.prog 117 #[.int .i64 a, .int .i64 b] w fun e w' => e = .returned (.int .i64 (M.times a b)) ∧ w = w' := by
  have HA := Lib.hid ha
  have HB := Lib.hid hb
  clear ha hb
  go_enter Try.func117, Try.ntmps117
  go_wp2_with (first | (go_at_call 83; refine (timesW _ _ _ HA.out HB.out).mono ?_; rintro e w' ⟨rfl, rfl⟩))
  go_ret
  exact ⟨rfl, rfl⟩
theorem fld1s : ∀ w : World, (Instr.field 113 (.agg #[.func (.func 116) #[] #[], .func (.func 117) #[] #[]]) 1).run Try.prog w = .ok (.func (.func 117) #[] #[]) w := fun w => by simp [Instr.field, part, asAgg, go_sem]
set_option maxRecDepth 100000 in
set_option maxHeartbeats 4000000 in
theorem shiftedList (a : Option Addr) (n cap : Nat) (l : List Int) (g : Int) (w : World) (h : Ints .i64 w a n l) (hn : n ≤ 1000) (hl : ∀ k, k < n → Wid (l.getD k 0)) (hg : Wid g) :
    Calls Try.prog 72 #[.slice a n cap, .int .i64 g] w fun e w' => ∃ b, e = .returned (.slice b n n) ∧ Own w' w.heap.size (.slice b n n) (M.shvL l g) ∧ Below w.heap.size w w' := by
  have HI := Lib.hid h
  have HL := Lib.hid hl
  have HG := Lib.hid hg
  have HE : Hid (M.shvL l g = (List.range n).map fun j => M.times (l.getD j 0) g) := by show _ = _; rw [shv_map, h.1]
  have hmk := run_make_row' (P := Try.prog) 25 2 (.int .i64 0) 8 Try.underlying25 info64 rfl .i64 .i64 n (by omega) (by omega)
  have hfld := fld1s
  clear h hl hg
  go_enter Try.func72, Try.ntmps72
  go_wp2_with fail
  refine (maxPlus _).mono ?_
  rintro e w1 ⟨rfl, hb1⟩
  have HB1 := Lib.hid hb1
  have hz1 : w.heap.size ≤ w1.heap.size := hb1.size
  clear hb1
  go_wp2
  clear hmk hfld
  go_loopw [7, 8, 16] (fun _ _ i wr => ∃ k : Nat, k ≤ n ∧ i = .int .i64 k ∧ Own wr w1.heap.size (.slice (some ⟨w1.heap.size, 0, none⟩) n n) (vPart n (fun j => M.times (l.getD j 0) g) k) ∧ Below w1.heap.size w1 wr) (fun _ _ i _ => n - (intOf i).toNat)
  case atStart => exact ⟨0, Nat.zero_le _, rfl, by rw [vPart_zero]; exact own_made w1 _ n (Nat.le_refl _) (by unfold maxLen; omega), b_alloc _ _⟩
  case round =>
    obtain ⟨k, hk, rfl, hO, hb⟩ := hrel
    have HO := Lib.hid hO
    have HB := Lib.hid hb
    clear hO hb
    by_cases hlt : k < n
    · have hki : (k : Int) < (n : Int) := by omega
      obtain ⟨b, off, x, rfl, -, hx, hc⟩ := ((HI.out.below HB1.out).below HB.out).at k hlt
      have hWx := HL.out k hlt
      rw [← hx] at hWx
      have HW := Lib.hid hWx
      obtain ⟨v, hst⟩ : ∃ v, wr.cell? ⟨w1.heap.size, k, none⟩ = some v := ⟨_, HO.out.cellAt k hlt⟩
      have hfz := HO.out.frozenAt k
      have HN : Hid (Own (wr.setCell ⟨w1.heap.size, k, none⟩ (.int .i64 (M.times x g))) w1.heap.size (.slice (some ⟨w1.heap.size, 0, none⟩) n n) (vPart n (fun j => M.times (l.getD j 0) g) (k + 1))) := by
        show Own _ _ _ _
        have := Own.set HO.out k (M.times x g)
        rw [hx, vPart_set n (fun j => M.times (l.getD j 0) g) k, ← hx] at this
        exact this
      clear hx hWx HO
      go_wp2_with (go_at_call 117; refine (clTimesW _ _ _ HW.out HG.out).mono ?_; rintro e w' ⟨rfl, rfl⟩)
      go_roundw
      case rel => exact ⟨k + 1, by omega, by go_num, HN.out, HB.out.setCell (Nat.le_refl _) _⟩
      case measure => simp [intOf]; omega
    · obtain rfl : k = n := by omega
      go_wp2
      go_ret
      exact ⟨_, rfl, by rw [HE.out, ← vPart_end]; exact HO.out.mono hz1, HB1.out.trans (HB.out.mono hz1)⟩
set_option maxRecDepth 100000 in
set_option maxHeartbeats 4000000 in
theorem sShift7 (a : Option Addr) (n cap : Nat) (l : List Int) (g : Int) (w : World) (h : Ints .i64 w a n l) (hn : n ≤ 1000) (hl : ∀ k, k < n → Wid (l.getD k 0)) (hg : Wid g) :
    Calls Try.prog 68 #[.slice a n cap, .int .i64 g] w fun e w' => ∃ b c, e = .returned (.slice b n c) ∧ Own w' w.heap.size (.slice b n c) (M.shvL l g) ∧ Below w.heap.size w w' := by
  have HI := Lib.hid h
  have HL := Lib.hid hl
  have HG := Lib.hid hg
  have HLl : Hid ((M.shvL l g).length = n) := by show _ = _; rw [M.shv_len, h.1]
  have HT : Hid (∀ k, k < n → (M.shvL l g).take (k + 1) = (M.shvL l g).take k ++ [M.times (l.getD k 0) g]) := fun k hk => M.shv_take (by rw [h.1]; exact hk)
  clear h hl hg
  generalize hS : M.shvL l g = S at *
  have HS := Lib.hid hS
  clear hS
  go_enter Try.func68, Try.ntmps68
  go_wp2
  go_loopw [5, 6] (fun ov kv wr => ∃ (k : Nat) (b : Option Addr) (c : Nat), k ≤ n ∧ kv = .int .i64 k ∧ ov = .slice b k c ∧ Hid (Own wr w.heap.size (.slice b k c) (S.take k)) ∧ Hid (Below w.heap.size w wr)) (fun _ kv _ => n - (intOf kv).toNat)
  case atStart => exact ⟨0, _, _, Nat.zero_le _, rfl, rfl, own_lit0 w _ (Nat.le_refl _), b_alloc _ _⟩
  case round =>
    obtain ⟨k, b, c, hk, rfl, rfl, HO, HB⟩ := hrel
    by_cases hlt : k < n
    · have hki : (k : Int) < (n : Int) := by omega
      obtain ⟨ib, io, x, rfl, -, hx, hc⟩ := (HI.out.below HB.out).at k hlt
      have hWx := HL.out k hlt
      have hT := HT.out k hlt
      rw [← hx] at hWx hT
      have HW := Lib.hid hWx
      have HT2 := Lib.hid hT
      have hlen : (S.take k).length = k := by rw [List.length_take]; have := HLl.out; omega
      have HLen := Lib.hid hlen
      clear hx hWx hT hlen
      generalize S.take k = Sk at *
      go_wp2_with (first | (go_at_call 89; refine (sTimesW _ _ _ HW.out HG.out).mono ?_; rintro e w' ⟨rfl, rfl⟩) | (at_builtin; refine append1 _ rfl (.tmp 14) (.tmp 21) rfl w.heap.size _ Sk (M.times x g) k HLen.out rfl HO.out rfl (by have := HLen.out; omega) HB.out.size ?_))
      intro b4 c4 w4 hO4 hb4 _
      have HO4 := Lib.hid hO4
      have HB4 := Lib.hid (HB.out.trans hb4)
      clear hO4 hb4
      go_wp2
      go_roundw
      case rel => exact ⟨k + 1, b4, c4, by omega, by go_num, rfl, by show Own _ _ _ _; rw [HT2.out]; exact HO4.out, HB4⟩
      case measure => simp [intOf]; omega
    · obtain rfl : k = n := by omega
      have HTa : Hid (S.take k = S) := List.take_of_length_le (by have := HLl.out; omega)
      go_wp2
      go_ret
      exact ⟨_, _, rfl, by have := HO.out; rw [HTa.out] at this; exact this, HB.out⟩
set_option maxRecDepth 100000 in
set_option maxHeartbeats 400000 in
theorem shiftVector (a : Option Addr) (n cap : Nat) (l : List Int) (g : Int) (w : World) (h : Ints .i64 w a n l) :
    Calls Try.prog 22 #[.slice a n cap, .int .i64 g] w (VRes (M.shvRes l g) w) := by
  have HI := Lib.hid h
  obtain ⟨v1, hv1⟩ : ∃ v, v = M.isVec l := ⟨_, rfl⟩
  have HV1 := Lib.hid hv1.symm
  cases v1 with
  | false =>
    have HE : Hid (M.shvRes l g = ([], 1)) := by show _ = _; unfold M.shvRes; rw [← hv1]; rfl
    clear h hv1
    go_enter Try.func22, Try.ntmps22
    go_wp2_with fail
    refine (isVector_b _ _ _ l _ false HV1.out HI.out).mono ?_
    rintro e w' ⟨rfl, rfl⟩
    go_wp2
    go_ret2
    exact VRes.nil HE.out (Below.refl _ _)
  | true =>
    obtain ⟨-, n2⟩ := ints_vec h hv1.symm
    have HW : Hid (∀ k, k < n → Wid (l.getD k 0)) := fun k hk => wid_val ((M.isVec_t hv1.symm).2.2 k (by rw [h.1]; exact hk))
    obtain ⟨v2, hv2⟩ : ∃ v, v = M.isFin g := ⟨_, rfl⟩
    have HC : Hid (∀ w, Calls Try.prog 71 #[.int .i64 g] w fun e w' => e = .returned (.bool v2) ∧ w = w') := fun w => by rw [hv2]; exact isFinite g w
    cases v2 with
    | false =>
      have HE : Hid (M.shvRes l g = ([], 2)) := by show _ = _; unfold M.shvRes; rw [← hv1, ← hv2]; rfl
      clear h hv1 hv2
      go_enter Try.func22, Try.ntmps22
      go_wp2_with fail
      refine (isVector_b _ _ _ l _ true HV1.out HI.out).mono ?_
      rintro e w' ⟨rfl, rfl⟩
      go_wp2_with fail
      refine (HC.out _).mono ?_
      rintro e w' ⟨rfl, rfl⟩
      go_wp2
      go_ret2
      exact VRes.nil HE.out (Below.refl _ _)
    | true =>
      have HG : Hid (Wid g) := by
        have : M.isFin g = true := hv2.symm
        unfold M.isFin at this
        simp at this
        exact ⟨by omega, by omega⟩
      obtain ⟨v3, hv3⟩ : ∃ v, v = M.isVec (M.shvL l g) := ⟨_, rfl⟩
      have HV3 := Lib.hid hv3.symm
      have HE : Hid (M.shvRes l g = if v3 then (M.shvL l g, 0) else ([], 3)) := by show _ = _; unfold M.shvRes; rw [← hv1, ← hv2, hv3]; rfl
      clear h hv1 hv2 hv3
      go_enter Try.func22, Try.ntmps22
      go_wp2_with fail
      refine (isVector_b _ _ _ l _ true HV1.out HI.out).mono ?_
      rintro e w' ⟨rfl, rfl⟩
      go_wp2_with fail
      refine (HC.out _).mono ?_
      rintro e w' ⟨rfl, rfl⟩
      go_wp2_with fail
      refine (shiftedList _ _ _ l g _ HI.out (by omega) HW.out HG.out).mono ?_
      rintro e w1 ⟨b1, rfl, ho, hb⟩
      have HO := Lib.hid ho
      have HB := Lib.hid hb
      clear ho hb
      cases v3 with
      | false =>
        go_wp2_with fail
        refine (checkedVector_f _ _ _ (M.shvL l g) _ HV3.out HO.out.ints').mono ?_
        rintro e w' ⟨rfl, rfl⟩
        go_wp2
        go_ret2
        exact VRes.nil HE.out HB.out
      | true =>
        go_wp2_with fail
        refine (checkedVector_t _ _ _ (M.shvL l g) _ HV3.out HO.out.ints').mono ?_
        rintro e w' ⟨rfl, rfl⟩
        go_wp2
        go_ret2
        rw [HE.out]
        exact ⟨_, _, _, rfl, HO.out, HB.out⟩
set_option maxRecDepth 100000 in
set_option maxHeartbeats 400000 in
theorem sShiftVector (a : Option Addr) (n cap : Nat) (l : List Int) (g : Int) (w : World) (h : Ints .i64 w a n l) :
    Calls Try.prog 23 #[.slice a n cap, .int .i64 g] w (VRes (M.shvRes l g) w) := by
  have HI := Lib.hid h
  obtain ⟨v1, hv1⟩ : ∃ v, v = M.isVec l := ⟨_, rfl⟩
  have HV1 := Lib.hid hv1.symm
  cases v1 with
  | false =>
    have HE : Hid (M.shvRes l g = ([], 1)) := by show _ = _; unfold M.shvRes; rw [← hv1]; rfl
    clear h hv1
    go_enter Try.func23, Try.ntmps23
    go_wp2_with fail
    refine (sVector_b _ _ _ l _ false HV1.out HI.out).mono ?_
    rintro e w' ⟨rfl, rfl⟩
    go_wp2
    go_ret2
    exact VRes.nil HE.out (Below.refl _ _)
  | true =>
    obtain ⟨-, n2⟩ := ints_vec h hv1.symm
    have HW : Hid (∀ k, k < n → Wid (l.getD k 0)) := fun k hk => wid_val ((M.isVec_t hv1.symm).2.2 k (by rw [h.1]; exact hk))
    obtain ⟨v2, hv2⟩ : ∃ v, v = M.isFin g := ⟨_, rfl⟩
    have HC : Hid (∀ w, Calls Try.prog 73 #[.int .i64 g] w fun e w' => e = .returned (.bool v2) ∧ w = w') := fun w => by rw [hv2]; exact sFinite g w
    cases v2 with
    | false =>
      have HE : Hid (M.shvRes l g = ([], 2)) := by show _ = _; unfold M.shvRes; rw [← hv1, ← hv2]; rfl
      clear h hv1 hv2
      go_enter Try.func23, Try.ntmps23
      go_wp2_with fail
      refine (sVector_b _ _ _ l _ true HV1.out HI.out).mono ?_
      rintro e w' ⟨rfl, rfl⟩
      go_wp2_with fail
      refine (HC.out _).mono ?_
      rintro e w' ⟨rfl, rfl⟩
      go_wp2
      go_ret2
      exact VRes.nil HE.out (Below.refl _ _)
    | true =>
      have HG : Hid (Wid g) := by
        have : M.isFin g = true := hv2.symm
        unfold M.isFin at this
        simp at this
        exact ⟨by omega, by omega⟩
      obtain ⟨v3, hv3⟩ : ∃ v, v = M.isVec (M.shvL l g) := ⟨_, rfl⟩
      have HV3 := Lib.hid hv3.symm
      have HE : Hid (M.shvRes l g = if v3 then (M.shvL l g, 0) else ([], 3)) := by show _ = _; unfold M.shvRes; rw [← hv1, ← hv2, hv3]; rfl
      clear h hv1 hv2 hv3
      go_enter Try.func23, Try.ntmps23
      go_wp2_with fail
      refine (sVector_b _ _ _ l _ true HV1.out HI.out).mono ?_
      rintro e w' ⟨rfl, rfl⟩
      go_wp2_with fail
      refine (HC.out _).mono ?_
      rintro e w' ⟨rfl, rfl⟩
      go_wp2_with fail
      refine (sShift7 _ _ _ l g _ HI.out (by omega) HW.out HG.out).mono ?_
      rintro e w1 ⟨b1, c1, rfl, ho, hb⟩
      have HO := Lib.hid ho
      have HB := Lib.hid hb
      clear ho hb
      cases v3 with
      | false =>
        go_wp2_with fail
        refine (sVector_b _ _ _ (M.shvL l g) _ false HV3.out HO.out.ints').mono ?_
        rintro e w' ⟨rfl, rfl⟩
        go_wp2
        go_ret2
        exact VRes.nil HE.out HB.out
      | true =>
        go_wp2_with fail
        refine (sVector_b _ _ _ (M.shvL l g) _ true HV3.out HO.out.ints').mono ?_
        rintro e w' ⟨rfl, rfl⟩
        go_wp2
        go_ret2
        rw [HE.out]
        exact ⟨_, _, _, rfl, HO.out, HB.out⟩
end Go.Proofs.Ytcofjjipjcekjab.V
