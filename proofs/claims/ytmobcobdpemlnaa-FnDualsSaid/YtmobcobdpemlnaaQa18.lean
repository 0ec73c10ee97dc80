/- Texts laid together: Dpb, Dpc, Tln, Tlt, Nin, Tal, Ftl, Dpd, Lea. -/
import Derived.Test.YtmobcobdpemlnaaQa6
import Derived.Test.YtmobcobdpemlnaaQa7
import Derived.Lib.RabinKarpLaws
import Derived.Test.YtmobcobdpemlnaaQa9
import Derived.Deep.WholeRow
import Derived.Deep.RegionHeld3
set_option linter.unusedSimpArgs false
set_option linter.unusedVariables false
set_option linter.unusedSectionVars false
namespace Go.Proofs.Ytmobcobdpemlnaa
namespace M
def bestL (R : List (List Int)) (n k : Nat) : List Int := (dpL R n k).map Prod.fst
def waysL (R : List (List Int)) (n k : Nat) : List Int := (dpL R n k).map Prod.snd
end M
namespace V
set_option maxRecDepth 100000
open Go.RowKit
theorem append1B (w : World) {ops : Array Oper} {rest : List Oper} {o : Oper} {a : Act} {Q : Exit → Act → World → Prop} (hgd : o.guard = none) (s x : Operand)
    (ho : o.op = .call { callee := .builtin .append, args := #[s, x], argTypes := #[26, 26] }) (B : Nat) (v : Value) (l : List Int) (y : Int) (n : Nat) (hn : l.length = n) (hs : a.eval s = v) (hown : Own w B v l)
    (hx : a.eval x = .slice (some ⟨w.heap.size, 0, none⟩) 1 1) (hlen : l.length ≤ 2000000) (hB : B ≤ w.heap.size)
    (h : ∀ b' c' w', Own w' B (.slice b' (n + 1) c') (l ++ [y]) → Below B w w' → (∀ k, k < w.heap.size → v.ownBlock ≠ some k → w'.heap[k]? = w.heap[k]?) → ((Value.slice b' (n + 1) c').ownBlock = v.ownBlock ∨ (Value.slice b' (n + 1) c').ownBlock = some (w.heap.size + 1)) → wpList Try.prog ops Q rest (a.put o.dst (.slice b' (n + 1) c')) w') :
    wpList Try.prog ops Q (o :: rest) a (w.alloc (.cells #[.int .i64 y] 2)) := by
  subst hn
  obtain ⟨i0, hi, hz0, hz1, hz2⟩ := info_parts info64
  have hown2 : (w.alloc (.cells #[.int .i64 y] 2)).ownsRow B 2 1 v l.length (l.map (Value.int .i64)) := World.ownsRow.alloc hown _
  refine wpList_append_own_at (w := w.alloc (.cells #[.int .i64 y] 2)) hgd s x 26 ho B 2 i0 (.int .i64 0) 1 8 Try.underlying26 hi hz0 hz1 hz2 rfl (by decide) v _ _ hs hown2 ⟨w.heap.size, 0, none⟩ 1 1 [.int .i64 y] hx rfl (cell_one_new _ _ _) ?c2 ?c3 ?c4 ?c5 ?_
  case c2 => intro u hu; simp at hu; subst hu; rfl
  case c3 => unfold maxLen; omega
  case c4 => omega
  case c5 => simp; omega
  · intro v' w' hown' hgrow hz hvb
    have ho' : Own w' B v' (l ++ [y]) := by
      show w'.ownsRow B _ 1 v' (l ++ [y]).length ((l ++ [y]).map (Value.int .i64))
      simpa using hown'
    obtain ⟨b', c', hv', _⟩ := own_form ho'
    rw [show (l ++ [y]).length = l.length + 1 by simp] at hv'
    subst hv'
    have hvb2 := hvb
    refine h b' c' w' ho' (((Below.refl B w).alloc hB _).grown hgrow (by simp; omega) (fun k hk => (own_lt hown hk).1)) (fun k hk hne => ?_) (by simpa using hvb2)
    obtain ⟨g1, g2, g3, g4, g5⟩ := hgrow
    rw [g5 k (by simp; omega) (fun e => hne e.symm), Below.heap_alloc _ _ _ hk]
/-- Two lists, each in its own block. -/
structure Two (w : World) (B : Nat) (v v2 : Value) (l l2 : List Int) : Prop where
  one : Own w B v l
  two : Own w B v2 l2
  apart : ∀ k, v.ownBlock = some k → v2.ownBlock ≠ some k
theorem two_pow_le {n : Nat} (h : n ≤ 10) : 2 ^ n ≤ 1024 := by
  have := Nat.pow_le_pow_right (show 0 < 2 by omega) h
  omega
theorem int_pow (n : Nat) : ((2 : Int) ^ n) = ((2 ^ n : Nat) : Int) := by simp
theorem wrap_pow {n : Nat} (h : n ≤ 10) : wrap64 ((2 : Int) ^ n) = ((2 ^ n : Nat) : Int) := by
  have h1 := two_pow_le h
  rw [int_pow]
  exact IntWalk.wrap64_in _ ⟨by have := Int.natCast_nonneg (2 ^ n); omega, by have : ((2 ^ n : Nat) : Int) ≤ 1024 := Int.ofNat_le.2 h1; omega⟩
/-- The bit j of a set, as the model reads it. -/
theorem bit_at {s j : Nat} (h : s ≤ 1024) : bits BinOp.and IntKind.i64 ((s : Int) / 2 ^ j) 1 = ((if s.testBit j then 1 else 0 : Nat) : Int) := by
  rw [int_pow, ← Int.natCast_ediv, and_one _ (Nat.lt_of_le_of_lt (Nat.div_le_self _ _) (by omega))]
  congr 1
  rw [Nat.testBit_eq_decide_div_mod_eq]
  have := Nat.mod_two_eq_zero_or_one (s / 2 ^ j)
  rcases this with e | e <;> simp [e]
theorem best_len (R : List (List Int)) (n k : Nat) : (M.bestL R n k).length = k + 1 := by unfold M.bestL; rw [List.length_map, M.dpL_len]
theorem ways_len (R : List (List Int)) (n k : Nat) : (M.waysL R n k).length = k + 1 := by unfold M.waysL; rw [List.length_map, M.dpL_len]
theorem best_get {R : List (List Int)} {n k s : Nat} (h : s ≤ k) : (M.bestL R n k).getD s 0 = (M.dp R n s).1 := by
  rw [← M.dpL_get k h]
  unfold M.bestL
  rw [List.getD_eq_getElem?_getD, List.getElem?_map, List.getD_eq_getElem?_getD, List.getElem?_eq_getElem (by rw [M.dpL_len]; omega)]
  rfl
theorem ways_get {R : List (List Int)} {n k s : Nat} (h : s ≤ k) : (M.waysL R n k).getD s 0 = (M.dp R n s).2 := by
  rw [← M.dpL_get k h]
  unfold M.waysL
  rw [List.getD_eq_getElem?_getD, List.getElem?_map, List.getD_eq_getElem?_getD, List.getElem?_eq_getElem (by rw [M.dpL_len]; omega)]
  rfl
theorem best_next {R : List (List Int)} {n k : Nat} : M.bestL R n (k + 1) = M.bestL R n k ++ [(M.dp R n (k + 1)).1] := by
  rw [M.dp_rec (Nat.succ_pos k), ← M.dpF_congr (f := fun t => (M.dpL R n k).getD t (0, 0)) (fun t ht => M.dpL_get k (by omega)) n]
  unfold M.bestL
  rw [M.dpL, List.map_append]
  rfl
theorem ways_next {R : List (List Int)} {n k : Nat} : M.waysL R n (k + 1) = M.waysL R n k ++ [(M.dp R n (k + 1)).2] := by
  rw [M.dp_rec (Nat.succ_pos k), ← M.dpF_congr (f := fun t => (M.dpL R n k).getD t (0, 0)) (fun t ht => M.dpL_get k (by omega)) n]
  unfold M.waysL
  rw [M.dpL, List.map_append]
  rfl
theorem Two.keep {w w' : World} {B : Nat} {v v2 : Value} {l l2 : List Int} (h : Two w B v v2 l l2) (hk : ∀ k, B ≤ k → k < w.heap.size → w'.heap[k]? = w.heap[k]?) : Two w' B v v2 l l2 := ⟨h.one.keep hk, h.two.keep hk, h.apart⟩
theorem Two.appL {w w' : World} {B : Nat} {v v2 v' : Value} {l l2 l' : List Int} (h : Two w B v v2 l l2) (ho : Own w' B v' l') (hk : ∀ k, k < w.heap.size → v.ownBlock ≠ some k → w'.heap[k]? = w.heap[k]?) (hv : v'.ownBlock = v.ownBlock ∨ v'.ownBlock = some (w.heap.size + 1)) : Two w' B v' v2 l' l2 := by
  refine ⟨ho, ownsRow_keep h.two fun k q => hk k (own_lt h.two q).2 fun q2 => h.apart k q2 q, fun k q q2 => ?_⟩
  rcases hv with e | e
  · rw [e] at q; exact h.apart k q q2
  · rw [e] at q
    injection q with q
    have := (own_lt h.two q2).2
    omega
theorem Two.appR {w w' : World} {B : Nat} {v v2 v' : Value} {l l2 l' : List Int} (h : Two w B v v2 l l2) (ho : Own w' B v' l') (hk : ∀ k, k < w.heap.size → v2.ownBlock ≠ some k → w'.heap[k]? = w.heap[k]?) (hv : v'.ownBlock = v2.ownBlock ∨ v'.ownBlock = some (w.heap.size + 1)) : Two w' B v v' l l' := by
  refine ⟨ownsRow_keep h.one fun k q => hk k (own_lt h.one q).2 fun q2 => h.apart k q q2, ho, fun k q q2 => ?_⟩
  rcases hv with e | e
  · rw [e] at q2; exact h.apart k q q2
  · rw [e] at q2
    injection q2 with q2
    have := (own_lt h.one q).2
    omega
theorem dp_row {w : World} {a : Option Addr} {n i j : Nat} {R : List (List Int)} (h : Mat w a n R) (hi : i < n) (hj : j < n) (hl : (R.getD i []).length = n) : ∃ b off q o c x, a = some ⟨b, off, none⟩ ∧ w.cell? ⟨b, off + i, none⟩ = some (.slice (some ⟨q, o, none⟩) n c) ∧ x = M.ent R i j ∧ w.cell? ⟨q, o + j, none⟩ = some (.int .i64 x) := by
  rcases h.2.2 with h0 | ⟨b, off, rfl, -, hc⟩
  · omega
  · obtain ⟨q, c, h1, hr⟩ := hc i hi
    rw [hl] at h1 hr
    obtain ⟨b', off', x, rfl, -, hx, hcx⟩ := hr.at j hj
    exact ⟨b, off, b', off', c, x, rfl, h1, hx, hcx⟩
theorem pc_pos {s : Nat} (h : 0 < s) {n : Nat} (hs : s < 2 ^ n) : 0 < M.pc n s := by
  apply Classical.byContradiction
  intro q
  have := M.none_zero hs (by omega)
  omega
/-- Weights and numbers of ways are small. -/
theorem dp_sm {R : List (List Int)} (h : M.Sq R) {s : Nat} (hs : s < 2 ^ R.length) : M.Sm 10000000 (M.dp R R.length s).1 := by
  rw [M.dp_T h _ s hs rfl]
  have h1 := M.T_sm (n := R.length) _ (M.sq_rows h (R.length - M.pc R.length s)) (by have := h.1; simp; omega) s
  exact M.sm_up h1 (by have := h.1; simp; omega)
/-- What is left of a set when a column is taken out, as the model reckons it. -/
theorem bit_parts {s u : Nat} (hs : s ≤ 1024) (hu : u < 10) (hb : s.testBit u = true) : ∃ p r : Nat, Hid (r = s - 2 ^ u) ∧ r < s ∧ wrap64 ((2 : Int) ^ u) = (p : Int) ∧ wrap64 ((s : Int) - (p : Int)) = (r : Int) := by
  have h1 := M.bit_ge hb
  have h2 := Nat.two_pow_pos u
  have h3 := wrap_pow (n := u) (by omega)
  generalize 2 ^ u = p at h1 h2 h3 ⊢
  exact ⟨p, s - p, rfl, by omega, h3, by rw [IntWalk.wrap64_in _ ⟨by omega, by omega⟩]; omega⟩
set_option maxRecDepth 100000 in
set_option maxHeartbeats 4000000 in
theorem sBest10 (a : Option Addr) (n cap : Nat) (R : List (List Int)) (w : World) (h : Mat w a n R) (hs : M.sqB R = true) :
    Calls Try.prog 84 #[.slice a n cap] w fun e w' => ∃ b1 c1 b2 c2, e = .returned (.tuple #[.slice b1 (2 ^ n) c1, .slice b2 (2 ^ n) c2]) ∧ Two w' w.heap.size (.slice b1 (2 ^ n) c1) (.slice b2 (2 ^ n) c2) (M.bestL R n (2 ^ n - 1)) (M.waysL R n (2 ^ n - 1)) ∧ Below w.heap.size w w' := by
  have hq := M.sq_is hs
  have hm := M.sqB_t hs
  obtain ⟨n1, n2, n3⟩ : R.length = n ∧ 1 ≤ n ∧ n ≤ 10 := ⟨h.1, by have := (M.isMat_t hm.1); rw [← h.1]; omega, by have := (M.isMat_t hm.1); rw [← h.1]; omega⟩
  obtain ⟨hwd, hfd⟩ := M.ways_bd (R := R) n3
  have HLen : Hid (∀ i, i < n → (R.getD i []).length = n) := fun i hi => by rw [M.isMat_len hm.1 (by omega), ← hm.2, n1]
  have HSm : Hid (∀ i j, i < n → j < n → M.Sm 1000000 (M.ent R i j)) := fun i j hi hj => hq.2 i (by omega) j (by omega)
  have HD : Hid (∀ s, s < 2 ^ n → M.Sm 10000000 (M.dp R n s).1) := fun s q => by have := dp_sm hq (s := s) (by rw [n1]; exact q); rw [n1] at this; exact this
  have HW := Lib.hid hwd
  have HFd := Lib.hid hfd
  have HA := Lib.hid h
  have hN1 := two_pow_le n3
  have hEN := wrap_pow n3
  have hN2 : 2 ≤ 2 ^ n := by have := Nat.pow_le_pow_right (show 0 < 2 by omega) n2; omega
  have HLt : Hid (∀ j, j < n → 2 ^ j ≤ 1024) := fun j hj => two_pow_le (by omega)
  obtain ⟨N, hN⟩ : ∃ N, N = 2 ^ n := ⟨_, rfl⟩
  rw [← hN] at hN1 hN2 hEN HD HW HFd ⊢
  have HN := Lib.hid hN
  clear h hs hN hq hm n1 hwd hfd
  go_enter Try.func84, Try.ntmps84
  go_wp2
  go_loopw [5, 6, 7] (fun best ways set wr => ∃ (s : Nat) (b1 b2 : Option Addr) (c1 c2 : Nat), 1 ≤ s ∧ s ≤ N ∧ set = .int .i64 s ∧ best = .slice b1 s c1 ∧ ways = .slice b2 s c2 ∧ Hid (Two wr w.heap.size (.slice b1 s c1) (.slice b2 s c2) (M.bestL R n (s - 1)) (M.waysL R n (s - 1))) ∧ Hid (Below w.heap.size w wr)) (fun _ _ set _ => N - (intOf set).toNat)
  case atStart =>
    refine ⟨1, _, _, _, _, Nat.le_refl _, by omega, rfl, rfl, rfl, Lib.hid ⟨?_, ?_, ?_⟩, Lib.hid ?_⟩
    · have h1 : Own (w.alloc (.cells #[.int .i64 0] 2)) w.heap.size (.slice (some ⟨w.heap.size, 0, none⟩) 1 1) [0] := World.ownsRow_lit w #[.int .i64 0] 1 (Nat.le_refl _) (by decide) rfl
      exact h1.below (b_alloc _ _)
    · have h1 : Own ((w.alloc (.cells #[.int .i64 0] 2)).alloc (.cells #[.int .i64 1] 2)) w.heap.size (.slice (some ⟨(w.alloc (.cells #[.int .i64 0] 2)).heap.size, 0, none⟩) 1 1) [1] := World.ownsRow_lit (w.alloc (.cells #[.int .i64 0] 2)) #[.int .i64 1] 1 (by simp) (by decide) rfl
      simp at h1
      exact h1
    · intro k q q2
      simp [Value.ownBlock] at q q2
      omega
    · exact (b_alloc w _).trans ((b_alloc _ _).mono (by simp))
  case round =>
    obtain ⟨s, b1, b2, c1, c2, hs1, hs2, rfl, rfl, rfl, HT, HB⟩ := hrel
    by_cases hlt : s < N
    · have hsi : (s : Int) < (N : Int) := by omega
      have hs1024 : s ≤ 1024 := by omega
      go_wp2
      go_loopw [8, 9] (fun size j w' => ∃ t : Nat, t ≤ n ∧ j = .int .i64 t ∧ size = .int .i64 (M.pc t s) ∧ w' = wr) (fun _ j _ => n - (intOf j).toNat)
      case atStart => exact ⟨0, Nat.zero_le _, rfl, rfl, rfl⟩
      case round =>
        obtain ⟨t, ht, rfl, rfl, rfl⟩ := hrel
        by_cases htl : t < n
        · have hti : (t : Int) < (n : Int) := by omega
          have hbt := bit_at (s := s) (j := t) hs1024
          have hpcl := M.pc_le s t
          obtain ⟨z, hz⟩ : ∃ z : Nat, z = (if s.testBit t then 1 else 0) := ⟨_, rfl⟩
          rw [← hz] at hbt
          have hz1 : z ≤ 1 := by rw [hz]; split <;> omega
          have HZ : Hid (M.pc (t + 1) s = M.pc t s + z) := by show _ = _; rw [hz]; rfl
          have hsum : wrap64 (((M.pc t s : Nat) : Int) + (z : Int)) = ((M.pc t s + z : Nat) : Int) := by
            rw [IntWalk.wrap64_in _ ⟨by omega, by omega⟩]; omega
          clear hz hpcl
          go_wp2
          go_roundw
          case rel => exact ⟨t + 1, by omega, by go_num, by rw [HZ.out, ← hsum], by first | rfl | trivial⟩
          case measure => simp [intOf]; omega
        · obtain rfl : n = t := by omega
          have hpl := M.pc_le s n
          have hp0 : 0 < M.pc n s := pc_pos (by omega) (by rw [← HN.out]; exact hlt)
          obtain ⟨row, hrow⟩ : ∃ r, r = n - M.pc n s := ⟨_, rfl⟩
          have hrl : row < n := by omega
          have hsub : wrap64 ((n : Int) - ((M.pc n s : Nat) : Int)) = (row : Int) := by rw [IntWalk.wrap64_in _ ⟨by omega, by omega⟩]; omega
          have HRow := Lib.hid hrow
          clear hrow hp0 hpl
          go_wp2
          try simp only [hsub, hEN]
          go_loopw [11, 12, 13] (fun top many j w' => ∃ u : Nat, u ≤ n ∧ j = .int .i64 u ∧ top = .int .i64 (M.dpF R n (M.dp R n) s u).1 ∧ many = .int .i64 (M.dpF R n (M.dp R n) s u).2 ∧ ∃ qd, w' = wr.drewN qd) (fun _ _ j _ => n - (intOf j).toNat)
          case atStart => exact ⟨0, Nat.zero_le _, rfl, rfl, rfl, 0, rfl⟩
          case round =>
            obtain ⟨u, hu, rfl, rfl, rfl, qd, rfl⟩ := hrel
            by_cases hul : u < n
            · have hui : (u : Int) < (n : Int) := by omega
              have hbt := bit_at (s := s) (j := u) hs1024
              obtain ⟨⟨tp, mn⟩, htm⟩ : ∃ v, v = M.dpF R n (M.dp R n) s u := ⟨_, rfl⟩
              by_cases hb : s.testBit u = true
              · rw [if_pos hb] at hbt
                obtain ⟨p, r, HR, hrs, hEp, hEr⟩ := bit_parts hs1024 (show u < 10 by omega) hb
                obtain ⟨gb, go, q, o, c, x, rfl, h1, hx, h2⟩ := dp_row (HA.out.below HB.out) hrl hul (HLen.out row hrl)
                obtain ⟨d1, d2, y, hy0, -, hy, cy⟩ := HT.out.one.ints'.at r hrs
                obtain ⟨d3, d4, k, hk0, -, hk, ck⟩ := HT.out.two.ints'.at r hrs
                subst hy0 hk0
                rw [best_get (by omega)] at hy
                rw [ways_get (by omega)] at hk
                have sx := HSm.out row u hrl hul
                have sy := HD.out r (by omega)
                have sk := HW.out r (by omega)
                have sn := HFd.out s hlt u hu
                rw [← hx] at sx
                rw [← hy] at sy
                rw [← hk] at sk
                rw [← htm] at sn
                have hnx : (M.dpF R n (M.dp R n) s (u + 1)) = M.stepT (tp, mn) (M.times x y) k := by
                  show (if s.testBit u then _ else _) = _
                  rw [if_pos hb, ← htm, hx, hy, hk, HRow.out, HR.out]
                have HNx := Lib.hid hnx
                have hT : ∀ w : World, Calls Try.prog 92 #[.int .i64 x, .int .i64 y] w fun e w' => e = .returned (.int .i64 (M.times x y)) ∧ w = w' := fun w => sTimesB _ _ _ (M.big_sm sx (by omega)) (M.big_sm sy (by omega))
                obtain ⟨z, hz⟩ : ∃ z, z = M.times x y := ⟨_, rfl⟩
                rw [← hz] at hT HNx
                have HTi := Lib.hid hT
                have hri : (r : Int) < (s : Int) := by omega
                obtain ⟨sn1, sn2⟩ : 0 ≤ mn ∧ mn ≤ 100000000000 := sn
                have hTM := Lib.hid htm.symm
                have e0 : M.dpF R n (M.dp R n) s u = (tp, mn) := htm.symm
                rw [e0]
                clear hT hx hy hk htm hb sx sy hnx hz e0
                by_cases hz : z = -1000000000000000
                · have hE : Hid (M.dpF R n (M.dp R n) s (u + 1) = (tp, mn)) := by show _ = _; rw [HNx.out, M.stepT, if_pos hz]
                  have hzb : (z == -1000000000000000) = true := by simpa using hz
                  go_wp2
                  go_quiet ((go_at_call 92; first | exact q_one_s (HTi.out _) | exact q_more_s (HTi.out _)))
                  go_wp2
                  go_roundw
                  case rel => exact ⟨u + 1, by omega, by go_num, by rw [hE.out], by rw [hE.out], _, by first | rfl | exact World.drewN_drewN _ _ _⟩
                  case measure => simp [intOf]; omega
                · have hzb : (z == -1000000000000000) = false := by simpa using hz
                  by_cases hgt : tp < z
                  · have hE : Hid (M.dpF R n (M.dp R n) s (u + 1) = (z, k)) := by show _ = _; rw [HNx.out, M.stepT, if_neg hz, if_pos hgt]
                    go_wp2
                    go_quiet ((go_at_call 92; first | exact q_one_s (HTi.out _) | exact q_more_s (HTi.out _)))
                    go_wp2
                    go_roundw
                    case rel => exact ⟨u + 1, by omega, by go_num, by rw [hE.out], by rw [hE.out], _, by first | rfl | exact World.drewN_drewN _ _ _⟩
                    case measure => simp [intOf]; omega
                  · have hgd : decide (tp < z) = false := decide_eq_false hgt
                    by_cases heq : z = tp
                    · have hE : Hid (M.dpF R n (M.dp R n) s (u + 1) = (tp, mn + k)) := by show _ = _; rw [HNx.out, M.stepT, if_neg hz, if_neg hgt, if_pos heq]
                      subst heq
                      have hmk : wrap64 (mn + k) = mn + k := IntWalk.wrap64_in _ ⟨by omega, by omega⟩
                      go_wp2
                      go_quiet ((go_at_call 92; first | exact q_one_s (HTi.out _) | exact q_more_s (HTi.out _)))
                      go_wp2
                      go_roundw
                      case rel => exact ⟨u + 1, by omega, by go_num, by rw [hE.out], by rw [hE.out], _, by first | rfl | exact World.drewN_drewN _ _ _⟩
                      case measure => simp [intOf]; omega
                    · have hE : Hid (M.dpF R n (M.dp R n) s (u + 1) = (tp, mn)) := by show _ = _; rw [HNx.out, M.stepT, if_neg hz, if_neg hgt, if_neg heq]
                      have heb : (z == tp) = false := by simpa using heq
                      go_wp2
                      go_quiet ((go_at_call 92; first | exact q_one_s (HTi.out _) | exact q_more_s (HTi.out _)))
                      go_wp2
                      go_roundw
                      case rel => exact ⟨u + 1, by omega, by go_num, by rw [hE.out], by rw [hE.out], _, by first | rfl | exact World.drewN_drewN _ _ _⟩
                      case measure => simp [intOf]; omega
              · rw [if_neg hb] at hbt
                have hE : Hid (M.dpF R n (M.dp R n) s (u + 1) = M.dpF R n (M.dp R n) s u) := by
                  show (if s.testBit u then _ else _) = _
                  rw [if_neg hb]
                have hTM := Lib.hid htm.symm
                have e0 : M.dpF R n (M.dp R n) s u = (tp, mn) := htm.symm
                rw [e0]
                clear htm hb e0
                go_wp2
                go_roundw
                case rel => exact ⟨u + 1, by omega, by go_num, by rw [hE.out, hTM.out], by rw [hE.out, hTM.out], _, rfl⟩
                case measure => simp [intOf]; omega
            · obtain rfl : n = u := by omega
              obtain ⟨⟨tp, mn⟩, htm⟩ : ∃ v, v = M.dpF R n (M.dp R n) s n := ⟨_, rfl⟩
              have e0 : M.dpF R n (M.dp R n) s n = (tp, mn) := htm.symm
              have hdp : M.dp R n s = (tp, mn) := by rw [M.dp_rec (by omega), e0]
              have HDp := Lib.hid hdp
              obtain ⟨k, hk⟩ : ∃ k, s = k + 1 := ⟨s - 1, by omega⟩
              have HK := Lib.hid hk
              rw [e0]
              clear htm e0 hdp hk
              have HLb : Hid ((M.bestL R n (s - 1)).length = s) := by show _ = _; rw [best_len]; omega
              have HLw : Hid ((M.waysL R n (s - 1)).length = s) := by show _ = _; rw [ways_len]; omega
              have HT2 : Hid (Two (wr.drewN qd) w.heap.size (.slice b1 s c1) (.slice b2 s c2) (M.bestL R n (s - 1)) (M.waysL R n (s - 1))) := HT.out.keep (fun _ _ _ => rfl)
              have HB2 : Hid (Below w.heap.size w (wr.drewN qd)) := below_drewN HB.out _
              have hszz : w.heap.size ≤ (wr.drewN qd).heap.size := HB2.out.size
              obtain ⟨w1, hw1⟩ : ∃ w1, w1 = wr.drewN qd := ⟨_, rfl⟩
              rw [← hw1] at HT2 HB2 hszz ⊢
              clear hw1 HT HB
              go_wp2_with (at_builtin; refine append1B _ rfl (.tmp 92) (.tmp 94) rfl w.heap.size _ _ _ s HLb.out rfl HT2.out.one rfl (by rw [HLb.out]; omega) hszz ?_)
              intro b3 c3 w2 hO hb hk hv
              have HT3 := Lib.hid (HT2.out.appL hO hk hv)
              have HB3 := Lib.hid (HB2.out.trans hb)
              have hsz2 : w.heap.size ≤ w2.heap.size := HB3.out.size
              clear hO hb hk hv HT2 HB2
              go_wp2_with (at_builtin; refine append1B _ rfl (.tmp 96) (.tmp 98) rfl w.heap.size _ _ _ s HLw.out rfl HT3.out.two rfl (by rw [HLw.out]; omega) hsz2 ?_)
              intro b4 c4 w3 hO hb hk hv
              have HT4 := Lib.hid (HT3.out.appR hO hk hv)
              have HB4 := Lib.hid (HB3.out.trans hb)
              clear hO hb hk hv HT3 HB3
              have e1 : M.bestL R n (s - 1) ++ [tp] = M.bestL R n (s + 1 - 1) := by
                have h1 := HK.out
                rw [h1, Nat.add_sub_cancel, Nat.add_sub_cancel, best_next, ← h1, HDp.out]
              have e2 : M.waysL R n (s - 1) ++ [mn] = M.waysL R n (s + 1 - 1) := by
                have h1 := HK.out
                rw [h1, Nat.add_sub_cancel, Nat.add_sub_cancel, ways_next, ← h1, HDp.out]
              have HT5 : Hid (Two w3 w.heap.size (.slice b3 (s + 1) c3) (.slice b4 (s + 1) c4) (M.bestL R n (s + 1 - 1)) (M.waysL R n (s + 1 - 1))) := by
                show Two _ _ _ _ _ _
                rw [← e1, ← e2]
                exact HT4.out
              clear HT4 e1 e2
              go_wp2
              go_roundw
              case rel => exact ⟨s + 1, _, _, _, _, by omega, by omega, by go_num, rfl, rfl, HT5, HB4⟩
              case measure => simp [intOf]; omega
    · obtain rfl : s = N := by omega
      have HE := HN.out
      go_wp2
      go_ret2
      exact ⟨_, _, _, _, rfl, HT.out, HB.out⟩
end V
end Go.Proofs.Ytmobcobdpemlnaa

namespace Go.Proofs.Ytmobcobdpemlnaa
namespace V
set_option maxRecDepth 100000
open Go.RowKit
theorem ret10 {r : Int × Int} {a b : Int} (h : r = (a, b)) : Ending.returned (.tuple #[.int .i64 a, .int .i64 b]) = .returned (.tuple #[.int .i64 r.1, .int .i64 r.2]) := by subst h; rfl
theorem retB10 {r : Bool × Int} {a : Bool} {b : Int} (h : r = (a, b)) : Ending.returned (.tuple #[.bool a, .int .i64 b]) = .returned (.tuple #[.bool r.1, .int .i64 r.2]) := by subst h; rfl
theorem top_at {R : List (List Int)} {n : Nat} (h : R.length = n) : (M.bestL R n (2 ^ n - 1)).getD (2 ^ n - 1) 0 = (M.perm R).1 := by
  rw [best_get (Nat.le_refl _)]; unfold M.perm; rw [h]
theorem cnt_at {R : List (List Int)} {n : Nat} (h : R.length = n) : (M.waysL R n (2 ^ n - 1)).getD (2 ^ n - 1) 0 = (M.perm R).2 := by
  rw [ways_get (Nat.le_refl _)]; unfold M.perm; rw [h]
set_option maxRecDepth 100000 in
set_option maxHeartbeats 1000000 in
theorem sTop10 (a : Option Addr) (n cap : Nat) (R : List (List Int)) (w : World) (h : Mat w a n R) (hs : M.sqB R = true) :
    Calls Try.prog 80 #[.slice a n cap] w fun e w' => e = .returned (.int .i64 (M.perm R).1) ∧ Below w.heap.size w w' := by
  have HT := Lib.hid (top_at h.1)
  have HA := Lib.hid h
  have HS := Lib.hid hs
  obtain ⟨x, hx⟩ : ∃ x, x = (M.perm R).1 := ⟨_, rfl⟩
  rw [← hx] at HT ⊢
  have hN1 : 1 ≤ 2 ^ n ∧ 2 ^ n ≤ 1024 := ⟨Nat.two_pow_pos n, two_pow_le (by have := (M.isMat_t (M.sqB_t hs).1).2.1; rw [← h.1]; exact this)⟩
  clear h hs hx
  go_enter Try.func80, Try.ntmps80
  go_wp2_with fail
  refine (sBest10 a n cap R _ HA.out HS.out).mono ?_
  rintro e w1 ⟨b1, c1, b2, c2, rfl, ht, hb⟩
  have HB := Lib.hid hb
  have HI := Lib.hid ht.one.ints'
  have HT := HT
  generalize 2 ^ n = N at *
  obtain ⟨d1, d2, y, hy0, -, hy, cy⟩ := HI.out.at (N - 1) (by omega)
  subst hy0
  rw [HT.out] at hy
  subst hy
  have e1 : wrap64 ((N : Int) - 1) = ((N - 1 : Nat) : Int) := by rw [IntWalk.wrap64_in _ ⟨by omega, by omega⟩]; omega
  have e2 : ((N - 1 : Nat) : Int) < (N : Int) := by omega
  clear ht hb HT HI
  go_wp2
  go_ret
  exact ⟨rfl, HB.out⟩
set_option maxRecDepth 100000 in
set_option maxHeartbeats 1000000 in
theorem sPermanentOf (a : Option Addr) (n cap : Nat) (R : List (List Int)) (w : World) (h : Mat w a n R) :
    Calls Try.prog 30 #[.slice a n cap] w fun e w' => e = .returned (.tuple #[.int .i64 (M.permRes R).1, .int .i64 (M.permRes R).2]) ∧ Below w.heap.size w w' := by
  have HA := Lib.hid h
  by_cases hs : M.sqB R = true
  · have HS := Lib.hid hs
    have HE : Hid (M.permRes R = M.chk (M.perm R).1) := by show _ = _; unfold M.permRes; rw [if_pos hs]
    obtain ⟨x, hx⟩ : ∃ x, x = (M.perm R).1 := ⟨_, rfl⟩
    have HX := Lib.hid hx
    rw [← hx] at HE
    obtain ⟨⟨r1, r2⟩, hr⟩ : ∃ r, r = M.chk x := ⟨_, rfl⟩
    have HR := Lib.hid hr
    rw [← hr] at HE
    clear h hs hx hr
    go_enter Try.func30, Try.ntmps30
    go_wp2_with fail
    refine (sSquare_b _ _ _ R _ true HS.out HA.out).mono ?_
    rintro e w' ⟨rfl, qd, rfl⟩
    go_wp2_with fail
    refine (sTop10 _ _ _ R _ (HA.out.below (b_draws w qd)) HS.out).mono ?_
    rintro e w1 ⟨rfl, hb⟩
    have HB := Lib.hid ((b_draws w qd).trans hb)
    rw [← HX.out]
    clear hb
    go_wp2_with fail
    refine (sValue _ _).mono ?_
    rintro e w' ⟨rfl, rfl⟩
    rw [← HR.out]
    go_wp2
    go_ret2
    exact ⟨ret10 HE.out, HB.out⟩
  · simp only [Bool.not_eq_true] at hs
    have HS := Lib.hid hs
    have HE : Hid (M.permRes R = (0, 1)) := by show _ = _; unfold M.permRes; rw [hs]; rfl
    clear h hs
    go_enter Try.func30, Try.ntmps30
    go_wp2_with fail
    refine (sSquare_b _ _ _ R _ false HS.out HA.out).mono ?_
    rintro e w' ⟨rfl, qd, rfl⟩
    go_wp2
    go_ret2
    exact ⟨ret10 HE.out, b_draws w qd⟩
set_option maxRecDepth 100000 in
set_option maxHeartbeats 1000000 in
theorem sCountAssignments (a : Option Addr) (n cap : Nat) (R : List (List Int)) (w : World) (h : Mat w a n R) :
    Calls Try.prog 39 #[.slice a n cap] w fun e w' => e = .returned (.tuple #[.int .i64 (M.cntRes R).1, .int .i64 (M.cntRes R).2]) ∧ Below w.heap.size w w' := by
  have HA := Lib.hid h
  by_cases hs : M.sqB R = true
  · have HS := Lib.hid hs
    have HT := Lib.hid (cnt_at h.1)
    have HE : Hid (M.cntRes R = M.chk (M.perm R).2) := by show _ = _; unfold M.cntRes; rw [if_pos hs]
    obtain ⟨x, hx⟩ : ∃ x, x = (M.perm R).2 := ⟨_, rfl⟩
    rw [← hx] at HE HT
    obtain ⟨⟨r1, r2⟩, hr⟩ : ∃ r, r = M.chk x := ⟨_, rfl⟩
    have HR := Lib.hid hr
    rw [← hr] at HE
    have hN1 : 1 ≤ 2 ^ n ∧ 2 ^ n ≤ 1024 := ⟨Nat.two_pow_pos n, two_pow_le (by have := (M.isMat_t (M.sqB_t hs).1).2.1; rw [← h.1]; exact this)⟩
    clear h hs hx hr
    go_enter Try.func39, Try.ntmps39
    go_wp2_with fail
    refine (sSquare_b _ _ _ R _ true HS.out HA.out).mono ?_
    rintro e w' ⟨rfl, qd, rfl⟩
    go_wp2_with fail
    refine (sBest10 a n cap R _ (HA.out.below (b_draws w qd)) HS.out).mono ?_
    rintro e w1 ⟨b1, c1, b2, c2, rfl, ht, hb⟩
    have HB := Lib.hid ((b_draws w qd).trans hb)
    have HI := Lib.hid ht.two.ints'
    generalize 2 ^ n = N at *
    obtain ⟨d1, d2, y, hy0, -, hy, cy⟩ := HI.out.at (N - 1) (by omega)
    subst hy0
    rw [HT.out] at hy
    subst hy
    have e1 : wrap64 ((N : Int) - 1) = ((N - 1 : Nat) : Int) := by rw [IntWalk.wrap64_in _ ⟨by omega, by omega⟩]; omega
    have e2 : ((N - 1 : Nat) : Int) < (N : Int) := by omega
    clear ht hb HT HI
    go_wp2_with fail
    refine (sValue _ _).mono ?_
    rintro e w' ⟨rfl, rfl⟩
    rw [← HR.out]
    go_wp2
    go_ret2
    exact ⟨ret10 HE.out, HB.out⟩
  · simp only [Bool.not_eq_true] at hs
    have HS := Lib.hid hs
    have HE : Hid (M.cntRes R = (0, 1)) := by show _ = _; unfold M.cntRes; rw [hs]; rfl
    clear h hs
    go_enter Try.func39, Try.ntmps39
    go_wp2_with fail
    refine (sSquare_b _ _ _ R _ false HS.out HA.out).mono ?_
    rintro e w' ⟨rfl, qd, rfl⟩
    go_wp2
    go_ret2
    exact ⟨ret10 HE.out, b_draws w qd⟩
end V
end Go.Proofs.Ytmobcobdpemlnaa

namespace Go.Proofs.Ytmobcobdpemlnaa.M
open Go Go.RowKit
set_option maxRecDepth 100000 in
theorem andNot_bit : ∀ j, j < 10 → ∀ s, s < 1024 → s.testBit j = true → bits BinOp.andNot IntKind.i64 (s : Nat) ((2 ^ j : Nat) : Int) = ((s - 2 ^ j : Nat) : Int) := by decide
end Go.Proofs.Ytmobcobdpemlnaa.M

namespace Go.Proofs.Ytmobcobdpemlnaa
namespace V
set_option maxRecDepth 100000
open Go.RowKit
set_option maxRecDepth 100000 in
set_option maxHeartbeats 1000000 in
theorem through (b : Nat) (a0 : Option Addr) (n c0 : Nat) (row : List Int) (s j : Nat) (x y z : Int) (w : World) (hr : Ints .i64 w a0 n row) (hj : j < n) (hn : n ≤ 10) (hs : s < 1024) (hb : s.testBit j = true)
    (hc1 : w.cell? ⟨b, (s - 2 ^ j) * 2, none⟩ = some (.int .i64 x)) (hc2 : w.cell? ⟨b, (s - 2 ^ j) * 2 + 1, none⟩ = some (.int .i64 y)) (hz : row.getD j 0 = z) (hx : M.Big x) (hzb : M.Big z) :
    Calls Try.prog 115 #[.pointer (some ⟨b, 0, none⟩), .slice a0 n c0, .int .i64 s, .int .i64 j] w fun e w' => e = .returned (.agg #[.int .i64 (M.ttimes (x, y) z).1, .int .i64 (M.ttimes (x, y) z).2]) ∧ Below w.heap.size w w' := by
  have hP := M.andNot_bit j (by omega) s hs hb
  obtain ⟨P, hP0⟩ : ∃ P : Int, P = ((2 ^ j : Nat) : Int) := ⟨_, rfl⟩
  have hP1 : P ≤ 1024 ∧ 0 ≤ P := by
    have h1 : 2 ^ j ≤ 2 ^ 10 := Nat.pow_le_pow_right (by decide) (by omega)
    generalize 2 ^ j = p at h1 hP0
    omega
  have hsh : wrap64 (2 ^ j) = P := by rw [hP0]; rw [hP0] at hP1; rw [show ((2 : Int) ^ j) = ((2 ^ j : Nat) : Int) by push_cast; rfl]; exact IntWalk.wrap64_in _ ⟨by omega, by omega⟩
  have hshk : IntKind.i64.wrap (2 ^ j) = P := by
    have h2 : (2 : Int) ^ j = P := by rw [hP0]; push_cast; rfl
    rw [h2, IntKind.wrap_i64]; omega
  rw [← hP0] at hP
  obtain ⟨k, hk⟩ : ∃ k, k = s - 2 ^ j := ⟨_, rfl⟩
  rw [← hk] at hP hc1 hc2
  have hk1 : k < 1024 := by omega
  clear hP0 hP1 hk
  have HX := Lib.hid hx
  have HZ := Lib.hid hzb
  obtain ⟨-, -, hr3⟩ := hr
  rcases hr3 with hr3 | ⟨q, off, rfl, hql, hrc⟩
  · omega
  have hcz := hrc j hj
  rw [hz] at hcz
  clear hrc hz hx hzb
  go_enter Try.func115, Try.ntmps115
  go_wp2
  have hbl : b < w.heap.size := cell_lt hc1
  have hne : b ≠ w.heap.size := by omega
  have hc3 : (w.alloc (.cells #[.int .i64 0, .int .i64 0] 75)).drew.cell? ⟨b, k * 2, none⟩ = some (.int .i64 x) := by
    exact ((b_alloc w _).cell hbl).trans hc1
  have hc4 : (w.alloc (.cells #[.int .i64 0, .int .i64 0] 75)).drew.cell? ⟨b, k * 2 + 1, none⟩ = some (.int .i64 y) := by
    exact ((b_alloc w _).cell hbl).trans hc2
  have hc5 : (w.alloc (.cells #[.int .i64 0, .int .i64 0] 75)).drew.cell? ⟨q, off + j, none⟩ = some (.int .i64 z) := by
    exact ((b_alloc w _).cell hql).trans hcz
  go_region_with (first | (go_at_call 136; refine (tallyTimes x y z _ HX.out HZ.out).mono ?_; rintro e wx ⟨rfl, hbx⟩; obtain ⟨hcr, hfr⟩ := bcell hbx; have hzz := hbx.size; simp at hzz; have z1 : w.heap.size < wx.heap.size := by omega))
  all_goals
    have h00 : wx.cell? ⟨w.heap.size, 0, none⟩ = some (.int .i64 0) := by rw [hcr _ _ (by simp)]; simp [go_sem]
    have h01 : wx.cell? ⟨w.heap.size, 1, none⟩ = some (.int .i64 0) := by rw [hcr _ _ (by simp)]; simp [go_sem]
    go_wp2
    exact bodyPost_ret (v := .agg #[.int .i64 (M.ttimes (x, y) z).1, .int .i64 (M.ttimes (x, y) z).2]) (by simp [results, Try.results115, go_sem, z1, h00, h01]) rfl ⟨rfl, (((below_drewN (b_alloc w _) 1).trans (hbx.mono (by simp))).setCell (by simp) _).setCell (by simp) _⟩
end V
end Go.Proofs.Ytmobcobdpemlnaa

namespace Go.Proofs.Ytmobcobdpemlnaa
namespace V
set_option maxRecDepth 100000
open Go.RowKit
/-- An empty list with room. -/
theorem own_made0 (w : World) (B c : Nat) (hB : B ≤ w.heap.size) (hc : c ≤ maxLen) : Own (w.alloc (.cells (madeCells #[.int .i64 0] c) 2)) B (.slice (some ⟨w.heap.size, 0, none⟩) 0 c) [] := by
  have h := World.rowIs_made w (.int .i64 0) c 2
  obtain ⟨cs, hb, hs, hcc⟩ := h
  exact ⟨by simp, .inr ⟨w.heap.size, c, cs, by simp, hB, hb, by simp, hc, by simp [hs], by simp⟩⟩
theorem run_room (w : World) : (Instr.makeSlice 26 (.int .i64 0) (.int .i64 10)).run Try.prog w = .ok (.slice (some ⟨w.heap.size, 0, none⟩) 0 10) (w.alloc (.cells (madeCells #[.int .i64 0] 10) 2)) := by
  obtain ⟨i, hi, hzz⟩ := Option.map_eq_some_iff.1 info64
  simp only [Prod.mk.injEq] at hzz
  obtain ⟨hz, hs, hb⟩ := hzz
  have hr := run_make (P := Try.prog) w 26 2 i (.int .i64 0) Try.underlying26 hi hz .i64 .i64 0 10 (by omega) (by omega) (by rw [hb]; omega) (by omega)
  rw [hs] at hr
  exact hr
set_option maxRecDepth 100000 in
set_option maxHeartbeats 2000000 in
theorem numbersIn (s : Nat) (w : World) (hs : s ≤ 1024) : Calls Try.prog 63 #[.int .i64 s] w fun e w' => ∃ b c, e = .returned (.slice b (M.setL 10 s).length c) ∧ Own w' w.heap.size (.slice b (M.setL 10 s).length c) (M.setL 10 s) ∧ Below w.heap.size w w' := by
  have hO0 : Hid (Own (w.alloc (.cells (madeCells #[.int .i64 0] 10) 2)) w.heap.size (.slice (some ⟨w.heap.size, 0, none⟩) 0 10) (M.setL 0 s)) := own_made0 w _ 10 (Nat.le_refl _) (by unfold maxLen; omega)
  have hB0 : Hid (Below w.heap.size w (w.alloc (.cells (madeCells #[.int .i64 0] 10) 2))) := b_alloc w _
  have hmk := run_room
  go_enter Try.func63, Try.ntmps63
  go_wp2
  go_loopw [3, 6] (fun lv iv wr => ∃ (k : Nat) (b : Option Addr) (c : Nat), k ≤ 10 ∧ iv = .int .i64 k ∧ lv = .slice b (M.setL k s).length c ∧ Hid (Own wr w.heap.size (.slice b (M.setL k s).length c) (M.setL k s)) ∧ Hid (Below w.heap.size w wr)) (fun _ iv _ => 10 - (intOf iv).toNat)
  case atStart => exact ⟨0, _, _, Nat.zero_le _, rfl, rfl, hO0, hB0⟩
  case round =>
    obtain ⟨k, b, c, hk, rfl, rfl, HO, HB⟩ := hrel
    obtain ⟨wo, rfl⟩ : ∃ x, x = wr := ⟨_, rfl⟩
    clear hO0 hB0
    by_cases hkl : k < 10
    · have hki : (k : Int) < 10 := by omega
      have hbt := bit_at (s := s) (j := k) hs
      have hsz := HB.out.size
      have hlen : (M.setL k s).length ≤ 10 := by rw [M.setL_len]; have := M.pc_le s k; omega
      by_cases hb : s.testBit k = true
      · rw [if_pos hb] at hbt
        have HN : Hid (M.setL (k + 1) s = M.setL k s ++ [(k : Int)]) := by show _ = _; rw [M.setL_next, if_pos hb]
        have HNl : Hid ((M.setL (k + 1) s).length = (M.setL k s).length + 1) := by show _ = _; rw [HN.out]; simp
        obtain ⟨L, hL⟩ : ∃ L, L = (M.setL k s).length := ⟨_, rfl⟩
        rw [← hL] at HO HNl hlen ⊢
        have HLl := Lib.hid hL.symm
        clear hb hL
        go_wp2_with (at_builtin; refine append1 _ rfl (.tmp 14) (.tmp 16) rfl w.heap.size _ _ _ L HLl.out rfl HO.out rfl (by rw [HLl.out]; omega) hsz ?_)
        intro b2 c2 w2 hO2 hb2 _
        rw [← HN.out, ← HNl.out] at hO2
        have HO2 := Lib.hid hO2
        have HB2 := Lib.hid (HB.out.trans hb2)
        rw [← HNl.out]
        clear hO2 hb2
        go_wp2
        go_roundw
        case rel => exact ⟨k + 1, _, _, by omega, by go_num, rfl, HO2, HB2⟩
        case measure => simp [intOf]; omega
      · rw [if_neg hb] at hbt
        have HN : Hid (M.setL (k + 1) s = M.setL k s) := by show _ = _; rw [M.setL_next, if_neg hb]
        clear hb
        go_wp2
        go_roundw
        case rel => exact ⟨k + 1, _, _, by omega, by go_num, by rw [HN.out], by rw [HN.out]; exact HO, HB⟩
        case measure => simp [intOf]; omega
    · obtain rfl : k = 10 := by omega
      go_wp2
      go_ret
      exact ⟨_, _, rfl, HO.out, HB.out⟩
end V
end Go.Proofs.Ytmobcobdpemlnaa

namespace Go.Proofs.Ytmobcobdpemlnaa
namespace V
set_option maxRecDepth 100000
open Go.RowKit
def zT : Array Value := (List.replicate 2048 (.int .i64 0)).toArray
theorem infoT : (Try.prog.info? 122).map (fun i => (i.zero, i.size)) = some (some (.agg zT), 2048) := by kernel_rfl
theorem zT_size : zT.size = 2048 := by unfold zT; rw [List.size_toArray, List.length_replicate]
theorem zT_at {t : Nat} (h : t < 2048) : zT[t]? = some (.int .i64 0) := by unfold zT; rw [List.getElem?_toArray, List.getElem?_replicate, if_pos h]
/-- The cells of the table whose first k sets are done. -/
def tlC (R : List (List Int)) (n k i : Nat) : Value := if i / 2 < k then .int .i64 (if i % 2 = 0 then (M.dp R n (i / 2)).1 else (M.dp R n (i / 2)).2) else .int .i64 0
def TalW (w : World) (b : Nat) (R : List (List Int)) (n k : Nat) : Prop := w.rowIs b 122 2048 (tlC R n k)
theorem TalW.fst {w : World} {b n k t : Nat} {R : List (List Int)} (h : TalW w b R n k) (ht : t < k) (h1 : t < 1024) : w.cell? ⟨b, t * 2, none⟩ = some (.int .i64 (M.dp R n t).1) := by
  have := World.rowIs.cell h (i := t * 2) (by omega)
  rw [this]
  unfold tlC
  rw [show t * 2 / 2 = t by omega, show t * 2 % 2 = 0 by omega, if_pos ht, if_pos rfl]
theorem TalW.snd {w : World} {b n k t : Nat} {R : List (List Int)} (h : TalW w b R n k) (ht : t < k) (h1 : t < 1024) : w.cell? ⟨b, t * 2 + 1, none⟩ = some (.int .i64 (M.dp R n t).2) := by
  have := World.rowIs.cell h (i := t * 2 + 1) (by omega)
  rw [this]
  unfold tlC
  rw [show (t * 2 + 1) / 2 = t by omega, show (t * 2 + 1) % 2 = 1 by omega, if_pos ht, if_neg (by omega)]
theorem TalW.below {w w' : World} {b n k : Nat} {R : List (List Int)} (h : TalW w b R n k) (hb : Below w.heap.size w w') : TalW w' b R n k := World.rowIs.of_block h (hb.block b (World.rowIs.lt h))
theorem TalW.new (w : World) (R : List (List Int)) (n : Nat) : TalW (w.alloc (.cells zT 122)) w.heap.size R n 0 := by
  have h := World.rowIs_alloc w zT 122 (tlC R n 0) (fun i hi => by rw [zT_at (by rw [zT_size] at hi; exact hi)]; unfold tlC; rw [if_neg (by omega)])
  rw [zT_size] at h
  exact h
theorem TalW.next {w : World} {b n k : Nat} {R : List (List Int)} {x y : Int} (h : TalW w b R n k) (hx : M.dp R n k = (x, y)) : TalW ((w.setCell ⟨b, k * 2, none⟩ (.int .i64 x)).setCell ⟨b, k * 2 + 1, none⟩ (.int .i64 y)) b R n (k + 1) := by
  refine ((World.rowIs.set h (k * 2) (.int .i64 x)).set (k * 2 + 1) (.int .i64 y)).congr fun i hi => ?_
  show (if i = k * 2 + 1 then _ else if i = k * 2 then _ else _) = _
  unfold tlC
  by_cases e1 : i = k * 2 + 1
  · rw [if_pos e1, if_pos (by omega), if_neg (by omega), show i / 2 = k by omega, hx]
  · rw [if_neg e1]
    by_cases e2 : i = k * 2
    · rw [if_pos e2, if_pos (by omega), if_pos (by omega), show i / 2 = k by omega, hx]
    · rw [if_neg e2]
      by_cases e3 : i / 2 < k
      · rw [if_pos e3, if_pos (show i / 2 < k + 1 by omega)]
      · rw [if_neg e3, if_neg (by omega)]
/-- The box of a tally. -/
def TBox (w : World) (g : Nat) (c : Int × Int) : Prop := w.rowIs g 75 2 fun i => .int .i64 (if i = 0 then c.1 else c.2)
theorem TBox.fst {w : World} {g : Nat} {c : Int × Int} (h : TBox w g c) : w.cell? ⟨g, 0, none⟩ = some (.int .i64 c.1) := World.rowIs.cell h (i := 0) (by omega)
theorem TBox.snd {w : World} {g : Nat} {c : Int × Int} (h : TBox w g c) : w.cell? ⟨g, 1, none⟩ = some (.int .i64 c.2) := World.rowIs.cell h (i := 1) (by omega)
theorem TBox.below {w w' : World} {g : Nat} {c : Int × Int} (h : TBox w g c) (hb : Below w.heap.size w w') : TBox w' g c := World.rowIs.of_block h (hb.block g (World.rowIs.lt h))
theorem TBox.set {w : World} {g : Nat} {c : Int × Int} (h : TBox w g c) (x y : Int) : TBox ((w.setCell ⟨g, 0, none⟩ (.int .i64 x)).setCell ⟨g, 1, none⟩ (.int .i64 y)) g (x, y) := by
  refine ((World.rowIs.set h 0 (.int .i64 x)).set 1 (.int .i64 y)).congr fun i hi => ?_
  show (if i = 1 then _ else if i = 0 then _ else _) = _
  by_cases e1 : i = 1
  · rw [if_pos e1, if_neg (by omega)]
  · rw [if_neg e1, if_pos (by omega), if_pos (by omega)]
theorem tBox_new (w : World) (x y : Int) : TBox (w.alloc (.cells #[.int .i64 x, .int .i64 y] 75)) w.heap.size (x, y) :=
  World.rowIs_alloc w #[.int .i64 x, .int .i64 y] 75 _ (fun i hi => by
    match i, hi with
    | 0, _ => rfl
    | 1, _ => rfl
    | i + 2, hi => exact absurd hi (by simp))
theorem fldT (w : World) (x y : Int) : (Instr.field 75 (.agg #[.int .i64 x, .int .i64 y]) 0).run Try.prog w = .ok (.int .i64 x) w := by
  simp [Instr.field, part, asAgg, go_sem]
theorem fldT1 (w : World) (x y : Int) : (Instr.field 75 (.agg #[.int .i64 x, .int .i64 y]) 1).run Try.prog w = .ok (.int .i64 y) w := by
  simp [Instr.field, part, asAgg, go_sem]
/-- What talliesOf answers. -/
def TalPost (R : List (List Int)) (n : Nat) (w : World) (e : Ending) (w' : World) : Prop := ∃ b, e = .returned (.pointer (some ⟨b, 0, none⟩)) ∧ w.heap.size ≤ b ∧ TalW w' b R n (2 ^ n) ∧ Below w.heap.size w w'
set_option maxRecDepth 100000 in
set_option maxHeartbeats 4000000 in
theorem talliesOf (a : Option Addr) (n cap : Nat) (R : List (List Int)) (w : World) (h : Mat w a n R) (hr : Rect R n n) (hq : M.Sq R) :
    Calls Try.prog 81 #[.slice a n cap] w (TalPost R n w) := by
  obtain ⟨hz, hs⟩ := zero_of_info infoT
  have n1 : R.length = n := h.1
  have n3 : n ≤ 10 := by rw [← n1]; exact hq.1
  obtain ⟨hwd, hfd⟩ := M.ways_bd (R := R) n3
  have HR := Lib.hid hr
  have HA := Lib.hid h
  have HQ := Lib.hid hq
  have HD : Hid (∀ s, s < 2 ^ n → M.Sm 10000000 (M.dp R n s).1) := fun s q => by have := dp_sm hq (s := s) (by rw [n1]; exact q); rw [n1] at this; exact this
  have HW := Lib.hid hwd
  have HSm : Hid (∀ i j, i < n → j < n → M.Sm 1000000 (M.ent R i j)) := fun i j hi hj => hq.2 i (by omega) j (by omega)
  have HAll : Hid (∀ s, s < 2 ^ n → 0 < s → M.colF R n s (M.pc n s) = M.dp R n s) := fun s q q0 => by
    have := M.colF_all hq (s := s) (by rw [n1]; exact q) q0 (fun t ht => M.sm_up (dp_sm hq (by rw [n1]; omega)) (by omega))
    rw [n1] at this
    exact this
  have HSn : Hid (∀ s, s < 2 ^ n → ∀ k, k ≤ (M.setL 10 s).length → 0 ≤ (M.colF R n s k).2 ∧ (M.colF R n s k).2 ≤ 1000000000000) := fun s q k hk => by
    obtain ⟨h1, h2⟩ := M.colF_snd (R := R) (n := n) (s := s) (K := 100000000000) (by omega) (fun t ht => hwd t (by omega)) k hk
    refine ⟨h1, ?_⟩
    have : (M.setL 10 s).length ≤ 10 := by rw [M.setL_len]; exact M.pc_le _ _
    omega
  have HL : Hid (∀ s, s < 2 ^ n → (M.setL 10 s).length = M.pc n s) := fun s q => by show _ = _; rw [M.setL_ten q n3, M.setL_len]
  have HBt : Hid (∀ s, s < 2 ^ n → ∀ k, k < M.pc n s → ∃ j : Nat, (M.setL 10 s).getD k 0 = (j : Int) ∧ j < n ∧ s.testBit j = true) := fun s q k hk => by rw [M.setL_ten q n3]; exact M.setL_bit n s (by rw [M.setL_len]; exact hk)
  have hN1 := two_pow_le n3
  have hEN := wrap_pow n3
  obtain ⟨N, hN⟩ : ∃ N, N = 2 ^ n := ⟨_, rfl⟩
  unfold TalPost
  rw [← hN] at hN1 hEN HD HW HSn HAll HL HBt ⊢
  have HN := Lib.hid hN
  clear h hr hq hwd hfd hN
  go_enter Try.func81, Try.ntmps81
  go_wp2
  have HT0 : Hid (TalW (w.alloc (.cells zT 122)) w.heap.size R n 0) := TalW.new w R n
  have HB0 : Hid (Below w.heap.size w (w.alloc (.cells zT 122))) := b_alloc w _
  try simp only [hEN]
  go_loopw [15] (fun sv wr => ∃ s : Nat, s ≤ N ∧ sv = .int .i64 s ∧ Hid (TalW wr w.heap.size R n s) ∧ Hid (Below w.heap.size w wr)) (fun sv _ => N - (intOf sv).toNat)
  case atStart => exact ⟨0, Nat.zero_le _, rfl, HT0, HB0⟩
  case round =>
    obtain ⟨s, hs1, rfl, HT, HB⟩ := hrel
    obtain ⟨wo, rfl⟩ : ∃ x, x = wr := ⟨_, rfl⟩
    clear HT0 HB0
    by_cases hlt : s < N
    · have hsi : (s : Int) < (N : Int) := by omega
      have hs1024 : s ≤ 1024 := by omega
      have hs1023 : (s : Int) < 1024 := by omega
      have hlen := HL.out s hlt
      go_wp2_with fail
      refine (numbersIn s wo hs1024).mono ?_
      rintro e w1 ⟨b1, c1, rfl, ho1, hb1⟩
      rw [hlen] at ho1 ⊢
      have HO1 := Lib.hid ho1
      have HT1 := Lib.hid (HT.out.below hb1)
      have HB1 := Lib.hid (HB.out.trans (hb1.mono HB.out.size))
      have hsz1 : w.heap.size < w1.heap.size := World.rowIs.lt HT1.out
      clear ho1 hb1 HT HB
      by_cases h0 : s = 0
      · subst h0
        have hp0 : M.pc n 0 = 0 := by
          have : ∀ m, M.pc m 0 = 0 := fun m => by
            induction m with
            | zero => rfl
            | succ m ih => unfold M.pc; rw [ih]; simp
          exact this n
        rw [hp0]
        have hf0 := World.rowIs.frozen HT1.out 0
        have hf1 := World.rowIs.frozen HT1.out 1
        have hc0 := World.rowIs.cell HT1.out (i := 0) (by omega)
        have hc1 := World.rowIs.cell HT1.out (i := 1) (by omega)
        have HN1 : Hid (TalW ((w1.setCell ⟨w.heap.size, 0, none⟩ (.int .i64 0)).setCell ⟨w.heap.size, 1, none⟩ (.int .i64 1)) w.heap.size R n 1) := HT1.out.next (M.dp_zero R n)
        have HB2 : Hid (Below w.heap.size w ((w1.setCell ⟨w.heap.size, 0, none⟩ (.int .i64 0)).setCell ⟨w.heap.size, 1, none⟩ (.int .i64 1))) := (HB1.out.setCell (Nat.le_refl _) _).setCell (Nat.le_refl _) _
        clear hlen HO1
        go_wp2
        go_roundw
        case rel => exact ⟨1, by omega, by go_num, HN1, HB2⟩
        case measure => simp [intOf]; omega
      · have h0' : 0 < s := by omega
        have hpp := pc_pos h0' (by rw [← HN.out]; exact hlt)
        have hpl := M.pc_le s n
        have HAl := Lib.hid (HAll.out s hlt h0')
        have HSl := Lib.hid (HSn.out s hlt)
        have HBl := Lib.hid (HBt.out s hlt)
        obtain ⟨L, hL⟩ : ∃ L, L = M.pc n s := ⟨_, rfl⟩
        have HLl : Hid (L = M.pc n s) := hL
        rw [← hL] at hpp hpl hlen HO1 HAl HBl ⊢
        have hrl : n - L < n := by omega
        have hLi : ¬ (L : Int) = 0 := by omega
        have hL0 : ((L : Int) == 0) = false := by simpa using hLi
        obtain ⟨gb, go, rb, rc, rfl, -, hcr, hIr⟩ := (HA.out.below HB1.out).rect_at HR.out (n - L) hrl
        have HIr := Lib.hid hIr
        clear hL hIr h0
        have HX0 : Hid (TBox (w1.alloc (.cells #[.int .i64 (-1000000000000000), .int .i64 0] 75)) w1.heap.size (M.colF R n s 0)) := tBox_new w1 _ _
        have HBx : Hid (Below w1.heap.size w1 (w1.alloc (.cells #[.int .i64 (-1000000000000000), .int .i64 0] 75))) := b_alloc w1 _
        go_wp2
        go_loopw [39] (fun kv wr => ∃ k : Nat, k ≤ L ∧ kv = .int .i64 k ∧ Hid (TBox wr w1.heap.size (M.colF R n s k)) ∧ Hid (Below w1.heap.size w1 wr)) (fun kv _ => L - (intOf kv).toNat)
        case atStart => exact ⟨0, Nat.zero_le _, rfl, HX0, HBx⟩
        case round =>
          obtain ⟨k, hk, rfl, HX, HBk⟩ := hrel
          obtain ⟨wi, rfl⟩ : ∃ x, x = wr := ⟨_, rfl⟩
          clear HX0 HBx
          by_cases hkl : k < L
          · have hki : (k : Int) < (L : Int) := by omega
            obtain ⟨j, hj, hjn, hjb⟩ := HBl.out k hkl
            obtain ⟨q, qo, x0, rfl, -, hx0, hcx⟩ := (HO1.out.ints'.below HBk.out).at k hkl
            rw [hj] at hx0
            subst hx0
            have hless := M.bit_less hjb
            have hNx : M.colF R n s (k + 1) = M.tplus (M.colF R n s k) (M.ttimes (M.dp R n (s - 2 ^ j)) (M.ent R (n - L) j)) := by
              rw [M.colF_next (by rw [hlen]; exact hkl), hj, Int.toNat_natCast, M.addC, ← HLl.out]
            have hc1 := HSl.out k (by rw [hlen]; omega)
            have hw2 := HW.out (s - 2 ^ j) (by omega)
            have hT2 : 0 ≤ (M.ttimes (M.dp R n (s - 2 ^ j)) (M.ent R (n - L) j)).2 ∧ (M.ttimes (M.dp R n (s - 2 ^ j)) (M.ent R (n - L) j)).2 ≤ 100000000000 := by
              unfold M.ttimes
              split
              · exact ⟨Int.le_refl _, by show (0 : Int) ≤ _; omega⟩
              · exact hw2
            have hThr : ∀ w2, Below wi.heap.size wi w2 → Calls Try.prog 115 #[.pointer (some ⟨w.heap.size, 0, none⟩), .slice rb n rc, .int .i64 s, .int .i64 j] w2 fun e w' => e = .returned (.agg #[.int .i64 (M.ttimes (M.dp R n (s - 2 ^ j)) (M.ent R (n - L) j)).1, .int .i64 (M.ttimes (M.dp R n (s - 2 ^ j)) (M.ent R (n - L) j)).2]) ∧ Below w2.heap.size w2 w' := fun w2 hb2 =>
              through w.heap.size rb n rc (R.getD (n - L) []) s j (M.dp R n (s - 2 ^ j)).1 (M.dp R n (s - 2 ^ j)).2 (M.ent R (n - L) j) w2 ((HIr.out.below HBk.out).below hb2) hjn n3 (by omega) hjb (((HT1.out.below HBk.out).below hb2).fst hless (by omega)) (((HT1.out.below HBk.out).below hb2).snd hless (by omega)) rfl (M.big_sm (HD.out _ (by omega)) (by omega)) (M.big_sm (HSm.out _ _ hrl hjn) (by omega))
            obtain ⟨⟨t1, t2⟩, hT⟩ : ∃ T, T = M.ttimes (M.dp R n (s - 2 ^ j)) (M.ent R (n - L) j) := ⟨_, rfl⟩
            obtain ⟨⟨s1, s2⟩, hS⟩ : ∃ S, S = M.colF R n s k := ⟨_, rfl⟩
            have HX' : Hid (TBox wi w1.heap.size (s1, s2)) := by rw [hS]; exact HX
            rw [← hT] at hNx hT2 hThr
            rw [← hS] at hNx hc1
            have HTh := Lib.hid hThr
            have HNx := Lib.hid hNx
            obtain ⟨⟨p1, p2⟩, hP⟩ : ∃ P, P = M.tplus (s1, s2) (t1, t2) := ⟨_, rfl⟩
            have hPl : ∀ w2, Calls Try.prog 114 #[.agg #[.int .i64 s1, .int .i64 s2], .agg #[.int .i64 t1, .int .i64 t2]] w2 fun e w' => e = .returned (.agg #[.int .i64 p1, .int .i64 p2]) ∧ Below w2.heap.size w2 w' := fun w2 => by
              have := tallyPlus s1 s2 t1 t2 w2 ⟨hc1.1, by have := hc1.2; show s2 ≤ _; omega⟩ ⟨hT2.1, by have := hT2.2; show t2 ≤ _; omega⟩
              rw [← hP] at this
              exact this
            have HPl := Lib.hid hPl
            rw [← hP] at hNx
            have HNx := Lib.hid hNx
            have g0 := World.rowIs.lt HX'.out
            have b0 := HX'.out.fst
            have b1' := HX'.out.snd
            clear hThr hPl hNx hT2 hw2 hc1 hT hS hP hless hj hjb HX
            go_wp2
            go_region_with (first | (go_at_call 115; refine (HTh.out _ (b_draws wi 1)).mono ?_; rintro e wx ⟨rfl, hbx⟩; have x0 : wx.cell? ⟨w1.heap.size, 0, none⟩ = some (.int .i64 s1) := (hbx.cell (p := ⟨w1.heap.size, 0, none⟩) g0).trans b0; have x1 : wx.cell? ⟨w1.heap.size, 1, none⟩ = some (.int .i64 s2) := (hbx.cell (p := ⟨w1.heap.size, 1, none⟩) g0).trans b1') | (go_at_call 114; refine (HPl.out _).mono ?_; rintro e wy ⟨rfl, hby⟩; have HXy := (HX'.out.below ((b_draws wi 1).trans hbx)).below hby; have y0 := HXy.fst; have y1 := HXy.snd; have f0 := World.rowIs.frozen HXy 0; have f1 := World.rowIs.frozen HXy 1))
            all_goals
              have HN1 : Hid (TBox ((wy.setCell ⟨w1.heap.size, 0, none⟩ (.int .i64 p1)).setCell ⟨w1.heap.size, 1, none⟩ (.int .i64 p2)) w1.heap.size (M.colF R n s (k + 1))) := by
                show TBox _ _ _
                rw [HNx.out]
                exact HXy.set p1 p2
              have hsi2 := HBk.out.size
              have HB3 : Hid (Below w1.heap.size w1 ((wy.setCell ⟨w1.heap.size, 0, none⟩ (.int .i64 p1)).setCell ⟨w1.heap.size, 1, none⟩ (.int .i64 p2))) := by
                have hsx : w1.heap.size ≤ wx.heap.size := Nat.le_trans hsi2 (Nat.le_trans (by simp) hbx.size)
                exact (((HBk.out.trans (((b_draws wi 1).trans (hbx.mono (by simp))).mono hsi2)).trans (hby.mono hsx)).setCell (Nat.le_refl _) _).setCell (Nat.le_refl _) _
              go_wp2
              exact ⟨⟨k + 1, by omega, by go_num, HN1, HB3⟩, by simp [intOf]; omega⟩
          · obtain rfl : k = L := by omega
            have hX := HX.out
            rw [HAl.out] at hX
            obtain ⟨⟨x, y⟩, hxy⟩ : ∃ v, v = M.dp R n s := ⟨_, rfl⟩
            rw [← hxy] at hX
            have hTn := HT1.out.below HBk.out
            have b0 := hX.fst
            have b1' := hX.snd
            have f0 := World.rowIs.frozen hTn (s * 2)
            have f1 := World.rowIs.frozen hTn (s * 2 + 1)
            have k0 := World.rowIs.cell hTn (i := s * 2) (by omega)
            have k1 := World.rowIs.cell hTn (i := s * 2 + 1) (by omega)
            have HN1 : Hid (TalW ((wi.setCell ⟨w.heap.size, s * 2, none⟩ (.int .i64 x)).setCell ⟨w.heap.size, s * 2 + 1, none⟩ (.int .i64 y)).drew w.heap.size R n (s + 1)) := hTn.next hxy.symm
            have hsz3 := HB1.out.size
            have HB3 : Hid (Below w.heap.size w ((wi.setCell ⟨w.heap.size, s * 2, none⟩ (.int .i64 x)).setCell ⟨w.heap.size, s * 2 + 1, none⟩ (.int .i64 y)).drew) := below_drewN (((HB1.out.trans (HBk.out.mono hsz3)).setCell (Nat.le_refl _) _).setCell (Nat.le_refl _) _) 1
            clear hX hTn hxy HX
            go_wp2
            go_region
            all_goals
              go_wp2
              go_roundw
              case rel => exact ⟨s + 1, by omega, by go_num, HN1, HB3⟩
              case measure => simp [intOf]; omega
    · obtain rfl : s = N := by omega
      have HE := HN.out
      go_wp2
      go_ret
      exact ⟨_, rfl, Nat.le_refl _, HT.out, HB.out⟩
end V
end Go.Proofs.Ytmobcobdpemlnaa

namespace Go.Proofs.Ytmobcobdpemlnaa
namespace V
set_option maxRecDepth 100000
open Go.RowKit
theorem rect_sq {R : List (List Int)} {n : Nat} (hs : M.sqB R = true) (hn : R.length = n) : Rect R n n ∧ 1 ≤ n ∧ n ≤ 10 := by
  obtain ⟨hm, hw⟩ := M.sqB_t hs
  have h1 := M.isMat_t hm
  refine ⟨⟨hn, fun i hi => ?_⟩, by omega, by omega⟩
  rw [M.isMat_len hm (by omega), ← hw, hn]
set_option maxRecDepth 100000 in
set_option maxHeartbeats 400000 in
theorem allColumns (a : Option Addr) (n cap : Nat) (w : World) (hn : n ≤ 10) :
    Calls Try.prog 82 #[.slice a n cap] w fun e w' => e = .returned (.int .i64 ((2 ^ n - 1 : Nat) : Int)) ∧ w = w' := by
  have hN1 := two_pow_le hn
  have hEN := wrap_pow hn
  have h0 := Nat.two_pow_pos n
  obtain ⟨N, hN⟩ : ∃ N, N = 2 ^ n := ⟨_, rfl⟩
  rw [← hN] at hN1 hEN h0 ⊢
  have hE2 : wrap64 ((N : Int) - 1) = ((N - 1 : Nat) : Int) := by rw [IntWalk.wrap64_in _ ⟨by omega, by omega⟩]; omega
  clear hN
  go_enter Try.func82, Try.ntmps82
  go_wp2
  go_ret
  refine ⟨?_, rfl⟩
  rw [show ((N - 1 : Nat) : Int) = (N : Int) - 1 by omega]
  rfl
set_option maxRecDepth 100000 in
set_option maxHeartbeats 1000000 in
theorem fullTally (a : Option Addr) (n cap : Nat) (R : List (List Int)) (w : World) (h : Mat w a n R) (hr : Rect R n n) (hq : M.Sq R) :
    Calls Try.prog 60 #[.slice a n cap] w fun e w' => e = .returned (.agg #[.int .i64 (M.perm R).1, .int .i64 (M.perm R).2]) ∧ Below w.heap.size w w' := by
  have n3 : n ≤ 10 := by rw [← h.1]; exact hq.1
  have hN1 := two_pow_le n3
  have h0 := Nat.two_pow_pos n
  have HE : Hid (M.dp R n (2 ^ n - 1) = M.perm R) := by show _ = _; unfold M.perm; rw [h.1]
  have HT : Calls Try.prog 81 #[.slice a n cap] (w.alloc (.cells #[.int .i64 0, .int .i64 0] 75)).drew (TalPost R n (w.alloc (.cells #[.int .i64 0, .int .i64 0] 75)).drew) := talliesOf a n cap R _ (h.below (below_drewN (b_alloc w _) 1)) hr hq
  have HTl := Lib.hid HT
  have HC : ∀ w1, Calls Try.prog 82 #[.slice a n cap] w1 fun e w' => e = .returned (.int .i64 ((2 ^ n - 1 : Nat) : Int)) ∧ w1 = w' := fun w1 => allColumns a n cap w1 n3
  unfold TalPost at HTl
  obtain ⟨N, hN⟩ : ∃ N, N = 2 ^ n := ⟨_, rfl⟩
  rw [← hN] at hN1 h0 HE HTl HC
  obtain ⟨K, hK⟩ : ∃ K, K = N - 1 := ⟨_, rfl⟩
  rw [← hK] at HE HC
  have hK1 : K < N := by omega
  have hK2 : (K : Int) < 1024 := by omega
  have HCl := Lib.hid HC
  clear h hr hq HT HC hN hK
  go_enter Try.func60, Try.ntmps60
  go_wp2
  go_region_with (first | (go_at_call 81; refine (HTl.out).mono ?_; rintro e wx ⟨b, rfl, hwb, hTa, hbx⟩; have c1 := hTa.fst (t := K) hK1 (by omega); have c2 := hTa.snd (t := K) hK1 (by omega); rw [HE.out] at c1 c2; obtain ⟨hcr, hfr⟩ := bcell hbx; have hzz := hbx.size; simp at hzz; have z1 : w.heap.size < wx.heap.size := by omega) | (go_at_call 82; refine (HCl.out _).mono ?_; rintro e wx2 ⟨rfl, rfl⟩))
  all_goals
    have h00 : wx.cell? ⟨w.heap.size, 0, none⟩ = some (.int .i64 0) := by rw [hcr _ _ (by simp)]; simp [go_sem]
    have h01 : wx.cell? ⟨w.heap.size, 1, none⟩ = some (.int .i64 0) := by rw [hcr _ _ (by simp)]; simp [go_sem]
    go_wp2
    exact bodyPost_ret (v := .agg #[.int .i64 (M.perm R).1, .int .i64 (M.perm R).2]) (by simp [results, Try.results60, go_sem, z1, h00, h01]) rfl ⟨rfl, (((below_drewN (b_alloc w _) 1).trans (hbx.mono (by simp))).setCell (by simp) _).setCell (by simp) _⟩
set_option maxRecDepth 100000 in
set_option maxHeartbeats 400000 in
theorem permanentOf (a : Option Addr) (n cap : Nat) (R : List (List Int)) (w : World) (h : Mat w a n R) :
    Calls Try.prog 19 #[.slice a n cap] w fun e w' => e = .returned (.tuple #[.int .i64 (M.permRes R).1, .int .i64 (M.permRes R).2]) ∧ Below w.heap.size w w' := by
  have HA := Lib.hid h
  cases hs : M.sqB R with
  | true =>
    obtain ⟨hr, n1, n2⟩ := rect_sq hs h.1
    have HR := Lib.hid hr
    have HQ := Lib.hid (M.sq_is hs)
    have HE : Hid (M.permRes R = M.chk (M.perm R).1) := by show _ = _; unfold M.permRes; rw [if_pos hs]
    have HS := Lib.hid hs
    have hfl := fun w => fldT w (M.perm R).1 (M.perm R).2
    have hfl1 := fun w => fldT1 w (M.perm R).1 (M.perm R).2
    clear h hs hr
    go_enter Try.func19, Try.ntmps19
    go_wp2_with (go_at_call 56; refine (isSquare_b _ _ _ R _ true HS.out HA.out).mono ?_; rintro e w' ⟨rfl, rfl⟩)
    refine (fullTally a n cap R _ HA.out HR.out HQ.out).mono ?_
    rintro e w1 ⟨rfl, hb⟩
    have HB := Lib.hid hb
    clear hb
    go_wp2_with (go_at_call 61; refine (checked _ _).mono ?_; rintro e w' ⟨rfl, rfl⟩)
    go_ret2
    rw [HE.out]
    exact ⟨rfl, HB.out⟩
  | false =>
    have HE : Hid (M.permRes R = (0, 1)) := by show _ = _; unfold M.permRes; rw [if_neg (by rw [hs]; decide)]
    have HS := Lib.hid hs
    clear h hs
    go_enter Try.func19, Try.ntmps19
    go_wp2_with (go_at_call 56; refine (isSquare_b _ _ _ R _ false HS.out HA.out).mono ?_; rintro e w' ⟨rfl, rfl⟩)
    go_ret2
    rw [HE.out]
    exact ⟨rfl, Below.refl _ _⟩
set_option maxRecDepth 100000 in
set_option maxHeartbeats 400000 in
theorem countAssignments (a : Option Addr) (n cap : Nat) (R : List (List Int)) (w : World) (h : Mat w a n R) :
    Calls Try.prog 40 #[.slice a n cap] w fun e w' => e = .returned (.tuple #[.int .i64 (M.cntRes R).1, .int .i64 (M.cntRes R).2]) ∧ Below w.heap.size w w' := by
  have HA := Lib.hid h
  cases hs : M.sqB R with
  | true =>
    obtain ⟨hr, n1, n2⟩ := rect_sq hs h.1
    have HR := Lib.hid hr
    have HQ := Lib.hid (M.sq_is hs)
    have HE : Hid (M.cntRes R = M.chk (M.perm R).2) := by show _ = _; unfold M.cntRes; rw [if_pos hs]
    have HS := Lib.hid hs
    have hfl := fun w => fldT w (M.perm R).1 (M.perm R).2
    have hfl1 := fun w => fldT1 w (M.perm R).1 (M.perm R).2
    clear h hs hr
    go_enter Try.func40, Try.ntmps40
    go_wp2_with (go_at_call 56; refine (isSquare_b _ _ _ R _ true HS.out HA.out).mono ?_; rintro e w' ⟨rfl, rfl⟩)
    refine (fullTally a n cap R _ HA.out HR.out HQ.out).mono ?_
    rintro e w1 ⟨rfl, hb⟩
    have HB := Lib.hid hb
    clear hb
    go_wp2_with (go_at_call 61; refine (checked _ _).mono ?_; rintro e w' ⟨rfl, rfl⟩)
    go_ret2
    rw [HE.out]
    exact ⟨rfl, HB.out⟩
  | false =>
    have HE : Hid (M.cntRes R = (0, 1)) := by show _ = _; unfold M.cntRes; rw [if_neg (by rw [hs]; decide)]
    have HS := Lib.hid hs
    clear h hs
    go_enter Try.func40, Try.ntmps40
    go_wp2_with (go_at_call 56; refine (isSquare_b _ _ _ R _ false HS.out HA.out).mono ?_; rintro e w' ⟨rfl, rfl⟩)
    go_ret2
    rw [HE.out]
    exact ⟨rfl, Below.refl _ _⟩
end V
end Go.Proofs.Ytmobcobdpemlnaa

namespace Go.Proofs.Ytmobcobdpemlnaa
namespace V
set_option maxRecDepth 100000
open Go.RowKit
set_option maxRecDepth 100000 in
set_option maxHeartbeats 4000000 in
theorem sAssign10 (a : Option Addr) (n cap : Nat) (R : List (List Int)) (w : World) (h : Mat w a n R) (hs : M.sqB R = true) (hb : (M.perm R).1 ≠ -1000000000000000) :
    Calls Try.prog 47 #[.slice a n cap] w fun e w' => ∃ b c, e = .returned (.tuple #[.slice b n c, .bool true]) ∧ Own w' w.heap.size (.slice b n c) (M.asg R) ∧ Below w.heap.size w w' := by
  have hq := M.sq_is hs
  have hm := M.sqB_t hs
  obtain ⟨n1, n2, n3⟩ : R.length = n ∧ 1 ≤ n ∧ n ≤ 10 := ⟨h.1, by have := (M.isMat_t hm.1); rw [← h.1]; omega, by have := (M.isMat_t hm.1); rw [← h.1]; omega⟩
  have HLen : Hid (∀ i, i < n → (R.getD i []).length = n) := fun i hi => by rw [M.isMat_len hm.1 (by omega), ← hm.2, n1]
  have HSm : Hid (∀ i j, i < n → j < n → M.Sm 1000000 (M.ent R i j)) := fun i j hi hj => hq.2 i (by omega) j (by omega)
  have HD : Hid (∀ s, s < 2 ^ n → M.Sm 10000000 (M.dp R n s).1) := fun s q => by have := dp_sm hq (s := s) (by rw [n1]; exact q); rw [n1] at this; exact this
  have HSt : Hid (∀ k, k ≤ n → M.stS R k < 2 ^ n) := fun k hk => by have := (M.st_ok hq hb k (by omega)).1; rw [n1] at this; exact this
  have HPk : Hid (∀ k, k < n → M.pickC R n k (M.stS R k) < n ∧ M.okCol R n k (M.stS R k) (M.pickC R n k (M.stS R k)) = true) := fun k hk => by have := M.pick_row hq hb (k := k) (by omega); rw [n1] at this; exact ⟨this.1, this.2.1⟩
  have HPh : Hid (∀ k u, k < n → M.okCol R n k (M.stS R k) u = true → (∀ j, j < u → M.okCol R n k (M.stS R k) j = false) → M.pickC R n k (M.stS R k) = u) := fun k u hk q1 q2 => by
    have := M.pick_here hq hb (k := k) (u := u) (by omega)
    rw [n1] at this
    exact this q1 q2
  have HNx : Hid (∀ k, M.stS R (k + 1) = M.stS R k - 2 ^ M.pickC R n k (M.stS R k)) := fun k => by rw [M.stS, n1]
  have HAp : Hid (∀ k, M.asgP R (k + 1) = M.asgP R k ++ [((M.pickC R n k (M.stS R k) : Nat) : Int)]) := fun k => by rw [M.asgP_next, n1]
  have HEnd : Hid (M.asgP R n = M.asg R) := by show _ = _; rw [M.asg_rows, n1]
  have HSt0 : Hid (M.stS R 0 = 2 ^ n - 1) := by show _ = _; rw [M.stS, n1]
  have HTop := Lib.hid (top_at n1)
  have HBn := Lib.hid hb
  have HA := Lib.hid h
  have HS := Lib.hid hs
  have hN1 := two_pow_le n3
  have hN2 : 1 ≤ 2 ^ n := Nat.two_pow_pos n
  clear h hs hq hm n1 hb
  go_enter Try.func47, Try.ntmps47
  go_wp2_with fail
  refine (sBest10 a n cap R _ HA.out HS.out).mono ?_
  rintro e w1 ⟨b1, c1, b2, c2, rfl, ht, hb⟩
  have HB := Lib.hid hb
  have HO := Lib.hid ht.one
  have HI := Lib.hid ht.one.ints'
  have hsz1 : w.heap.size ≤ w1.heap.size := hb.size
  have HBG : Hid (∀ s, s < 2 ^ n → (M.bestL R n (2 ^ n - 1)).getD s 0 = (M.dp R n s).1) := fun s hs => best_get (by omega)
  obtain ⟨N, hN⟩ : ∃ N, N = 2 ^ n := ⟨_, rfl⟩
  rw [← hN] at HO HI HD HSt HSt0 HTop HBG hN1 hN2 ⊢
  clear hN ht hb
  obtain ⟨bl, hbl⟩ : ∃ l, l = M.bestL R n (N - 1) := ⟨_, rfl⟩
  rw [← hbl] at HO HI HTop HBG
  clear hbl
  obtain ⟨d1, d2, y, hy0, -, hy, cy⟩ := HI.out.at (N - 1) (by omega)
  subst hy0
  rw [HTop.out] at hy
  have hyn : ¬ y = -1000000000000000 := by rw [hy]; exact HBn.out
  have hyb : (y == -1000000000000000) = false := by simpa using hyn
  have e1 : wrap64 ((N : Int) - 1) = ((N - 1 : Nat) : Int) := by rw [IntWalk.wrap64_in _ ⟨by omega, by omega⟩]; omega
  have e2 : ((N - 1 : Nat) : Int) < (N : Int) := by omega
  clear hy
  go_wp2
  try simp only [e1]
  clear cy hyn hyb e1 e2
  go_loopw [6, 7, 8] (fun set out row wr => ∃ (i s : Nat) (b : Option Addr) (c : Nat), i ≤ n ∧ set = .int .i64 s ∧ out = .slice b i c ∧ row = .int .i64 i ∧ Hid (s = M.stS R i) ∧ Hid (Own wr w1.heap.size (.slice b i c) (M.asgP R i)) ∧ Hid (Below w1.heap.size w1 wr)) (fun _ _ row _ => n - (intOf row).toNat)
  case atStart => exact ⟨0, N - 1, _, _, Nat.zero_le _, (by go_num), rfl, rfl, HSt0.out.symm, own_lit0 w1 _ (Nat.le_refl _), b_alloc _ _⟩
  case round =>
    obtain ⟨i, s, b, c, hi, rfl, rfl, rfl, HSi, HOi, HBi⟩ := hrel
    obtain ⟨wo, rfl⟩ : ∃ x, x = wr := ⟨_, rfl⟩
    have hszo : w1.heap.size ≤ wo.heap.size := HBi.out.size
    by_cases hil : i < n
    · have hii : (i : Int) < (n : Int) := by omega
      have hsN : s < N := by rw [HSi.out]; exact HSt.out i (by omega)
      have hsi : (s : Int) < (N : Int) := by omega
      have hs1024 : s ≤ 1024 := by omega
      go_wp2
      go_loopw [6, 7, 9] (fun set out j w' => ∃ t : Nat, t ≤ n ∧ set = .int .i64 s ∧ out = .slice b i c ∧ j = .int .i64 t ∧ Hid (∀ j, j < t → M.okCol R n i s j = false) ∧ ∃ qd, w' = wo.drewN qd) (fun _ _ j _ => n - (intOf j).toNat)
      case atStart => exact ⟨0, Nat.zero_le _, rfl, rfl, rfl, fun j hj => absurd hj (Nat.not_lt_zero _), 0, rfl⟩
      case round =>
        obtain ⟨u, hu, rfl, rfl, rfl, HNo, qd, rfl⟩ := hrel
        by_cases hul : u < n
        · have hui : (u : Int) < (n : Int) := by omega
          have hbt := bit_at (s := s) (j := u) hs1024
          by_cases hb : s.testBit u = true
          · rw [if_pos hb] at hbt
            obtain ⟨p, r, HR, hrs, hEp, hEr⟩ := bit_parts hs1024 (show u < 10 by omega) hb
            obtain ⟨gb, go, q, o, cc, x, hga, h1, hx, h2⟩ := dp_row (HA.out.below (HB.out.trans (HBi.out.mono hsz1))) hil hul (HLen.out i hil)
            subst hga
            obtain ⟨d3, d4, y, hy0, -, hy, cy⟩ := (HI.out.below HBi.out).at r (by omega)
            obtain ⟨d5, d6, z, hz0, -, hz, cz⟩ := (HI.out.below HBi.out).at s hsN
            injection hy0 with hy0
            injection hy0 with q1 q2
            subst q1 q2
            injection hz0 with hz0
            injection hz0 with q1 q2
            subst q1 q2
            rw [HBG.out r (by omega)] at hy
            rw [HBG.out s hsN] at hz
            have sx := HSm.out i u hil hul
            have sy := HD.out r (by omega)
            rw [← hx] at sx
            rw [← hy] at sy
            have hri : (r : Int) < (N : Int) := by omega
            have hT : ∀ w : World, Calls Try.prog 92 #[.int .i64 x, .int .i64 y] w fun e w' => e = .returned (.int .i64 (M.times x y)) ∧ w = w' := fun w => sTimesB _ _ _ (M.big_sm sx (by omega)) (M.big_sm sy (by omega))
            obtain ⟨v, hv⟩ : ∃ v, v = M.times x y := ⟨_, rfl⟩
            rw [← hv] at hT
            have HTi := Lib.hid hT
            have HX := Lib.hid hx
            have HY := Lib.hid hy
            have HZ := Lib.hid hz
            have HV := Lib.hid hv
            have HBt := Lib.hid hb
            clear hT hx hy hz hv hb sx sy
            by_cases hxB : x = -1000000000000000
            · have hxb : (x != -1000000000000000) = false := by simpa using hxB
              have HNo2 : Hid (∀ j, j < u + 1 → M.okCol R n i s j = false) := fun j hj => by
                by_cases e : j = u
                · subst e; exact M.okCol_f (.inr (.inl (by rw [← HX.out]; exact hxB)))
                · exact HNo.out j (by omega)
              go_wp2
              go_quiet (fail)
              go_wp2
              go_roundw
              case rel => exact ⟨u + 1, by omega, rfl, rfl, by go_num, HNo2, _, by first | rfl | exact World.drewN_drewN _ _ _⟩
              case measure => simp [intOf]; omega
            · have hxb : (x != -1000000000000000) = true := by simpa using hxB
              have hxb2 : (x == -1000000000000000) = false := by simpa using hxB
              by_cases hvz : v = z
              · have HPick : Hid (M.pickC R n i s = u) := by
                  have h3 := HSi.out
                  show _ = _
                  rw [h3]
                  exact HPh.out i u hil (M.okCol_t (by rw [← h3]; exact HBt.out) (by rw [← HX.out]; exact hxB) (by rw [← h3, ← HR.out, ← HX.out, ← HY.out, ← HV.out, ← HZ.out]; exact hvz)) (by rw [← h3]; exact HNo.out)
                subst hvz
                go_wp2
                go_quiet ((go_at_call 92; first | exact q_one_s (HTi.out _) | exact q_more_s (HTi.out _)))
                have HOd : Hid (Own (wo.drewN qd) w1.heap.size (.slice b i c) (M.asgP R i)) := HOi.out.keep (fun _ _ _ => rfl)
                have HBd : Hid (Below w1.heap.size w1 (wo.drewN qd)) := below_drewN HBi.out _
                have HLp : Hid ((M.asgP R i).length = i) := M.asgP_len R i
                have HSu : Hid (w1.heap.size ≤ (wo.drewN qd).heap.size) := HBd.out.size
                go_wp2_with (at_builtin; refine append1 _ rfl (.tmp 75) (.tmp 77) rfl w1.heap.size _ _ _ i HLp.out rfl (HOi.out.keep (fun _ _ _ => rfl)) rfl (by rw [HLp.out]; omega) (by first | exact HSu.out | exact hszo | simpa using hszo) ?_)
                intro b4 c4 w4 hO hb4 _
                have HO4 : Hid (Own w4 w1.heap.size (.slice b4 (i + 1) c4) (M.asgP R (i + 1))) := by
                  show Own _ _ _ _
                  have h3 := HPick.out
                  rw [HSi.out] at h3
                  rw [HAp.out i, h3]
                  exact hO
                have HB4 : Hid (Below w1.heap.size w1 w4) := Lib.hid ((below_drewN HBi.out _).trans hb4)
                have HS4 : Hid (r = M.stS R (i + 1)) := by
                  show _ = _
                  rw [HNx.out i, ← HSi.out, HPick.out]; exact HR.out
                clear hO hb4 HOd HBd HSu
                go_wp2
                go_roundw
                case rel => exact ⟨i + 1, r, _, _, by omega, (by first | rfl | rw [hEr]), rfl, by go_num, HS4, HO4, HB4⟩
                case measure => simp [intOf]; omega
              · have hvb : (v == z) = false := by simpa using hvz
                have HNo2 : Hid (∀ j, j < u + 1 → M.okCol R n i s j = false) := fun j hj => by
                  by_cases e : j = u
                  · subst e; exact M.okCol_f (.inr (.inr (by rw [← HR.out, ← HX.out, ← HY.out, ← HV.out, ← HZ.out]; exact hvz)))
                  · exact HNo.out j (by omega)
                go_wp2
                go_quiet ((go_at_call 92; first | exact q_one_s (HTi.out _) | exact q_more_s (HTi.out _)))
                go_wp2
                go_roundw
                case rel => exact ⟨u + 1, by omega, rfl, rfl, by go_num, HNo2, _, by first | rfl | exact World.drewN_drewN _ _ _⟩
                case measure => simp [intOf]; omega
          · rw [if_neg hb] at hbt
            have hb2 : s.testBit u = false := by simpa using hb
            have HNo2 : Hid (∀ j, j < u + 1 → M.okCol R n i s j = false) := fun j hj => by
              by_cases e : j = u
              · subst e; exact M.okCol_f (.inl hb2)
              · exact HNo.out j (by omega)
            clear hb hb2
            go_wp2
            go_quiet (fail)
            go_wp2
            go_roundw
            case rel => exact ⟨u + 1, by omega, rfl, rfl, by go_num, HNo2, _, by first | rfl | exact World.drewN_drewN _ _ _⟩
            case measure => simp [intOf]; omega
        · exfalso
          obtain ⟨p1, p2⟩ := HPk.out i hil
          rw [← HSi.out] at p1 p2
          rw [HNo.out _ (by omega)] at p2
          cases p2
    · obtain rfl : n = i := by omega
      have HO2 : Hid (Own wo w.heap.size (.slice b n c) (M.asg R)) := by
        show Own _ _ _ _
        rw [← HEnd.out]
        exact HOi.out.mono hsz1
      go_wp2
      go_ret2
      exact ⟨_, _, rfl, HO2.out, HB.out.trans (HBi.out.mono hsz1)⟩
theorem sAssignB10 (a : Option Addr) (n cap : Nat) (R : List (List Int)) (w : World) (h : Mat w a n R) (hs : M.sqB R = true) (hb : (M.perm R).1 = -1000000000000000) :
    Calls Try.prog 47 #[.slice a n cap] w fun e w' => e = .returned (.tuple #[.slice none 0 0, .bool false]) ∧ Below w.heap.size w w' := by
  have HTop := Lib.hid (top_at h.1)
  have HA := Lib.hid h
  have HS := Lib.hid hs
  rw [hb] at HTop
  have hN1 : 1 ≤ 2 ^ n ∧ 2 ^ n ≤ 1024 := ⟨Nat.two_pow_pos n, two_pow_le (by have := (M.isMat_t (M.sqB_t hs).1).2.1; rw [← h.1]; exact this)⟩
  clear h hs hb
  go_enter Try.func47, Try.ntmps47
  go_wp2_with fail
  refine (sBest10 a n cap R _ HA.out HS.out).mono ?_
  rintro e w1 ⟨b1, c1, b2, c2, rfl, ht, hb⟩
  have HB := Lib.hid hb
  have HI := Lib.hid ht.one.ints'
  generalize 2 ^ n = N at *
  obtain ⟨d1, d2, y, hy0, -, hy, cy⟩ := HI.out.at (N - 1) (by omega)
  subst hy0
  rw [HTop.out] at hy
  subst hy
  have e1 : wrap64 ((N : Int) - 1) = ((N - 1 : Nat) : Int) := by rw [IntWalk.wrap64_in _ ⟨by omega, by omega⟩]; omega
  have e2 : ((N - 1 : Nat) : Int) < (N : Int) := by omega
  clear ht hb HTop HI
  go_wp2
  go_ret2
  exact ⟨rfl, HB.out⟩
set_option maxRecDepth 100000 in
set_option maxHeartbeats 1000000 in
theorem sBestAssignment (a : Option Addr) (n cap : Nat) (R : List (List Int)) (w : World) (h : Mat w a n R) :
    Calls Try.prog 33 #[.slice a n cap] w (VRes (M.asgRes R) w) := by
  have HA := Lib.hid h
  by_cases hs : M.sqB R = true
  · have HS := Lib.hid hs
    by_cases hb : (M.perm R).1 = -1000000000000000
    · have HB := Lib.hid hb
      have HE : Hid (M.asgRes R = ([], 4)) := by show _ = _; unfold M.asgRes; rw [if_pos hs, if_pos hb]
      clear h hs hb
      go_enter Try.func33, Try.ntmps33
      go_wp2_with fail
      refine (sSquare_b _ _ _ R _ true HS.out HA.out).mono ?_
      rintro e w' ⟨rfl, qd, rfl⟩
      go_wp2_with fail
      refine (sAssignB10 _ _ _ R _ (HA.out.below (b_draws w qd)) HS.out HB.out).mono ?_
      rintro e w1 ⟨rfl, hb⟩
      have HB2 := Lib.hid ((b_draws w qd).trans hb)
      clear hb
      go_wp2
      go_ret2
      exact VRes.nil HE.out HB2.out
    · have HB := Lib.hid hb
      have HE : Hid (M.asgRes R = (M.asg R, 0)) := by show _ = _; unfold M.asgRes; rw [if_pos hs, if_neg hb]
      clear h hs hb
      go_enter Try.func33, Try.ntmps33
      go_wp2_with fail
      refine (sSquare_b _ _ _ R _ true HS.out HA.out).mono ?_
      rintro e w' ⟨rfl, qd, rfl⟩
      go_wp2_with fail
      refine (sAssign10 _ _ _ R _ (HA.out.below (b_draws w qd)) HS.out HB.out).mono ?_
      rintro e w1 ⟨b1, c1, rfl, ho, hb⟩
      have HB2 := Lib.hid ((b_draws w qd).trans hb)
      have HO := Lib.hid (ho.mono (b_draws w qd).size)
      clear hb ho
      go_wp2
      go_ret2
      rw [HE.out]
      exact ⟨_, _, _, rfl, HO.out, HB2.out⟩
  · simp only [Bool.not_eq_true] at hs
    have HS := Lib.hid hs
    have HE : Hid (M.asgRes R = ([], 1)) := by show _ = _; unfold M.asgRes; rw [hs]; rfl
    clear h hs
    go_enter Try.func33, Try.ntmps33
    go_wp2_with fail
    refine (sSquare_b _ _ _ R _ false HS.out HA.out).mono ?_
    rintro e w' ⟨rfl, qd, rfl⟩
    go_wp2
    go_ret2
    exact VRes.nil HE.out (b_draws w qd)
end V
end Go.Proofs.Ytmobcobdpemlnaa

namespace Go.Proofs.Ytmobcobdpemlnaa
namespace V
set_option maxRecDepth 100000
open Go.RowKit
/-- The three boxes that the search looks into. -/
structure Boxes3 (w : World) (Ba Br Bs b : Nat) (a0 : Option Addr) (n c0 s : Nat) : Prop where
  all : w.cell? ⟨Ba, 0, none⟩ = some (.pointer (some ⟨b, 0, none⟩))
  row : w.cell? ⟨Br, 0, none⟩ = some (.slice a0 n c0)
  set : w.cell? ⟨Bs, 0, none⟩ = some (.int .i64 s)
theorem Boxes3.below {w w' : World} {Ba Br Bs b n c0 s : Nat} {a0 : Option Addr} (h : Boxes3 w Ba Br Bs b a0 n c0 s) (hb : Below w.heap.size w w') : Boxes3 w' Ba Br Bs b a0 n c0 s :=
  ⟨(hb.cell (cell_lt h.all)).trans h.all, (hb.cell (cell_lt h.row)).trans h.row, (hb.cell (cell_lt h.set)).trans h.set⟩
/-- What the search reads, as long as nothing that was there is changed. -/
def Seen (w0 w : World) (Ba Br Bs b : Nat) (a0 : Option Addr) (n c0 s : Nat) (d : Int) : Prop :=
  w.cell? ⟨Ba, 0, none⟩ = some (.pointer (some ⟨b, 0, none⟩)) ∧ w.cell? ⟨Br, 0, none⟩ = some (.slice a0 n c0) ∧ w.cell? ⟨Bs, 0, none⟩ = some (.int .i64 s) ∧ w.cell? ⟨b, s * 2, none⟩ = some (.int .i64 d) ∧ Below w0.heap.size w0 w
theorem seen_keep {w0 w w' : World} {Ba Br Bs b n c0 s : Nat} {a0 : Option Addr} {d : Int} (h : Seen w0 w Ba Br Bs b a0 n c0 s d) (hb : Below w.heap.size w w') : Seen w0 w' Ba Br Bs b a0 n c0 s d := by
  obtain ⟨h1, h2, h3, h4, h5⟩ := h
  exact ⟨(hb.cell (cell_lt h1)).trans h1, (hb.cell (cell_lt h2)).trans h2, (hb.cell (cell_lt h3)).trans h3, (hb.cell (cell_lt h4)).trans h4, h5.trans (hb.mono h5.size)⟩
set_option maxRecDepth 100000 in
set_option maxHeartbeats 2000000 in
theorem isLeast (Ba Br Bs b : Nat) (a0 : Option Addr) (n c0 s i j : Nat) (R : List (List Int)) (w : World) (hB : Boxes3 w Ba Br Bs b a0 n c0 s) (hT : TalW w b R n (2 ^ n)) (hr : Ints .i64 w a0 n (R.getD i [])) (hj : j < n) (hn : n ≤ 10) (hs : s < 2 ^ n) (hb : s.testBit j = true)
    (hx : M.Big (M.dp R n (s - 2 ^ j)).1) (hzb : M.Big (M.ent R i j)) :
    Calls Try.prog 117 #[.int .i64 j, .pointer (some ⟨Ba, 0, none⟩), .pointer (some ⟨Br, 0, none⟩), .pointer (some ⟨Bs, 0, none⟩)] w fun e w' => e = .returned (.bool (decide ((M.ttimes (M.dp R n (s - 2 ^ j)) (M.ent R i j)).1 = (M.dp R n s).1))) ∧ Below w.heap.size w w' := by
  have h1024 := two_pow_le hn
  have hlt := M.bit_less hb
  have cs := hT.fst (t := s) hs (by omega)
  obtain ⟨d1, hd1⟩ : ∃ d, d = (M.dp R n s).1 := ⟨_, rfl⟩
  rw [← hd1] at cs ⊢
  have hcall : ∀ w2, Below w.heap.size w w2 → Calls Try.prog 115 #[.pointer (some ⟨b, 0, none⟩), .slice a0 n c0, .int .i64 s, .int .i64 j] w2 fun e w' => e = .returned (.agg #[.int .i64 (M.ttimes (M.dp R n (s - 2 ^ j)) (M.ent R i j)).1, .int .i64 (M.ttimes (M.dp R n (s - 2 ^ j)) (M.ent R i j)).2]) ∧ Below w2.heap.size w2 w' := fun w2 hb2 =>
    through b a0 n c0 (R.getD i []) s j (M.dp R n (s - 2 ^ j)).1 (M.dp R n (s - 2 ^ j)).2 (M.ent R i j) w2 (hr.below hb2) hj hn (by omega) hb ((hT.below hb2).fst (t := s - 2 ^ j) (by omega) (by omega)) ((hT.below hb2).snd (t := s - 2 ^ j) (by omega) (by omega)) rfl hx hzb
  obtain ⟨⟨T1, T2⟩, hTt⟩ : ∃ T, T = M.ttimes (M.dp R n (s - 2 ^ j)) (M.ent R i j) := ⟨_, rfl⟩
  rw [← hTt] at hcall ⊢
  have HC := Lib.hid hcall
  have HS : Hid (Seen w w.drew Ba Br Bs b a0 n c0 s d1) := ⟨hB.all, hB.row, hB.set, cs, (Below.refl _ _).drew⟩
  have hsN : (s : Int) < 1024 := by omega
  have hfl := fun w => fldT w T1 T2
  clear hT hr hx hzb hcall hTt hd1 hlt hb hs h1024 hn hj cs hB
  go_enter Try.func117, Try.ntmps117
  go_wp2
  go_region_held3 (fun w' => w'.cell? ⟨Ba, 0, none⟩ = some (.pointer (some ⟨b, 0, none⟩)) ∧ w'.cell? ⟨Br, 0, none⟩ = some (.slice a0 n c0) ∧ w'.cell? ⟨Bs, 0, none⟩ = some (.int .i64 s) ∧ w'.cell? ⟨b, s * 2, none⟩ = some (.int .i64 d1) ∧ Below w.heap.size w w') (first | exact HS.out | exact seen_keep ‹_ ∧ _ ∧ _ ∧ _ ∧ Below _ _ _› hbx) (first | (go_at_call 115; refine (HC.out _ ?hbe).mono ?_; (case hbe => exact And.right (And.right (And.right (And.right ‹_ ∧ _ ∧ _ ∧ _ ∧ Below _ _ _›)))); rintro e wx ⟨rfl, hbx⟩))
  all_goals
    have hB9 : Below w.heap.size w wx := And.right (And.right (And.right (And.right (show wx.cell? ⟨Ba, 0, none⟩ = some (.pointer (some ⟨b, 0, none⟩)) ∧ wx.cell? ⟨Br, 0, none⟩ = some (.slice a0 n c0) ∧ wx.cell? ⟨Bs, 0, none⟩ = some (.int .i64 s) ∧ wx.cell? ⟨b, s * 2, none⟩ = some (.int .i64 d1) ∧ Below w.heap.size w wx from ‹_›))))
    go_wp2
    go_ret
    refine ⟨retB ?_, hB9⟩
    by_cases e : T1 = d1
    · simp [e]
    · simp [e]
set_option maxRecDepth 100000 in
set_option maxHeartbeats 2000000 in
theorem indexLeast (Ba Br Bs : Nat) (b : Option Addr) (L c : Nat) (T : List Int) (p : Nat → Bool) (w : World) (hT : Ints .i64 w b L T)
    (hp : ∀ k, k < L → ∀ w', Below w.heap.size w w' → Calls Try.prog 117 #[.int .i64 (T.getD k 0), .pointer (some ⟨Ba, 0, none⟩), .pointer (some ⟨Br, 0, none⟩), .pointer (some ⟨Bs, 0, none⟩)] w' fun e w'' => e = .returned (.bool (p k)) ∧ Below w'.heap.size w' w'') :
    Calls Try.prog 116 #[.slice b L c, .func (.func 117) #[] #[.pointer (some ⟨Ba, 0, none⟩), .pointer (some ⟨Br, 0, none⟩), .pointer (some ⟨Bs, 0, none⟩)]] w fun e w' => Below w.heap.size w w' ∧
      ((e = .returned (.int .i64 (-1)) ∧ ∀ k, k < L → p k = false) ∨ ∃ j : Nat, j < L ∧ e = .returned (.int .i64 j) ∧ p j = true ∧ ∀ k, k < j → p k = false) := by
  have HTI := Lib.hid hT
  have HP := Lib.hid hp
  have hm := hT.2.1
  unfold maxLen at hm
  clear hT hp
  go_enter Try.func116, Try.ntmps116
  go_wp2
  go_loopw [5, 8] (fun _ iv wr => ∃ k : Nat, k ≤ L ∧ iv = .int .i64 k ∧ Hid (∀ j, j < k → p j = false) ∧ Hid (Below w.heap.size w wr)) (fun _ iv _ => L - (intOf iv).toNat)
  case atStart => exact ⟨0, Nat.zero_le _, rfl, fun j hj => absurd hj (Nat.not_lt_zero j), Below.refl _ _⟩
  case round =>
    obtain ⟨k, hk, rfl, HA, HW⟩ := hrel
    by_cases hkl : k < L
    · have hki : (k : Int) < (L : Int) := by omega
      obtain ⟨tb, to, tv, rfl, -, htv, hct⟩ := (HTI.out.below HW.out).at k hkl
      have hcall := HP.out k hkl _ HW.out
      rw [← htv] at hcall
      obtain ⟨t, ht⟩ : ∃ t, t = p k := ⟨_, rfl⟩
      have HT := Lib.hid ht
      rw [← ht] at hcall
      have HS := Lib.hid HW.out.size
      clear ht
      cases t with
      | false =>
        have HCa := Lib.hid hcall
        clear hcall htv
        go_wp2_with (go_at_call 117; refine (HCa.out).mono ?_; rintro e w' ⟨rfl, hb'⟩)
        go_roundw
        case rel => exact ⟨k + 1, by omega, by go_num, fun x hx => by rcases Nat.lt_or_ge x k with h | h; exact HA.out x h; rw [show x = k by omega]; exact HT.out.symm, HW.out.trans (hb'.mono HS.out)⟩
        case measure => simp [intOf]; omega
      | true =>
        have HCa := Lib.hid hcall
        clear hcall htv
        go_wp2_with (go_at_call 117; refine (HCa.out).mono ?_; rintro e w' ⟨rfl, hb'⟩)
        go_ret
        exact ⟨HW.out.trans (hb'.mono HS.out), .inr ⟨k, hkl, rfl, HT.out.symm, HA.out⟩⟩
    · obtain rfl : k = L := by omega
      go_wp2
      go_ret
      exact ⟨HW.out, .inl ⟨rfl, HA.out⟩⟩
set_option maxRecDepth 100000 in
set_option maxHeartbeats 2000000 in
theorem leastColumn (b : Nat) (a0 : Option Addr) (n c0 s i : Nat) (R : List (List Int)) (w : World) (hT : TalW w b R n (2 ^ n)) (hr : Ints .i64 w a0 n (R.getD i [])) (hn : n ≤ 10) (hs : s < 2 ^ n) (hbot : (M.dp R n s).1 ≠ -1000000000000000)
    (hd : ∀ t, t < 2 ^ n → M.Big (M.dp R n t).1) (he : ∀ j, j < n → M.Big (M.ent R i j)) (hok : ∃ u, M.okCol R n i s u = true) :
    Calls Try.prog 83 #[.pointer (some ⟨b, 0, none⟩), .slice a0 n c0, .int .i64 s] w fun e w' => (∃ u : Nat, e = .returned (.int .i64 u) ∧ u < n ∧ s.testBit u = true ∧ M.okCol R n i s u = true ∧ ∀ j, j < u → M.okCol R n i s j = false) ∧ Below w.heap.size w w' := by
  have h1024 := two_pow_le hn
  have hL : (M.setL 10 s).length ≤ 10 := by rw [M.setL_len]; exact M.pc_le _ _
  obtain ⟨wb, hwb⟩ : ∃ x, x = ((w.alloc (.cells #[.pointer (some ⟨b, 0, none⟩)] 91)).alloc (.cells #[.slice a0 n c0] 26)).alloc (.cells #[.int .i64 s] 3) := ⟨_, rfl⟩
  have hbw : Below w.heap.size w wb := by rw [hwb]; exact b_al3 _ _ _ _
  have hB : Boxes3 wb w.heap.size (w.heap.size + 1) (w.heap.size + 1 + 1) b a0 n c0 s := by
    subst hwb
    refine ⟨?_, ?_, ?_⟩ <;> simp [go_sem]
  have HT := Lib.hid hT
  have HR := Lib.hid hr
  have HFin : Hid (∀ (k : Nat), k < (M.setL 10 s).length → M.thru R n i s k = (M.dp R n s).1 → (∀ m, m < k → M.thru R n i s m ≠ (M.dp R n s).1) → ∃ u : Nat, (M.setL 10 s).getD k 0 = (u : Int) ∧ u < n ∧ s.testBit u = true ∧ M.okCol R n i s u = true ∧ ∀ j, j < u → M.okCol R n i s j = false) := fun k hk h1 h2 => M.pick_at hs hn hbot hk h1 h2
  have HSome : Hid (∃ m, m < (M.setL 10 s).length ∧ M.thru R n i s m = (M.dp R n s).1) := by
    obtain ⟨u, hu⟩ := hok
    exact M.pick_any hs hn hbot hu
  have HC : Hid (∀ w1, Below wb.heap.size wb w1 → ∀ k, k < (M.setL 10 s).length → ∀ w', Below w1.heap.size w1 w' → Calls Try.prog 117 #[.int .i64 ((M.setL 10 s).getD k 0), .pointer (some ⟨w.heap.size, 0, none⟩), .pointer (some ⟨w.heap.size + 1, 0, none⟩), .pointer (some ⟨w.heap.size + 1 + 1, 0, none⟩)] w' fun e w'' => e = .returned (.bool (decide (M.thru R n i s k = (M.dp R n s).1))) ∧ Below w'.heap.size w' w'') := fun w1 hb1 k hk w' hb' => by
    obtain ⟨j, hj, -, hjb⟩ := M.setL_bit 10 s hk
    unfold M.thru
    rw [hj, Int.toNat_natCast]
    have hjn := M.bit_lt hjb hs
    have hB' := (hB.below hb1).below hb'
    exact isLeast w.heap.size (w.heap.size + 1) (w.heap.size + 1 + 1) b a0 n c0 s i j R w' hB' (((hT.below hbw).below hb1).below hb') (((hr.below hbw).below hb1).below hb') hjn hn hs hjb (hd _ (by have := M.bit_less hjb; omega)) (he j hjn)
  have HBw := Lib.hid hbw
  have HWb := Lib.hid hwb
  have hs1024 : s ≤ 1024 := by omega
  obtain ⟨L, hLL⟩ : ∃ L, L = (M.setL 10 s).length := ⟨_, rfl⟩
  have hN : ∀ w1, Calls Try.prog 63 #[.int .i64 s] w1 fun e w' => ∃ b c, e = .returned (.slice b L c) ∧ Own w' w1.heap.size (.slice b L c) (M.setL 10 s) ∧ Below w1.heap.size w1 w' := fun w1 => by
    have := numbersIn s w1 hs1024
    rw [← hLL] at this
    exact this
  have HN := Lib.hid hN
  rw [← hLL] at hL HFin HSome HC
  clear hT hr hs hbot hd he hok hB hbw hN h1024 hLL hs1024
  go_enter Try.func83, Try.ntmps83
  go_wp2_with fail
  rw [← HWb.out]
  refine (HN.out wb).mono ?_
  rintro e w1 ⟨b1, c1, rfl, ho1, hb1⟩
  have HO1 := Lib.hid ho1
  have HB1 := Lib.hid hb1
  clear ho1 hb1
  go_wp2_with fail
  refine (indexLeast w.heap.size (w.heap.size + 1) (w.heap.size + 1 + 1) b1 L c1 (M.setL 10 s) (fun k => decide (M.thru R n i s k = (M.dp R n s).1)) w1 HO1.out.ints' (fun k hk w' hb' => HC.out w1 HB1.out k hk w' hb')).mono ?_
  rintro e w2 ⟨hb2, ⟨rfl, hno⟩ | ⟨j, hj, rfl, hyes, hbef⟩⟩
  · obtain ⟨m, hm, e⟩ := HSome.out
    exact absurd e (of_decide_eq_false (hno m hm))
  · obtain ⟨u, hu, hu1⟩ := HFin.out j hj (of_decide_eq_true hyes) (fun m hm => of_decide_eq_false (hbef m hm))
    obtain ⟨q, qo, x0, rfl, -, hx0, hcx⟩ := (HO1.out.ints'.below hb2).at j hj
    rw [hu] at hx0
    subst hx0
    have hB9 := Lib.hid (HBw.out.trans ((HB1.out.trans (hb2.mono HB1.out.size)).mono HBw.out.size))
    have HU := Lib.hid hu1
    have hji : (j : Int) < (L : Int) := by omega
    have hj0 : (0 : Int) ≤ (j : Int) := by omega
    clear hyes hbef hu hu1 hb2
    go_wp2
    go_ret
    exact ⟨⟨u, rfl, HU.out⟩, hB9.out⟩
end V
end Go.Proofs.Ytmobcobdpemlnaa
