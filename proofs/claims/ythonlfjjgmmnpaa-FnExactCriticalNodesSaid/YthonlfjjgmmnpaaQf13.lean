/- Texts laid together: End2, SAdd, Clo1. -/
import Derived.Test.YthonlfjjgmmnpaaQf12
import Derived.Test.YthonlfjjgmmnpaaRows
import Derived.Test.YthonlfjjgmmnpaaQf1
import Derived.Test.YthonlfjjgmmnpaaQf2
import Derived.WalkKit
import Derived.ProofKit
import Derived.WalkSmall
import Derived.Deep.QuietTactic
import Derived.BigQuiet
import Derived.BigRegion
import Derived.Deep.Draws
import Derived.Lib.Hide
import Derived.OpenShut
import Derived.Deep.OwnRows
import Derived.Test.YthonlfjjgmmnpaaQf3
import Derived.Test.YthonlfjjgmmnpaaQf4
import Derived.Test.YthonlfjjgmmnpaaQf7
import Derived.StillTailTactics
import Derived.IntWalk
import Derived.Test.YthonlfjjgmmnpaaQf8
import Derived.Test.YthonlfjjgmmnpaaQf9
import Derived.Lib.SliceRun
namespace Go.Proofs.Ythonlfjjgmmnpaa.V
open Go.RowKit
/-- The greatest of the first values. -/
def M.topN (f : Nat → Int) : Nat → Int
  | 0 => f 0
  | k + 1 => max (M.topN f k) (f (k + 1))
theorem M.topN_ge (f : Nat → Int) (m : Nat) : ∀ v, v ≤ m → f v ≤ M.topN f m := by
  induction m with
  | zero => intro v hv; obtain rfl : v = 0 := by omega
            exact Int.le_refl _
  | succ m ih =>
    intro v hv
    show _ ≤ max _ _
    by_cases e : v = m + 1
    · subst e; omega
    · have := ih v (by omega); omega
theorem M.topN_at (f : Nat → Int) (m : Nat) : ∃ v, v ≤ m ∧ M.topN f m = f v := by
  induction m with
  | zero => exact ⟨0, Nat.le_refl _, rfl⟩
  | succ m ih =>
    obtain ⟨v, h1, h2⟩ := ih
    rcases Int.le_total (M.topN f m) (f (m + 1)) with h | h
    · exact ⟨m + 1, Nat.le_refl _, Int.max_eq_right h⟩
    · exact ⟨v, by omega, (Int.max_eq_left h).trans h2⟩
theorem M.topN_congr {f g : Nat → Int} {m : Nat} (h : ∀ v, v ≤ m → f v = g v) : M.topN f m = M.topN g m := by
  induction m with
  | zero => exact h 0 (Nat.le_refl _)
  | succ m ih => show max _ _ = max _ _; rw [ih fun v hv => h v (by omega), h (m + 1) (Nat.le_refl _)]
theorem M.top_cyc {A : Nat → Nat → Int} {n : Nat} (h1 : 1 ≤ n) (h2 : n ≤ 10) (hA : ∀ i j, i < n → j < n → M.Sm 1000000 (A i j)) : decide (M.topN (fun i => (M.fkL A n n).getD i 0) (n - 1) ≠ -1000000000000000) = M.hasCyc A n := by
  have hc : M.topN (fun i => (M.fkL A n n).getD i 0) (n - 1) = M.topN (M.Fk A n n) (n - 1) := M.topN_congr fun v hv => M.fkL_at _ _ _ _ (by omega)
  rw [hc, Bool.eq_iff_iff, decide_eq_true_eq]
  unfold M.hasCyc
  rw [List.any_eq_true]
  obtain ⟨v, hv, e⟩ := M.topN_at (M.Fk A n n) (n - 1)
  constructor
  · intro h
    exact ⟨v, List.mem_range.2 (by omega), by rw [← e]; simpa using h⟩
  · rintro ⟨u, hu, h⟩
    have hu := List.mem_range.1 hu
    have h3 := M.topN_ge (M.Fk A n n) (n - 1) u (by omega)
    have h4 : M.Fk A n n u ≠ -1000000000000000 := by simpa using h
    rcases M.Fk_sm hA n v (by omega) with k | k
    · rcases M.Fk_sm hA n u hu with q | q
      · exact absurd q h4
      · omega
    · omega

set_option maxRecDepth 100000 in
set_option maxHeartbeats 1000000 in
theorem slicesMax (a : Option Addr) (n cap : Nat) (l : List Int) (w : World) (h : Ints .i64 w a n l) (h1 : 1 ≤ n) :
    Calls Try.prog 81 #[.slice a n cap] w fun e w' => e = .returned (.int .i64 (M.topN (fun i => l.getD i 0) (n - 1))) ∧ w = w' := by
  obtain ⟨hl, hm, hr⟩ := h
  unfold maxLen at hm
  have hn1 : ¬ (n : Int) < 1 := by omega
  rcases hr with h0 | ⟨b, off, rfl, hbl, hc⟩
  · omega
  have hc0 := hc 0 (by omega)
  rw [Nat.add_zero] at hc0
  have HC := Lib.hid hc
  clear hl hc
  go_enter Try.func81, Try.ntmps81
  go_wp2
  clear hc0
  go_loop [3, 4] (fun m i => ∃ k : Nat, 1 ≤ k ∧ k ≤ n ∧ i = .int .i64 k ∧ m = .int .i64 (M.topN (fun i => l.getD i 0) (k - 1))) (fun _ i => n - (intOf i).toNat)
  case atStart => exact ⟨1, Nat.le_refl _, h1, rfl, rfl⟩
  case round =>
    obtain ⟨k, hk1, hk, rfl, rfl⟩ := hrel
    by_cases hlt : k < n
    · have hki : (k : Int) < (n : Int) := by omega
      have hck := HC.out k hlt
      have HT : Hid (max (M.topN (fun i => l.getD i 0) (k - 1)) (l.getD k 0) = M.topN (fun i => l.getD i 0) (k + 1 - 1)) := by
        show _ = _
        obtain ⟨q, rfl⟩ : ∃ q, k = q + 1 := ⟨k - 1, by omega⟩
        rfl
      generalize M.topN (fun i => l.getD i 0) (k - 1) = y at HT ⊢
      generalize l.getD k 0 = x at HT hck
      go_wp2
      go_round
      case rel => exact ⟨k + 1, by omega, by omega, by go_num, by rw [← HT.out]; congr 1; split <;> omega⟩
      case measure => simp [intOf]; omega
    · obtain rfl : k = n := by omega
      go_wp2
      go_ret
      exact ⟨rfl, rfl⟩
set_option maxRecDepth 100000 in
set_option maxHeartbeats 1000000 in
theorem hasCycle (a : Option Addr) (n cap : Nat) (R : List (List Int)) (w : World) (h : Sq w a n R) (hA : ∀ i j, i < n → j < n → M.Sm 1000000 (M.ent R i j)) :
    Calls Try.prog 49 #[.slice a n cap] w fun e w' => e = .returned (.bool (M.hasCyc (M.ent R) n)) ∧ Below w.heap.size w w' := by
  have HS := Lib.hid h
  have HA := Lib.hid hA
  obtain ⟨n1, n2⟩ := h.2.2.2
  have HT := Lib.hid (M.top_cyc n1 n2 hA)
  clear h hA
  go_enter Try.func49, Try.ntmps49
  go_wp2_with fail
  refine (endWeights _ _ _ R _ HS.out HA.out).mono ?_
  rintro e w1 ⟨b, c, rfl, hO, hb⟩
  have HB := Lib.hid hb
  obtain ⟨g, ra, rc, rfl, hcell, hr⟩ := hO.rowOf n (by omega)
  rw [M.end_row _ _ _ _ (Nat.lt_succ_self n), M.fkL_len] at hcell hr
  have HI := Lib.hid hr.ints'
  clear hO hb hr
  go_wp2_with fail
  refine (slicesMax _ _ _ _ _ HI.out n1).mono ?_
  rintro e w' ⟨rfl, rfl⟩
  generalize M.topN (fun i => (M.fkL (M.ent R) n n).getD i 0) (n - 1) = y at HT ⊢
  go_wp2
  go_ret
  exact ⟨retB (by rw [← HT.out]; by_cases q : y = -1000000000000000 <;> simp [q]), HB.out⟩
end Go.Proofs.Ythonlfjjgmmnpaa.V

namespace Go.Proofs.Ythonlfjjgmmnpaa.V
open Go.RowKit

theorem ints_cells {w : World} {b off n : Nat} {l : List Int} (hc : ∀ i, i < n → w.cell? ⟨b, off + i, none⟩ = some (.int .i64 (l.getD i 0))) (hl : l.length = n) : ∀ j u, (l.map (Value.int .i64))[j]? = some u → w.cell? ((⟨b, off, none⟩ : Addr).add j) = some u := by
  intro j u hj
  have hjn : j < n := by
    by_cases e : j < n
    · exact e
    · rw [List.getElem?_eq_none (by simp; omega)] at hj; cases hj
  rw [Go.WideShapes.add_plain, hc j hjn]
  rw [← hj]
  simp [show j < l.length by omega]

set_option maxRecDepth 100000 in
set_option maxHeartbeats 1000000 in
theorem sOwn (a : Option Addr) (n cap : Nat) (l : List Int) (w : World) (h : Ints .i64 w a n l) (h0 : 0 < n) (hn : n ≤ 1000) :
    Calls Try.prog 92 #[.slice a n cap] w fun e w' => ∃ b c, e = .returned (.slice b n c) ∧ Own w' w.heap.size (.slice b n c) l ∧ Below w.heap.size w w' := by
  obtain ⟨hl, hm, hr⟩ := h
  rcases hr with hr | ⟨b, off, rfl, hb, hc⟩
  · omega
  have HL := Lib.hid hl
  have HC := Lib.hid hc
  have HO : Hid (Own (w.alloc (.cells #[] 2)) w.heap.size (.slice (some ⟨w.heap.size, 0, none⟩) 0 0) []) := own_lit0 w _ (Nat.le_refl _)
  obtain ⟨i0, hi, hz0, hz1, hz2⟩ := info_parts info64
  clear hl hc hm
  have HI := Lib.hid hi
  clear hi
  go_enter Try.func92, Try.ntmps92
  go_wp2_with (at_builtin; refine wpList_append_own_at (w := w.alloc (.cells #[] 2)) rfl (.tmp 3) (.tmp 4) 24 rfl w.heap.size 2 i0 (.int .i64 0) 1 8 Try.underlying24 HI.out hz0 hz1 hz2 rfl (by decide) (.slice (some ⟨w.heap.size, 0, none⟩) 0 0) 0 [] rfl HO.out ⟨b, off, none⟩ n cap (l.map (Value.int .i64)) rfl ?c0 ?c1 ?c2 ?c3 ?c4 ?c5 ?_)
  case c0 => have := HL.out; simp [this]
  case c1 =>
    refine ints_cells (fun i hi' => ?_) HL.out
    rw [(b_alloc w _).cell (p := ⟨b, off + i, none⟩) hb]; exact HC.out i hi'
  case c2 => intro u hu; obtain ⟨x, _, rfl⟩ := List.mem_map.1 hu; rfl
  case c3 => unfold maxLen; omega
  case c4 => omega
  case c5 => simp
  intro v' w' ho hg hz hv
  have ho' : Own w' w.heap.size v' l := by
    show w'.ownsRow w.heap.size _ 1 v' l.length (l.map (Value.int .i64))
    rw [HL.out]
    simpa using ho
  obtain ⟨b', c', rfl, _⟩ := own_form ho'
  rw [HL.out] at ho' ⊢
  have HB : Hid (Below w.heap.size w w') := (b_alloc w _).grown hg (by simp) (fun k hk => by simp [Value.ownBlock] at hk; omega)
  have HO' := Lib.hid ho'
  clear ho ho' hg hz hv
  go_wp2
  go_ret
  exact ⟨_, _, rfl, HO'.out, HB.out⟩

set_option maxRecDepth 100000 in
set_option maxHeartbeats 1000000 in
theorem sOwnM (a : Option Addr) (n cap : Nat) (R : List (List Int)) (w : World) (h : Mat w a n R) (hn : n ≤ 1000) (h0 : ∀ i, i < n → 0 < (R.getD i []).length ∧ (R.getD i []).length ≤ 1000) :
    Calls Try.prog 66 #[.slice a n cap] w (MPost n R w) := by
  have HA := Lib.hid h
  have HL := Lib.hid h.1
  have H0 := Lib.hid h0
  have hO0 : Hid (OwnM (w.alloc (.cells #[] 24)) w.heap.size (.slice (some ⟨w.heap.size, 0, none⟩) 0 0) []) := ownM_lit0 w _ (Nat.le_refl _)
  clear h h0
  go_enter Try.func66, Try.ntmps66
  go_wp2
  go_loopw [3, 4] (fun out i wr => ∃ k : Nat, k ≤ n ∧ i = .int .i64 k ∧ ∃ b c, out = .slice b k c ∧ OwnM wr w.heap.size (.slice b k c) (R.take k) ∧ Below w.heap.size w wr) (fun _ i _ => n - (intOf i).toNat)
  case atStart => exact ⟨0, Nat.zero_le _, rfl, _, _, rfl, hO0.out, b_alloc _ _⟩
  case round =>
    obtain ⟨k, hk, rfl, b, c, rfl, hO, hb⟩ := hrel
    have HO := Lib.hid hO
    have HB := Lib.hid hb
    clear hO hb hO0
    by_cases hlt : k < n
    · have hki : (k : Int) < (n : Int) := by omega
      obtain ⟨d, od, ra, rc, L, l, rfl, -, hl, hc, hI⟩ := (HA.out.below HB.out).at k hlt
      have hz := H0.out k hlt
      rw [← hl, hI.1] at hz
      obtain ⟨z1, z2⟩ := hz
      have HI := Lib.hid hI
      have HLl := Lib.hid hl
      clear hI hl
      go_wp2_with fail
      refine (sOwn _ _ _ l _ HI.out z1 z2).mono ?_
      rintro e w1 ⟨b1, c1, rfl, ho1, hb1⟩
      have HO1 := Lib.hid ho1
      have HB1 := Lib.hid hb1
      clear ho1 hb1
      have hs1 := HB.out.size
      have hlen := HO.out.len
      have HLn := Lib.hid hlen
      clear hlen
      go_wp2_with (at_builtin; refine appendRow wr _ rfl (.tmp 12) (.tmp 18) rfl w.heap.size _ _ _ _ k HO.out.len.symm rfl HO.out HB1.out HO1.out rfl (by rw [← HLn.out]; omega) hs1 ?_)
      intro b2 c2 w2 hO2 hb2 _
      have HO2 : Hid (OwnM w2 w.heap.size (.slice b2 (k + 1) c2) (R.take (k + 1))) := by
        show OwnM _ _ _ _
        rw [List.take_succ_eq_append_getElem (by have := HL.out; omega)]
        rw [HLl.out] at hO2
        simpa [show k < R.length by have := HL.out; omega] using hO2
      have HB2 := Lib.hid (HB.out.trans ((HB1.out.mono hs1).trans hb2))
      clear hO2 hb2
      go_wp2
      go_roundw
      case rel => exact ⟨k + 1, by omega, by go_num, _, _, rfl, HO2.out, HB2.out⟩
      case measure => simp [intOf]; omega
    · obtain rfl : k = n := by omega
      have hO2 := HO.out
      rw [List.take_of_length_le (by have := HL.out; omega)] at hO2
      have HO2 := Lib.hid hO2
      clear hO2
      go_wp2
      go_ret
      exact ⟨_, _, rfl, HO2.out, HB.out⟩

set_option maxRecDepth 100000 in
set_option maxHeartbeats 4000000 in
theorem sAddB (a : Option Addr) (n cap : Nat) (R : List (List Int)) (a' : Option Addr) (cap' : Nat) (R' : List (List Int)) (L : Nat) (w : World) (h : Mat w a n R) (h' : Mat w a' n R') (hr : Rect R n L) (hr' : Rect R' n L) (m1 : 1 ≤ n) (m2 : n ≤ 10) (c1 : 1 ≤ L) (c2 : L ≤ 10) :
    Calls Try.prog 63 #[.slice a n cap, .slice a' n cap'] w (MPost n (M.mk n L (fun i j => max (M.ent R i j) (M.ent R' i j))) w) := by
  have HA := Lib.hid h
  have HA' := Lib.hid h'
  have HL := Lib.hid h.1
  have HL' := Lib.hid h'.1
  have HR := Lib.hid hr
  have HR' := Lib.hid hr'
  have HE : Hid (R = M.mk n L (M.ent R)) := by
    show _ = _
    rw [← hr.1]
    exact (M.mk_self R L (fun i hi => hr.2 i (by rw [← hr.1]; exact hi))).symm
  have H0 : Hid (∀ i, i < n → 0 < (R.getD i []).length ∧ (R.getD i []).length ≤ 1000) := fun i hi => by
    rw [hr.2 i hi]; omega
  clear h h' hr hr'
  go_enter Try.func63, Try.ntmps63
  go_wp2_with fail
  refine (sOwnM _ _ _ R _ HA.out (by omega) H0.out).mono ?_
  rintro e w1 ⟨a2, cap2, rfl, ho, hb⟩
  have hO0 : OwnM w1 w.heap.size (.slice a2 n cap2) (M.mk n L (fun i j => if i < 0 then max (M.ent R i j) (M.ent R' i j) else M.ent R i j)) := by
    rw [HE.out] at ho
    exact (congrArg (OwnM _ _ _) (M.mk_congr fun i _ j _ => by rw [if_neg (Nat.not_lt_zero i)])).mp ho
  have HO0 := Lib.hid hO0
  have HB0 := Lib.hid hb
  clear ho hb hO0
  go_wp2
  go_loopw [6] (fun i wr => ∃ k : Nat, k ≤ n ∧ i = .int .i64 k ∧ OwnM wr w.heap.size (.slice a2 n cap2) (M.mk n L (fun i j => if i < k then max (M.ent R i j) (M.ent R' i j) else M.ent R i j)) ∧ Below w.heap.size w wr) (fun i _ => n - (intOf i).toNat)
  case atStart => exact ⟨0, Nat.zero_le _, rfl, HO0.out, HB0.out⟩
  case round =>
    obtain ⟨k, hk, rfl, hO, hb⟩ := hrel
    obtain ⟨wo, rfl⟩ : ∃ x, x = wr := ⟨_, rfl⟩
    have HO := Lib.hid hO
    have HB := Lib.hid hb
    clear hO hb HO0 HB0
    by_cases hlt : k < n
    · have hki : (k : Int) < (n : Int) := by omega
      have HO2 : Hid (OwnM wo w.heap.size (.slice a2 n cap2) (M.mk n L (fun i j => if i < k ∨ (i = k ∧ j < 0) then max (M.ent R i j) (M.ent R' i j) else M.ent R i j))) :=
        (congrArg (OwnM _ _ _) (M.mk_congr fun i _ j _ => by
          by_cases e : i < k
          · rw [if_pos e, if_pos (.inl e)]
          · rw [if_neg e, if_neg (by omega)])).mp HO.out
      go_wp2
      go_loopw [7] (fun j wr => ∃ t : Nat, t ≤ L ∧ j = .int .i64 t ∧ OwnM wr w.heap.size (.slice a2 n cap2) (M.mk n L (fun i j => if i < k ∨ (i = k ∧ j < t) then max (M.ent R i j) (M.ent R' i j) else M.ent R i j)) ∧ Below w.heap.size w wr) (fun j _ => L - (intOf j).toNat)
      case atStart => exact ⟨0, Nat.zero_le _, rfl, HO2.out, HB.out⟩
      case round =>
        obtain ⟨t, ht, rfl, hO, hb⟩ := hrel
        have HOi := Lib.hid hO
        have HBi := Lib.hid hb
        clear hO hb HO2 HB HO
        by_cases htl : t < L
        · have hti : (t : Int) < (L : Int) := by omega
          have hkR' : k < R'.length := by have := HL'.out; omega
          obtain ⟨g, q, L3, c3, x3, rfl, hg3, hq3, hL3, hx3, c31, c32, f31, ho3⟩ := HOi.out.at k t hlt (by rw [M.mk_rowlen _ _ _ _ hlt]; exact htl)
          rw [M.mk_rowlen _ _ _ _ hlt] at hL3
          subst hL3
          obtain ⟨d, od, rd', ro', L5, c5, x5, rfl, hL5, hx5, c51, c52⟩ := (HA'.out.below HBi.out).ent k t hlt (by rw [HR'.out.2 k hlt]; exact htl)
          rw [HR'.out.2 k hlt] at hL5
          subst hL5
          rw [M.mk_ent _ _ _ _ _ hlt htl, if_neg (by omega)] at hx3
          have HN : Hid (OwnM (wr.setCell ⟨q, t, none⟩ (.int .i64 (if x3 < x5 then x5 else x3))) w.heap.size (.slice (some ⟨g, 0, none⟩) n cap2) (M.mk n L5 (fun i j => if i < k ∨ (i = k ∧ j < t + 1) then max (M.ent R i j) (M.ent R' i j) else M.ent R i j))) := by
            refine (congrArg (OwnM _ _ _) ?_).mp (ho3 (if x3 < x5 then x5 else x3))
            rw [M.mk_set _ _ _ _ _ _ hlt]
            refine M.mk_congr fun i _ j _ => ?_
            by_cases e : i = k
            · subst e
              rw [if_pos rfl]
              by_cases e2 : j = t
              · subst e2; rw [if_pos rfl, ← M.ifmax, if_pos (.inr ⟨rfl, by omega⟩), hx3, hx5]; rfl
              · rw [if_neg e2]
                by_cases e3 : j < t
                · rw [if_pos (.inr ⟨rfl, e3⟩), if_pos (.inr ⟨rfl, by omega⟩)]
                · rw [if_neg (by omega), if_neg (by omega)]
            · rw [if_neg e]
              by_cases e3 : i < k
              · rw [if_pos (.inl e3), if_pos (.inl e3)]
              · rw [if_neg (by omega), if_neg (by omega)]
          clear ho3 hx3 hx5 hkR'
          go_wp2
          go_still_tail 21, (by kernel_rfl)
          change wpList _ _ _ _ _ wr.drew
          go_wp2
          exact ⟨⟨t + 1, by omega, by go_num, HN.out.keep (fun _ _ _ => rfl), HBi.out.drew.setCell hq3 _⟩, by simp [intOf]; omega⟩
        · obtain rfl : t = L := by omega
          have HO2 : Hid (OwnM wr w.heap.size (.slice a2 n cap2) (M.mk n t (fun i j => if i < k + 1 then max (M.ent R i j) (M.ent R' i j) else M.ent R i j))) :=
            (congrArg (OwnM _ _ _) (M.mk_congr fun i _ j hj => by
              by_cases e : i < k + 1
              · rw [if_pos e, if_pos (by omega)]
              · rw [if_neg e, if_neg (by omega)])).mp HOi.out
          obtain ⟨g, o, ra, rc, L3, l3, rfl, -, hl3, hc3, hI3⟩ := HOi.out.mat.at k hlt
          have e3 : L3 = t := by rw [← hI3.1, hl3, M.mk_rowlen _ _ _ _ hlt]
          subst e3
          clear hl3 hI3
          go_wp2
          go_roundw
          case rel => exact ⟨k + 1, by omega, by go_num, HO2.out, HBi.out⟩
          case measure => simp [intOf]; omega
    · obtain rfl : k = n := by omega
      go_wp2
      go_ret
      refine ⟨_, _, rfl, ?_, HB.out⟩
      exact (congrArg (OwnM _ _ _) (M.mk_congr fun i hi j _ => by rw [if_pos hi])).mp HO.out
theorem sAddM (a : Option Addr) (n cap : Nat) (R : List (List Int)) (a' : Option Addr) (n' cap' : Nat) (R' : List (List Int)) (w : World) (h : Mat w a n R) (h' : Mat w a' n' R') (hR : M.isMat R = true) (hR' : M.isMat R' = true) (hl : n = n') (hw : M.wid R = M.wid R') :
    Calls Try.prog 63 #[.slice a n cap, .slice a' n' cap'] w (MPost n (M.addM R R') w) := by
  subst hl
  obtain ⟨m1, m2, c1, c2, -, -⟩ := M.isMat_t hR
  have e1 := h.1
  have e2 := h'.1
  have t1 := rect_mat hR
  have t2 := rect_mat hR'
  rw [e1] at t1 m1 m2
  rw [e2, ← hw] at t2
  have := sAddB a n cap R a' cap' R' _ w h h' t1 t2 m1 m2 c1 c2
  unfold M.addM
  rw [e1]
  exact this

end Go.Proofs.Ythonlfjjgmmnpaa.V

namespace Go.Proofs.Ythonlfjjgmmnpaa.V
open Go.RowKit

set_option maxRecDepth 100000 in
set_option maxHeartbeats 1000000 in
theorem clone (a : Option Addr) (n cap : Nat) (l : List Int) (w : World) (h : Ints .i64 w a n l) (h0 : 0 < n) (hn : n ≤ 1000) :
    Calls Try.prog 71 #[.slice a n cap] w fun e w' => ∃ b c, e = .returned (.slice b n c) ∧ Own w' w.heap.size (.slice b n c) l ∧ Below w.heap.size w w' := by
  obtain ⟨hl, hm, hr⟩ := h
  rcases hr with hr | ⟨b, off, rfl, hb, hc⟩
  · omega
  have HL := Lib.hid hl
  have HC := Lib.hid hc
  have HO : Hid (Own (w.alloc (.cells #[] 2)) w.heap.size (.slice (some ⟨w.heap.size, 0, none⟩) 0 0) []) := own_lit0 w _ (Nat.le_refl _)
  obtain ⟨i0, hi, hz0, hz1, hz2⟩ := info_parts info64
  clear hl hc hm
  have HI := Lib.hid hi
  clear hi
  have hnil := fun w : World => Lib.run_eql_slice_nil (P := Try.prog) w 24 2 (some (⟨b, off, none⟩ : Addr)) n cap 0 0 Try.underlying24
  go_enter Try.func71, Try.ntmps71
  go_wp2_with (at_builtin; refine wpList_append_own_at (w := w.alloc (.cells #[] 2)) rfl (.tmp 5) (.tmp 6) 24 rfl w.heap.size 2 i0 (.int .i64 0) 1 8 Try.underlying24 HI.out hz0 hz1 hz2 rfl (by decide) (.slice (some ⟨w.heap.size, 0, none⟩) 0 0) 0 [] rfl HO.out ⟨b, off, none⟩ n cap (l.map (Value.int .i64)) rfl ?c0 ?c1 ?c2 ?c3 ?c4 ?c5 ?_)
  case c0 => have := HL.out; simp [this]
  case c1 =>
    refine ints_cells (fun i hi' => ?_) HL.out
    rw [(b_alloc w _).cell (p := ⟨b, off + i, none⟩) hb]; exact HC.out i hi'
  case c2 => intro u hu; obtain ⟨x, _, rfl⟩ := List.mem_map.1 hu; rfl
  case c3 => unfold maxLen; omega
  case c4 => omega
  case c5 => simp
  intro v' w' ho hg hz hv
  have ho' : Own w' w.heap.size v' l := by
    show w'.ownsRow w.heap.size _ 1 v' l.length (l.map (Value.int .i64))
    rw [HL.out]
    simpa using ho
  obtain ⟨b', c', rfl, _⟩ := own_form ho'
  rw [HL.out] at ho' ⊢
  have HB : Hid (Below w.heap.size w w') := (b_alloc w _).grown hg (by simp) (fun k hk => by simp [Value.ownBlock] at hk; omega)
  have HO' := Lib.hid ho'
  clear ho ho' hg hz hv
  go_wp2
  go_ret
  exact ⟨_, _, rfl, HO'.out, HB.out⟩

set_option maxRecDepth 100000 in
set_option maxHeartbeats 1000000 in
theorem copiedMatrix (a : Option Addr) (n cap : Nat) (R : List (List Int)) (L : Nat) (w : World) (h : Mat w a n R) (hr : Rect R n L) (m1 : 1 ≤ n) (hm : n ≤ 10) (n1 : 1 ≤ L) (hn : L ≤ 10) :
    Calls Try.prog 54 #[.slice a n cap] w (MPost n R w) := by
  have HA := Lib.hid h
  have HR := Lib.hid hr
  obtain ⟨b, off, -, -, rfl, -, -⟩ := h.rect_first hr (by omega)
  have hmk := run_make_row' (P := Try.prog) 22 24 (.slice none 0 0) 24 Try.underlying22 infoS64 rfl .i64 .i64 n (by omega) (by omega)
  have hO0 : Hid (OwnM (w.alloc (.cells (madeCells #[.slice none 0 0] n) 24)) w.heap.size (.slice (some ⟨w.heap.size, 0, none⟩) n n) (List.replicate n [])) := ownM_made w _ n (Nat.le_refl _) (by unfold maxLen; omega)
  clear h hr
  go_enter Try.func54, Try.ntmps54
  go_wp2
  clear hmk
  go_loopw [4, 5, 11] (fun _ _ i wr => ∃ k : Nat, k ≤ n ∧ i = .int .i64 k ∧ OwnM wr w.heap.size (.slice (some ⟨w.heap.size, 0, none⟩) n n) ((List.range n).map fun j => if j < k then R.getD j [] else []) ∧ Below w.heap.size w wr) (fun _ _ i _ => n - (intOf i).toNat)
  case atStart =>
    refine ⟨0, Nat.zero_le _, rfl, (congrArg (OwnM _ _ _) ?_).mp hO0.out, b_alloc _ _⟩
    apply List.ext_getElem
    · simp
    · intro i h1 h2; simp
  case round =>
    obtain ⟨k, hk, rfl, hO, hb⟩ := hrel
    have HO := Lib.hid hO
    have HB := Lib.hid hb
    clear hO hb hO0
    by_cases hlt : k < n
    · have hki : (k : Int) < (n : Int) := by omega
      have hg := HO.out.lt rfl
      obtain ⟨d, od, rr, rcr, hdd, hbr, hcr, hIr⟩ := (HA.out.below HB.out).rect_at HR.out k hlt
      injection hdd with hdd
      injection hdd with e1 e2
      subst e1 e2
      have HIR := Lib.hid hIr
      clear hIr
      go_wp2_with fail
      refine (clone _ _ _ _ _ HIR.out (by omega) (by omega)).mono ?_
      rintro e w1 ⟨b1, c1, rfl, ho1, hb1⟩
      have hst : ∃ v, w1.cell? ⟨w.heap.size, k, none⟩ = some v := by
        obtain ⟨v, hv⟩ := HO.out.outer k hlt
        exact ⟨v, by rw [hb1.cell (p := ⟨w.heap.size, k, none⟩) hg]; exact hv⟩
      obtain ⟨v, hst⟩ := hst
      have hfz : w1.frozen? ⟨w.heap.size, k, none⟩ = false := by rw [hb1.frozen (p := ⟨w.heap.size, k, none⟩) hg]; exact HO.out.outerFz k
      have HN := Lib.hid (HO.out.setRow hb1 HB.out.size ho1 k hlt)
      have HB1 := Lib.hid (bnext HB.out hb1)
      clear ho1 hb1 hg
      go_wp2
      go_roundw
      case rel =>
        refine ⟨k + 1, by omega, by go_num, ?_, HB1.out.setCell (Nat.le_refl _) _⟩
        refine (congrArg (OwnM _ _ _) ?_).mp HN.out
        rw [M.map_set_rows]
        refine List.map_congr_left fun s _ => ?_
        by_cases e : s = k
        · subst e; rw [if_pos rfl, if_pos (by omega)]
        · rw [if_neg e]
          by_cases e2 : s < k
          · rw [if_pos e2, if_pos (by omega)]
          · rw [if_neg e2, if_neg (by omega)]
      case measure => simp [intOf]; omega
    · obtain rfl : k = n := by omega
      go_wp2
      go_ret
      refine ⟨_, _, rfl, (congrArg (OwnM _ _ _) ?_).mp HO.out, HB.out⟩
      have hl := HR.out.1
      apply List.ext_getElem
      · simp [hl]
      · intro i h1 h2
        simp at h1
        simp [h1, h2]

/-- Three entries of an owned square matrix, of which the first is written. -/
theorem OwnM.tri {w : World} {B n cap : Nat} {a : Option Addr} {R : List (List Int)} (h : OwnM w B (.slice a n cap) R) (hr : Rect R n n) (i j k : Nat) (hi : i < n) (hj : j < n) (hk : k < n) :
    ∃ g q c q' c', a = some ⟨g, 0, none⟩ ∧ B ≤ q ∧ w.cell? ⟨g, i, none⟩ = some (.slice (some ⟨q, 0, none⟩) n c) ∧ w.cell? ⟨q, j, none⟩ = some (.int .i64 (M.ent R i j)) ∧ w.cell? ⟨q, k, none⟩ = some (.int .i64 (M.ent R i k)) ∧
      w.cell? ⟨g, k, none⟩ = some (.slice (some ⟨q', 0, none⟩) n c') ∧ w.cell? ⟨q', j, none⟩ = some (.int .i64 (M.ent R k j)) ∧ w.frozen? ⟨q, j, none⟩ = false ∧
      ∀ y, OwnM (w.setCell ⟨q, j, none⟩ (.int .i64 y)) B (.slice a n cap) (R.set i ((R.getD i []).set j y)) := by
  obtain ⟨g, q, L, c, x, rfl, _, hq, hL, hx, h1, h2, h3, h4⟩ := h.at i j hi (by rw [hr.2 i hi]; exact hj)
  obtain ⟨g2, q2, L2, c2, x2, e, _, _, hL2, hx2, k1, k2, _, _⟩ := h.at i k hi (by rw [hr.2 i hi]; exact hk)
  injection e with e
  injection e with e
  subst e
  rw [h1] at k1
  injection k1 with k1
  injection k1 with k1 _ _
  injection k1 with k1
  injection k1 with k1
  subst k1
  obtain ⟨g3, q3, L3, c3, x3, e, _, _, hL3, hx3, m1, m2, _, _⟩ := h.at k j hk (by rw [hr.2 k hk]; exact hj)
  injection e with e
  injection e with e
  subst e
  rw [hr.2 i hi] at hL
  rw [hr.2 k hk] at hL3
  subst hL hL3 hx hx2 hx3
  exact ⟨g, q, c, q3, c3, rfl, hq, h1, h2, k2, m1, m2, h3, h4⟩
end Go.Proofs.Ythonlfjjgmmnpaa.V
