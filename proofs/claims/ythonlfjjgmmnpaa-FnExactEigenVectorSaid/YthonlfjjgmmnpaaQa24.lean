/- Texts laid together: BarZ, Stc, MatH. -/
import Derived.Test.YthonlfjjgmmnpaaQa19
import Derived.Test.YthonlfjjgmmnpaaQa23
import Derived.Test.YthonlfjjgmmnpaaQa13
import Derived.Test.YthonlfjjgmmnpaaQa4
import Derived.Test.YthonlfjjgmmnpaaQa7
import Derived.Test.YthonlfjjgmmnpaaQa1
namespace Go.Proofs.Ythonlfjjgmmnpaa
namespace V
open Go.RowKit
theorem fld1b (w : World) (f g : Fn) : (Instr.field 85 (.agg #[.func f #[] #[], .func g #[] #[]]) 1).run Try.prog w = .ok (.func g #[] #[]) w := by
  simp [Instr.field, part, asAgg, go_sem]
theorem M.star_shift {R : List (List Int)} {n : Nat} {a b : Int} (hp : M.noPos (M.shf (M.ent R) a b) n = true) : M.starL (M.mk n n (M.shf (M.ent R) a b)) n = (M.mk n n (M.starF (M.shf (M.ent R) a b) n), true) := by
  unfold M.starL
  rw [M.noPos_congr (A' := M.shf (M.ent R) a b) fun i j hi hj => M.ent_mk _ _ _ _ _ hi hj, hp, if_pos rfl]
  unfold M.starM
  rw [M.mk_congr fun i hi j hj => M.starF_congr (A' := M.shf (M.ent R) a b) (fun i j hi hj => M.ent_mk _ _ _ _ _ hi hj) hi hj]
set_option maxRecDepth 100000 in
set_option maxHeartbeats 4000000 in
theorem bestArcs (a : Option Addr) (n cap : Nat) (R : List (List Int)) (num den : Int) (w0 : World) (h : Mat w0 a n R) (hr : Rect R n n) (n1 : 1 ≤ n) (n2 : n ≤ 10) (hs : ∀ i j, i < n → j < n → M.Sm 1000000 (M.ent R i j)) (hab : M.Near num den) (hp : M.noPos (M.shf (M.ent R) num den) n = true) :
    Calls Try.prog 42 #[.slice a n cap, .agg #[.int .i64 num, .int .i64 den]] w0 (MPost n (M.mk n n (M.bestF (M.shf (M.ent R) num den) n)) w0) := by
  obtain ⟨w, hwd⟩ : ∃ w, w = w0.alloc (rbox num den) := ⟨_, rfl⟩
  have HX : Hid (Boxed w0 w num den) := by show Boxed _ _ _ _; rw [hwd]; exact boxed _ _ _
  have HA : Hid (Mat w a n R) := h.below HX.out.below
  have HR := Lib.hid hr
  have HS := Lib.hid hs
  have HN := Lib.hid hab
  have HSt := Lib.hid (M.star_shift hp)
  have hS := M.sh_sm hs hab
  have HSh := Lib.hid hS
  have HSb : Hid (∀ i j, i < n → j < n → M.Big (M.shf (M.ent R) num den i j)) := fun i j hi hj => M.big_sm (HSh.out i j hi hj) (by omega)
  have HTb : Hid (∀ i j, i < n → j < n → M.Big (M.starF (M.shf (M.ent R) num den) n i j)) := fun i j hi hj => M.big_sm (M.star_sm n2 HSh.out hp hi hj) (by omega)
  obtain ⟨p0, p1⟩ := HX.out.cells (Below.refl _ _)
  have hz := HX.out.size
  have hfld := fld1b
  clear h hr hs hab hp hS
  go_enter Try.func42, Try.ntmps42
  go_wp2_with fail
  simp only [← hwd] at *
  clear hwd
  refine (shiftedBy _ _ _ R num den _ HA.out HR.out n1 n2 HS.out HN.out).mono ?_
  rintro e w2 ⟨a2, cap2, rfl, hO, hb⟩
  generalize M.shf (M.ent R) num den = S at *
  have HO2 : Hid (OwnM w2 w.heap.size (.slice a2 n cap2) (M.mk n n (M.midG (M.bestF S n) S 0 0))) := by show OwnM _ _ _ _; rw [M.midG_zero]; exact hO
  obtain ⟨g, -, -, -, -, hgg, -⟩ := hO.tri (rect_mk _ _ _) 0 0 0 (by omega) (by omega) (by omega)
  have HSq : Hid (Sq w2 a2 n (M.mk n n S)) := ⟨hO.mat, rect_mk _ _ _, fun i j hi hj => by rw [M.ent_mk _ _ _ _ _ hi hj]; exact HSh.out i j hi hj, n1, n2⟩
  subst hgg
  have HB2 := Lib.hid hb
  clear hO hb p0 p1
  go_wp2_with fail
  refine (starOf _ _ _ (M.mk n n S) _ HSq.out).mono ?_
  rintro e w3 ⟨a3, m3, c3, rfl, hO, hb⟩
  rw [HSt.out] at hO
  have hm3 : m3 = n := by have := hO.len; simpa using this
  subst hm3
  have HO3 := Lib.hid hO
  have HB3 := Lib.hid hb
  rw [HSt.out]
  clear hO hb
  go_wp2_with fail
  refine (maxPlus _).mono ?_
  rintro e w4 ⟨rfl, hb⟩
  have HO4 := Lib.hid (HO3.out.below hb)
  have HB4 := Lib.hid (HB3.out.trans (hb.mono HB3.out.size))
  have HO24 := Lib.hid (HO2.out.below HB4.out)
  clear hb HO3 HB3
  go_wp2
  clear hfld
  have hz2 := HB2.out.size
  have hz4 := HB4.out.size
  go_loopw [9, 10, 25] (fun _ _ i wr => ∃ s : Nat, s ≤ m3 ∧ i = .int .i64 s ∧ Hid (OwnM wr w.heap.size (.slice (some ⟨g, 0, none⟩) m3 cap2) (M.mk m3 m3 (M.midG (M.bestF S m3) S s 0))) ∧ Hid (Below w.heap.size w wr) ∧ Hid (Same w2.heap.size w4.heap.size w4 wr) ∧ Hid (wr.heap[g]? = w2.heap[g]?)) (fun _ _ i _ => m3 - (intOf i).toNat)
  case atStart =>
    refine ⟨0, Nat.zero_le _, rfl, HO24, HB2.out.trans (HB4.out.mono hz2), Same.refl _ _ _, ?_⟩
    obtain ⟨g3, q3, c3', -, -, hgg, -, hrow3, -⟩ := HO2.out.tri (rect_mk _ _ _) 0 0 0 (by omega) (by omega) (by omega)
    injection hgg with hgg
    injection hgg with hgg
    subst hgg
    exact HB4.out.block g (cell_lt hrow3)
  case round =>
    obtain ⟨s, hs, rfl, HO, HB, HSm, HG⟩ := hrel
    obtain ⟨wp, rfl⟩ : ∃ x, x = wr := ⟨_, rfl⟩
    clear HO24
    by_cases hsl : s < m3
    · have hsi : (s : Int) < (m3 : Int) := by omega
      obtain ⟨g2, q, c, q2, c2, hgg, hq, hrow, hx0, -, -, -, -, -⟩ := HO.out.tri (rect_mk _ _ _) s s s hsl hsl hsl
      injection hgg with hgg
      injection hgg with hgg
      subst hgg
      have hq2 : q < w2.heap.size := by
        have e : w2.cell? ⟨g, s, none⟩ = some (.slice (some ⟨q, 0, none⟩) m3 c) := (World.cell?_of_block (w := wp) (a := ⟨g, s, none⟩) HG.out.symm).trans hrow
        obtain ⟨g3, q3, c3', -, -, hgg, -, hrow3, hx3, -⟩ := HO2.out.tri (rect_mk _ _ _) s 0 0 hsl (by omega) (by omega)
        injection hgg with hgg
        injection hgg with hgg
        subst hgg
        rw [e] at hrow3
        injection hrow3 with h1
        injection h1 with h1
        injection h1 with h1
        injection h1 with h1
        subst h1
        exact cell_lt hx3
      have hqg : q ≠ g := row_ne hx0 hrow
      have HRow := Lib.hid hrow
      have HQ2 := Lib.hid hq2
      clear hx0 hq2
      go_wp2
      clear hrow
      go_loopw [11, 12, 32] (fun _ _ j wr => ∃ t : Nat, t ≤ m3 ∧ j = .int .i64 t ∧ Hid (wr.cell? ⟨g, s, none⟩ = some (.slice (some ⟨q, 0, none⟩) m3 c)) ∧ Hid (OwnM wr w.heap.size (.slice (some ⟨g, 0, none⟩) m3 cap2) (M.mk m3 m3 (M.midG (M.bestF S m3) S s t))) ∧ Hid (Below w.heap.size w wr) ∧ Hid (Same w2.heap.size w4.heap.size w4 wr) ∧ Hid (wr.heap[g]? = w2.heap[g]?)) (fun _ _ j _ => m3 - (intOf j).toNat)
      case atStart => exact ⟨0, Nat.zero_le _, rfl, HRow, HO, HB, HSm, HG⟩
      case round =>
        clear HO HB HSm HG
        obtain ⟨t, ht, rfl, HRt, HO, HB, HSm, HG⟩ := hrel
        by_cases htl : t < m3
        · have hti : (t : Int) < (m3 : Int) := by omega
          obtain ⟨g2, q2, c2, -, -, hgg, -, h1, h2, -, -, -, h6, ho⟩ := HO.out.tri (rect_mk _ _ _) s t t hsl htl htl
          injection hgg with hgg
          injection hgg with hgg
          subst hgg
          rw [HRt.out] at h1
          injection h1 with h1
          injection h1 with h1 _ h1c
          injection h1 with h1
          injection h1 with h1
          subst h1
          clear h1c
          rw [M.ent_mk _ _ _ _ _ hsl htl, M.midG_at] at h2
          have HO3w : Hid (OwnM wr w2.heap.size (.slice a3 m3 c3) (M.mk m3 m3 (M.starF S m3))) := HO4.out.keep fun k k1 k2 => HSm.out k k1 k2
          obtain ⟨g5, q5, c5, -, -, rfl, -, hs1, hs2, -⟩ := HO3w.out.tri (rect_mk _ _ _) t s s htl hsl hsl
          rw [M.ent_mk _ _ _ _ _ htl hsl] at hs2
          obtain ⟨x, hx⟩ : ∃ x, x = S s t := ⟨_, rfl⟩
          obtain ⟨z, hz⟩ : ∃ z, z = M.starF S m3 t s := ⟨_, rfl⟩
          obtain ⟨u, hu⟩ : ∃ u, u = M.times x z := ⟨_, rfl⟩
          rw [← hx] at h2
          rw [← hz] at hs2
          have HC1 : ∀ w : World, Calls Try.prog 106 #[.int .i64 x, .int .i64 z] w fun e w' => e = .returned (.int .i64 u) ∧ w = w' := by
            intro w
            rw [hu]
            exact clTimes _ _ _ (by rw [hx]; exact HSb.out s t hsl htl) (by rw [hz]; exact HTb.out t s htl hsl)
          have HC1' := Lib.hid HC1
          clear HC1
          have hcr := HRt.out
          by_cases hu0 : u = 0
          · have e : M.bestF S m3 s t = S s t := by unfold M.bestF; rw [← hx, ← hz, ← hu, if_pos hu0]
            have HO5 : Hid (OwnM wr w.heap.size (.slice (some ⟨g, 0, none⟩) m3 cap2) (M.mk m3 m3 (M.midG (M.bestF S m3) S s (t + 1)))) := by
              show OwnM _ _ _ _; rw [← M.midG_same _ _ _ _ _ e]; exact HO.out
            have hub : (u != 0) = false := by simp [hu0]
            clear e ho hx hz hu hu0
            go_wp2_with (go_at_call 106; refine (HC1'.out _).mono ?_; rintro e w' ⟨rfl, rfl⟩)
            go_wp2
            go_roundw
            case rel => exact ⟨t + 1, by omega, by go_num, HRt, HO5, HB, HSm, HG⟩
            case measure => simp [intOf]; omega
          · have e : M.bestF S m3 s t = -1000000000000000 := by unfold M.bestF; rw [← hx, ← hz, ← hu, if_neg hu0]
            have hN := ho (-1000000000000000)
            rw [← e, M.midG_next _ _ _ _ _ hsl, e] at hN
            have HN5 := Lib.hid hN
            have hub : (u != 0) = true := by simp [hu0]
            have HRn : Hid ((wr.setCell ⟨q, t, none⟩ (.int .i64 (-1000000000000000))).cell? ⟨g, s, none⟩ = some (.slice (some ⟨q, 0, none⟩) m3 c)) :=
              (World.cell?_of_block (w := wr) (a := ⟨g, s, none⟩) (Below.heap_setCell wr ⟨q, t, none⟩ _ g (Ne.symm hqg))).trans HRt.out
            have HSn : Hid (Same w2.heap.size w4.heap.size w4 (wr.setCell ⟨q, t, none⟩ (.int .i64 (-1000000000000000)))) := fun k k1 k2 =>
              (Below.heap_setCell wr ⟨q, t, none⟩ _ k (by have := HQ2.out; show k ≠ q; omega)).trans (HSm.out k k1 k2)
            have HGn : Hid ((wr.setCell ⟨q, t, none⟩ (.int .i64 (-1000000000000000))).heap[g]? = w2.heap[g]?) := (Below.heap_setCell wr ⟨q, t, none⟩ _ g (Ne.symm hqg)).trans HG.out
            clear e ho hN hx hz hu hu0
            go_wp2_with (go_at_call 106; refine (HC1'.out _).mono ?_; rintro e w' ⟨rfl, rfl⟩)
            go_wp2
            go_roundw
            case rel => exact ⟨t + 1, by omega, by go_num, HRn, HN5, HB.out.setCell hq _, HSn, HGn⟩
            case measure => simp [intOf]; omega
        · obtain rfl : t = m3 := by omega
          have HO5 : Hid (OwnM wr w.heap.size (.slice (some ⟨g, 0, none⟩) t cap2) (M.mk t t (M.midG (M.bestF S t) S (s + 1) 0))) := by
            show OwnM _ _ _ _; rw [← M.midG_row_end]; exact HO.out
          go_wp2
          go_roundw
          case rel => exact ⟨s + 1, by omega, by go_num, HO5, HB, HSm, HG⟩
          case measure => simp [intOf]; omega
    · obtain rfl : s = m3 := by omega
      have HO5 : Hid (OwnM wp w.heap.size (.slice (some ⟨g, 0, none⟩) s cap2) (M.mk s s (M.bestF S s))) := by
        show OwnM _ _ _ _; rw [← M.midG_end]; exact HO.out
      go_wp2
      go_ret
      exact ⟨_, _, rfl, HO5.out.mono HX.out.below.size, HX.out.trans (HB.out.mono (by omega))⟩
end V
end Go.Proofs.Ythonlfjjgmmnpaa

namespace Go.Proofs.Ythonlfjjgmmnpaa
namespace V
open Go.RowKit
theorem smallestCycle0 (a : Option Addr) (n cap : Nat) (R : List (List Int)) (w0 : World) (hq : Sq w0 a n R) :
    Calls Try.prog 41 #[.slice a n cap, .int .i64 0] w0 fun e w' => ∃ b n' c', e = .returned (.slice b n' c') ∧ Own w' w0.heap.size (.slice b n' c') (M.overL (M.ent R) n (-1)) ∧ Below w0.heap.size w0 w' := by
  have h := smallestCycle a n cap R (-1) w0 hq
  rw [show (-1 : Int) + 1 = 0 from by decide] at h
  exact h
end V
end Go.Proofs.Ythonlfjjgmmnpaa

namespace Go.Proofs.Ythonlfjjgmmnpaa
namespace M
def stcM (S : Nat → Nat → Int) (n : Nat) : List (List Int) := mk n n fun i j => ent (mk n n (starF S n)) j i
end M
namespace V
set_option maxRecDepth 100000
open Go.RowKit
set_option maxRecDepth 100000 in
set_option maxHeartbeats 2000000 in
theorem starColumns (a : Option Addr) (n cap : Nat) (R : List (List Int)) (num den : Int) (w0 : World) (h : Mat w0 a n R) (hr : Rect R n n) (n1 : 1 ≤ n) (n2 : n ≤ 10) (hs : ∀ i j, i < n → j < n → M.Sm 1000000 (M.ent R i j)) (hab : M.Near num den) (hp : M.noPos (M.shf (M.ent R) num den) n = true) :
    Calls Try.prog 43 #[.slice a n cap, .agg #[.int .i64 num, .int .i64 den]] w0 (MPost n (M.stcM (M.shf (M.ent R) num den) n) w0) := by
  obtain ⟨w, hwd⟩ : ∃ w, w = w0.alloc (rbox num den) := ⟨_, rfl⟩
  have HX : Hid (Boxed w0 w num den) := by show Boxed _ _ _ _; rw [hwd]; exact boxed _ _ _
  have HA : Hid (Mat w a n R) := h.below HX.out.below
  have HR := Lib.hid hr
  have HS := Lib.hid hs
  have HN := Lib.hid hab
  have HSt := Lib.hid (M.star_shift hp)
  have HSh := Lib.hid (M.sh_sm hs hab)
  obtain ⟨p0, p1⟩ := HX.out.cells (Below.refl _ _)
  have hz := HX.out.size
  clear h hr hs hab hp
  go_enter Try.func43, Try.ntmps43
  go_wp2_with fail
  simp only [← hwd] at *
  clear hwd
  refine (shiftedBy _ _ _ R num den _ HA.out HR.out n1 n2 HS.out HN.out).mono ?_
  rintro e w2 ⟨a2, cap2, rfl, hO, hb⟩
  generalize M.shf (M.ent R) num den = S at *
  have HSq : Hid (Sq w2 a2 n (M.mk n n S)) := ⟨hO.mat, rect_mk _ _ _, fun i j hi hj => by rw [M.ent_mk _ _ _ _ _ hi hj]; exact HSh.out i j hi hj, n1, n2⟩
  have HB2 := Lib.hid (HX.out.below.trans (hb.mono HX.out.below.size))
  clear hO hb p0 p1
  go_wp2_with fail
  refine (starOf _ _ _ (M.mk n n S) _ HSq.out).mono ?_
  rintro e w3 ⟨a3, m3, c3, rfl, hO, hb⟩
  rw [HSt.out] at hO
  have hm3 : m3 = n := by have := hO.len; simpa using this
  subst hm3
  have HO3 := Lib.hid hO
  have HB3 := Lib.hid (HB2.out.trans (hb.mono HB2.out.size))
  rw [HSt.out]
  clear hO hb
  go_wp2_with fail
  refine (transposed _ _ _ m3 (M.mk m3 m3 (M.starF S m3)) _ HO3.out.mat (rect_mk _ _ _) n1 n2 n1 n2).mono ?_
  rintro e w4 ⟨a4, c4, rfl, hO, hb⟩
  have HO4 := Lib.hid (hO.mono HB3.out.size)
  have HB4 := Lib.hid (HB3.out.trans (hb.mono HB3.out.size))
  clear hO hb
  go_wp2
  go_ret
  exact ⟨_, _, rfl, HO4.out, HB4.out⟩
end V
end Go.Proofs.Ythonlfjjgmmnpaa

namespace Go.Proofs.Ythonlfjjgmmnpaa
namespace M
/-- The least number from k on that fits, within so many. -/
def lv (p : Nat → Bool) : Nat → Nat → Nat
  | 0, k => k
  | f + 1, k => if p k then k else lv p f (k + 1)
theorem lv_is {p : Nat → Bool} {m : Nat} (hm : p m = true) (f : Nat) : ∀ k, k ≤ m → m < k + f → (∀ v, k ≤ v → v < m → p v = false) → lv p f k = m := by
  induction f with
  | zero => intro k h1 h2; omega
  | succ f ih =>
    intro k h1 h2 h3
    by_cases e : k = m
    · subst e; show (if p k then k else _) = _; rw [if_pos hm]
    · show (if p k then k else _) = _
      rw [h3 k (Nat.le_refl _) (by omega), if_neg (by simp)]
      exact ih (k + 1) (by omega) (by omega) fun v h4 h5 => h3 v (by omega) h5
theorem lv_ex {p : Nat → Bool} {n : Nat} (h : ∃ m, m < n ∧ p m = true) : p (lv p n 0) = true ∧ lv p n 0 < n ∧ ∀ v, v < lv p n 0 → p v = false := by
  have key : ∀ n, (∃ m, m < n ∧ p m = true) → ∃ m, m < n ∧ p m = true ∧ ∀ v, v < m → p v = false := by
    intro n
    induction n with
    | zero => rintro ⟨m, hm, _⟩; omega
    | succ n ih =>
      rintro ⟨m, hm, hp⟩
      by_cases e : ∃ m, m < n ∧ p m = true
      · obtain ⟨m, h1, h2, h3⟩ := ih e
        exact ⟨m, by omega, h2, h3⟩
      · refine ⟨m, hm, hp, fun v hv => ?_⟩
        cases h : p v with
        | false => rfl
        | true => exact absurd ⟨v, by omega, h⟩ e
  obtain ⟨m, h1, h2, h3⟩ := key n h
  rw [lv_is h2 n 0 (Nat.zero_le _) (by omega) fun v _ hv => h3 v hv]
  exact ⟨h2, h1, h3⟩
/-- Whether a heaviest path with s + 1 arcs goes on from x by v. -/
def stepB (A : Nat → Nat → Int) (n t s x v : Nat) : Bool := decide (times (cpw A n s t v) (A v x) = cpw A n (s + 1) t x)
def nxt (A : Nat → Nat → Int) (n t s x : Nat) : Nat := lv (stepB A n t s x) n 0
/-- The number of arcs. -/
def arcs (A : Nat → Nat → Int) (n f t : Nat) : Nat := lv (fun s => decide (cpw A n s t f = starF A n t f)) 11 0
/-- The nodes of the path. -/
def xs (A : Nat → Nat → Int) (n t s f : Nat) : Nat → Nat
  | 0 => f
  | k + 1 => nxt A n t (s - 1 - k) (xs A n t s f k)
def hvL (A : Nat → Nat → Int) (n t s f : Nat) (k : Nat) : List Int := (List.range k).map fun i => ((xs A n t s f i : Nat) : Int)
def heavyRes (R : List (List Int)) (f t : Int) : List Int × Int :=
  if sqB R then (if inN R.length f && inN R.length t then (if noPos (ent R) R.length then (if starF (ent R) R.length t.toNat f.toNat = -1000000000000000 then ([], 4)
    else (hvL (ent R) R.length t.toNat (arcs (ent R) R.length f.toNat t.toNat) f.toNat (arcs (ent R) R.length f.toNat t.toNat + 1), 0)) else ([], 5)) else ([], 2)) else ([], 1)
theorem hvL_len (A : Nat → Nat → Int) (n t s f k : Nat) : (hvL A n t s f k).length = k := by simp [hvL]
theorem hvL_succ (A : Nat → Nat → Int) (n t s f k : Nat) : hvL A n t s f (k + 1) = hvL A n t s f k ++ [((xs A n t s f k : Nat) : Int)] := by
  unfold hvL; rw [List.range_succ]; simp
theorem hvL_at (A : Nat → Nat → Int) (n t s f k i : Nat) (h : i < k) : (hvL A n t s f k).getD i 0 = ((xs A n t s f i : Nat) : Int) := by
  simp [hvL, h]
theorem lv_le (p : Nat → Bool) (f : Nat) : ∀ k, lv p f k ≤ k + f := by
  induction f with
  | zero => intro k; exact Nat.le_refl _
  | succ f ih =>
    intro k
    show (if p k then k else _) ≤ _
    split
    · omega
    · have := ih (k + 1); omega
theorem heavyRes_len (R : List (List Int)) (f t : Int) : (heavyRes R f t).1.length ≤ 12 := by
  unfold heavyRes
  split
  · split
    · split
      · split
        · simp
        · rw [hvL_len]
          have := lv_le (fun s => decide (cpw (ent R) R.length s t.toNat f.toNat = starF (ent R) R.length t.toNat f.toNat)) 11 0
          unfold arcs
          omega
      · simp
    · simp
  · simp
section
variable {A : Nat → Nat → Int} {n : Nat} (hn : n ≤ 10) (hA : ∀ i j, i < n → j < n → Sm 1000001000000 (A i j))
include hn hA
/-- There is a number of arcs with which the weight in the star is reached. -/
theorem arcs_is (hp : noPos A n = true) {f t : Nat} (hf : f < n) (ht : t < n) (h : starF A n t f ≠ -1000000000000000) :
    cpw A n (arcs A n f t) t f = starF A n t f ∧ arcs A n f t ≤ 10 ∧ ∀ s, s < arcs A n f t → cpw A n s t f ≠ starF A n t f := by
  have hd := o_diag hn hA hp
  have e1 : o (starF A n t f) = obm (fun i j => o (A i j)) n n t f := by
    unfold starF
    rw [← clo_star hn hA hp ht hf, o_cbm hA n (by omega) t f ht hf]
  obtain ⟨s, hs, hle⟩ := opw_star (f := fun i j => o (A i j)) ht hf (by rw [← e1]; exact fun e => h (o_none.1 e))
  have hge := opw_le hd ht hf s
  have e2 := ole_anti hge hle
  rw [← o_cpw hA s (by omega) t f ht hf, ← e1] at e2
  have e3 := o_inj e2
  obtain ⟨h1, h2, h3⟩ := lv_ex (p := fun s => decide (cpw A n s t f = starF A n t f)) (n := 11) ⟨s, by omega, by simpa using e3⟩
  refine ⟨of_decide_eq_true h1, by unfold arcs; omega, fun s hs => ?_⟩
  have := h3 s hs
  simpa using this
end
section
variable {A : Nat → Nat → Int} {n : Nat} (hA : ∀ i j, i < n → j < n → Sm 1000001000000 (A i j))
include hA
/-- A heaviest path with more than no arcs goes on. -/
theorem nxt_is {t s x : Nat} (hs : s ≤ 10) (ht : t < n) (hx : x < n) (h : cpw A n (s + 1) t x ≠ -1000000000000000) :
    nxt A n t s x < n ∧ times (cpw A n s t (nxt A n t s x)) (A (nxt A n t s x) x) = cpw A n (s + 1) t x ∧ ∀ v, v < nxt A n t s x → times (cpw A n s t v) (A v x) ≠ cpw A n (s + 1) t x := by
  have hex : ∃ v, v < n ∧ stepB A n t s x v = true := by
    have e := o_cpw hA (s + 1) (by omega) t x ht hx
    rcases osum_att n (fun u => omul (opw (fun i j => o (A i j)) n s t u) (o (A u x))) with k | ⟨u, hu, k⟩
    · exact absurd (o_none.1 (e.trans k)) h
    · refine ⟨u, hu, ?_⟩
      unfold stepB
      rw [decide_eq_true_eq]
      refine o_inj ?_
      rw [o_times (cpw_sm hA s t u ht hu) (hA u x hu hx) (by omega) (by omega), o_cpw hA s (by omega) t u ht hu]
      exact (e.trans k).symm
  obtain ⟨h1, h2, h3⟩ := lv_ex hex
  refine ⟨h2, of_decide_eq_true h1, fun v hv => ?_⟩
  have := h3 v hv
  simpa [stepB] using this
theorem nxt_fin {t s x : Nat} (hs : s ≤ 10) (ht : t < n) (hx : x < n) (h : cpw A n (s + 1) t x ≠ -1000000000000000) :
    cpw A n s t (nxt A n t s x) ≠ -1000000000000000 ∧ A (nxt A n t s x) x ≠ -1000000000000000 := by
  obtain ⟨h1, h2, -⟩ := nxt_is hA hs ht hx h
  refine ⟨fun e => h ?_, fun e => h ?_⟩
  · rw [← h2, e, bot_times]
  · rw [← h2, e, times_bot]
/-- Along the path the rest stays a heaviest one. -/
theorem xs_inv {t s f : Nat} (hs : s ≤ 10) (ht : t < n) (hf : f < n) (h : cpw A n s t f ≠ -1000000000000000) (k : Nat) (hk : k ≤ s) :
    xs A n t s f k < n ∧ cpw A n (s - k) t (xs A n t s f k) ≠ -1000000000000000 := by
  induction k with
  | zero => exact ⟨hf, h⟩
  | succ k ih =>
    obtain ⟨h1, h2⟩ := ih (by omega)
    have e : s - k = s - 1 - k + 1 := by omega
    rw [e] at h2
    show nxt A n t (s - 1 - k) (xs A n t s f k) < n ∧ cpw A n (s - (k + 1)) t (nxt A n t (s - 1 - k) (xs A n t s f k)) ≠ _
    rw [show s - (k + 1) = s - 1 - k by omega]
    exact ⟨(nxt_is hA (by omega) ht h1 h2).1, (nxt_fin hA (by omega) ht h1 h2).1⟩
/-- What is left of the weight. -/
theorem xs_need {t s f : Nat} (hs : s ≤ 10) (ht : t < n) (hf : f < n) (h : cpw A n s t f ≠ -1000000000000000) (k : Nat) (hk : k < s) :
    cpw A n (s - (k + 1)) t (xs A n t s f (k + 1)) = cpw A n (s - k) t (xs A n t s f k) - A (xs A n t s f (k + 1)) (xs A n t s f k) := by
  obtain ⟨h1, h2⟩ := xs_inv hA hs ht hf h k (by omega)
  have e : s - k = s - 1 - k + 1 := by omega
  rw [e] at h2
  have h3 := (nxt_is hA (by omega) ht h1 h2).2.1
  have h4 := nxt_fin hA (by omega) ht h1 h2
  rw [show s - (k + 1) = s - 1 - k by omega, e]
  show cpw A n (s - 1 - k) t (nxt A n t (s - 1 - k) (xs A n t s f k)) = _ - A (nxt A n t (s - 1 - k) (xs A n t s f k)) _
  unfold times at h3
  rw [if_neg (by rintro (e | e); exact h4.1 e; exact h4.2 e)] at h3
  omega
theorem xs_end {t s f : Nat} (hs : s ≤ 10) (ht : t < n) (hf : f < n) (h : cpw A n s t f ≠ -1000000000000000) : xs A n t s f s = t := by
  obtain ⟨h1, h2⟩ := xs_inv hA hs ht hf h s (Nat.le_refl _)
  rw [Nat.sub_self] at h2
  have h2 : unit t (xs A n t s f s) ≠ -1000000000000000 := h2
  unfold unit at h2
  split at h2
  · next e => exact e.symm
  · exact absurd rfl h2
end
end M
end Go.Proofs.Ythonlfjjgmmnpaa
