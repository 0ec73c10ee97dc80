/- Texts laid together: Sup, Draw1, Draw2. -/
import Derived.Test.YthonlfjjgmmnpabQd22
import Derived.Test.YthonlfjjgmmnpabRows
import Derived.Test.YthonlfjjgmmnpabQd1
import Derived.Test.YthonlfjjgmmnpabQd2
import Derived.WalkKit
import Derived.ProofKit
import Derived.WalkSmall
import Derived.Deep.QuietTactic
import Derived.BigQuiet
import Derived.BigRegion
import Derived.Deep.Draws
import Derived.Deep.OwnRows
import Derived.Lib.Hide
namespace Go.Proofs.Ythonlfjjgmmnpab
namespace V
set_option maxRecDepth 100000
open Go.RowKit
set_option maxRecDepth 100000 in
set_option maxHeartbeats 4000000 in
theorem sUpstreamMean (a : Option Addr) (n cap : Nat) (R : List (List Int)) (x : Int) (w : World) (h : Mat w a n R) :
    Calls Try.prog 27 #[.slice a n cap, .int .i64 x] w fun e w' => e = .returned (.tuple #[.agg #[.int .i64 (M.upRes R x).1.1, .int .i64 (M.upRes R x).1.2], .int .i64 (M.upRes R x).2]) ∧ Below w.heap.size w w' := by
  have HA := Lib.hid h
  have HRn := Lib.hid h.1
  have HB0 : Hid (∀ qd, Below (w.alloc (.cells #[.int .i64 0, .int .i64 0] 27)).heap.size (w.alloc (.cells #[.int .i64 0, .int .i64 0] 27)) ((w.alloc (.cells #[.int .i64 0, .int .i64 0] 27)).drewN qd)) := fun qd => b_draws _ _
  have HA0 : Hid (∀ qd, Below w.heap.size w ((w.alloc (.cells #[.int .i64 0, .int .i64 0] 27)).drewN qd)) := fun qd => (b_alloc w _).trans ((HB0.out qd).mono (by simp))
  by_cases hs : M.sqB R = true
  · have HS := Lib.hid hs
    have HQ := Lib.hid (sq_of h hs)
    obtain ⟨n1, n2⟩ := (sq_of h hs).2.2.2
    obtain ⟨c, hc⟩ : ∃ c, c = M.inN n x := ⟨_, rfl⟩
    have HC := Lib.hid hc.symm
    cases c with
    | true =>
      obtain ⟨k, hk, rfl⟩ := M.inN_j hc.symm
      have hki2 : (k : Int) < (n : Int) := by omega
      obtain ⟨r, hr⟩ : ∃ r, r = M.cycMeanRes (M.mk n n (M.upF2 (M.ent R) n k)) := ⟨_, rfl⟩
      have HR := Lib.hid hr.symm
      have HE : Hid (M.upRes R k = r) := by
        show _ = _
        have := M.up_both hs k
        rw [h.1] at this
        unfold M.upRes
        rw [if_pos hs, h.1, ← hc, if_pos rfl, hr, this]; rfl
      have HRe : Hid (M.mk n n (M.midG (M.upF2 (M.ent R) n k) (M.ent R) 0 0) = R) := by
        show _ = _
        rw [M.midG_zero]
        have e := M.mk_self R n (fun i hi => HQ.out.2.1.2 i (by rw [← HQ.out.2.1.1]; exact hi))
        rw [h.1] at e
        exact e
      clear h hs hc hr
      obtain ⟨⟨r1, r2⟩, r3⟩ := r
      obtain ⟨ab, aoff, -, -, rfl, -, -⟩ := HQ.out.1.rect_first HQ.out.2.1 n1
      go_enter Try.func27, Try.ntmps27
      go_wp2_with fail
      refine (sSquare_b _ _ _ R _ true HS.out (HA.out.below (b_alloc _ _))).mono ?_
      rintro e w' ⟨rfl, qd, rfl⟩
      go_wp2_with fail
      refine (sNode_b _ _ _ (k : Int) _ true HC.out (by omega)).mono ?_
      rintro e w' ⟨rfl, rfl⟩
      go_wp2_with fail
      refine (sReach _ _ _ R _ (HQ.out.below (HA0.out qd))).mono ?_
      rintro e w1 ⟨tb, tc, rfl, htb, hb⟩
      obtain ⟨tg, -, rfl, -, -⟩ := htb.at 0 0 n1 n1
      have HT1 := Lib.hid htb
      have HB1 := Lib.hid ((HB0.out qd).trans (hb.mono (HB0.out qd).size))
      have HM1 := Lib.hid (HA.out.below ((HA0.out qd).trans (hb.mono (HA0.out qd).size)))
      clear htb hb
      go_wp2_with fail
      refine (sOwnM _ _ _ R _ HM1.out (by omega) (fun i hi => by rw [HQ.out.2.1.2 i hi]; omega)).mono ?_
      rintro e w2 ⟨a2, cap2, rfl, hO, hb⟩
      rw [← HRe.out] at hO
      obtain ⟨g, -, -, -, -, rfl, -⟩ := hO.tri (rect_mk _ _ _) 0 0 0 (by omega) (by omega) (by omega)
      have HO0 := Lib.hid hO
      have HBo := Lib.hid hb
      clear hO hb
      go_wp2
      go_loopw [8, 9] (fun i _ wr => ∃ s : Nat, s ≤ n ∧ i = .int .i64 s ∧ Hid (OwnM wr w1.heap.size (.slice (some ⟨g, 0, none⟩) n cap2) (M.mk n n (M.midG (M.upF2 (M.ent R) n k) (M.ent R) s 0))) ∧ Hid (Below w1.heap.size w1 wr)) (fun i _ _ => n - (intOf i).toNat)
      case atStart => exact ⟨0, Nat.zero_le _, rfl, HO0, HBo⟩
      case round =>
        clear HO0 HBo
        obtain ⟨s, hs, rfl, HO, HB⟩ := hrel
        by_cases hsl : s < n
        · have hsi : (s : Int) < (n : Int) := by omega
          go_wp2
          go_loopw [9] (fun i wr => ∃ t : Nat, t ≤ n ∧ i = .int .i64 t ∧ Hid (OwnM wr w1.heap.size (.slice (some ⟨g, 0, none⟩) n cap2) (M.mk n n (M.midG (M.upF2 (M.ent R) n k) (M.ent R) s t))) ∧ Hid (Below w1.heap.size w1 wr)) (fun i _ => n - (intOf i).toNat)
          case atStart => exact ⟨0, Nat.zero_le _, rfl, HO, HB⟩
          case round =>
            clear HO HB
            obtain ⟨t, ht, rfl, HO, HB⟩ := hrel
            by_cases htl : t < n
            · have hti : (t : Int) < (n : Int) := by omega
              obtain ⟨g1, q1, e1, r1', r2'⟩ := (HT1.out.below HB.out).at s k hsl hk
              injection e1 with e1
              injection e1 with e1
              subst e1
              obtain ⟨g1, q2, e1, r3', r4'⟩ := (HT1.out.below HB.out).at t k htl hk
              injection e1 with e1
              injection e1 with e1
              subst e1
              obtain ⟨g2, q3, c3, -, -, hgg, hq, h1, h2, -, -, -, h6, ho⟩ := HO.out.tri (rect_mk _ _ _) s t t hsl htl htl
              injection hgg with hgg
              injection hgg with hgg
              subst hgg
              obtain ⟨u, hu⟩ : ∃ u, u = M.rchB (M.ent R) n s k := ⟨_, rfl⟩
              obtain ⟨y, hy⟩ : ∃ y, y = M.rchB (M.ent R) n t k := ⟨_, rfl⟩
              rw [← hu] at r2'
              rw [← hy] at r4'
              have hf : M.upF2 (M.ent R) n k s t = if u && y then M.ent R s t else -1000000000000000 := by unfold M.upF2; rw [hu, hy]
              by_cases huy : (u && y) = true
              · rw [Bool.and_eq_true] at huy
                obtain ⟨rfl, rfl⟩ := huy
                have HO2 : Hid (OwnM wr w1.heap.size (.slice (some ⟨g, 0, none⟩) n cap2) (M.mk n n (M.midG (M.upF2 (M.ent R) n k) (M.ent R) s (t + 1)))) := by
                  show OwnM _ _ _ _; rw [← M.midG_same _ _ _ _ _ hf]; exact HO.out
                clear ho hf hu hy h2
                go_wp2
                go_roundw
                case rel => exact ⟨t + 1, by omega, by go_num, HO2, HB⟩
                case measure => simp [intOf]; omega
              · rw [if_neg huy] at hf
                have hN := ho (-1000000000000000)
                rw [← hf, M.midG_next _ _ _ _ _ hsl, hf] at hN
                have HN := Lib.hid hN
                have HBn := Lib.hid (HB.out.setCell (p := ⟨q3, t, none⟩) hq (.int .i64 (-1000000000000000)))
                clear ho hf hu hy hN
                cases u with
                | false =>
                  clear huy
                  go_wp2
                  go_roundw
                  case rel => exact ⟨t + 1, by omega, by go_num, HN, HBn⟩
                  case measure => simp [intOf]; omega
                | true =>
                  cases y with
                  | true => exact absurd rfl huy
                  | false =>
                    clear huy
                    go_wp2
                    go_roundw
                    case rel => exact ⟨t + 1, by omega, by go_num, HN, HBn⟩
                    case measure => simp [intOf]; omega
            · obtain rfl : t = n := by omega
              have HO2 : Hid (OwnM wr w1.heap.size (.slice (some ⟨g, 0, none⟩) t cap2) (M.mk t t (M.midG (M.upF2 (M.ent R) t k) (M.ent R) (s + 1) 0))) := by
                show OwnM _ _ _ _; rw [← M.midG_row_end]; exact HO.out
              go_wp2
              go_roundw
              case rel => exact ⟨s + 1, by omega, by go_num, HO2, HB⟩
              case measure => simp [intOf]; omega
        · obtain rfl : s = n := by omega
          have HO2 : Hid (OwnM wr w1.heap.size (.slice (some ⟨g, 0, none⟩) s cap2) (M.mk s s (M.upF2 (M.ent R) s k))) := by
            show OwnM _ _ _ _; rw [← M.midG_end]; exact HO.out
          go_wp2_with fail
          refine (sCycleMean _ _ _ _ _ HO2.out.mat).mono ?_
          rintro e w3 ⟨rfl, hb⟩
          rw [HR.out]
          have hb1 := HB1.out.trans ((HB.out.trans (hb.mono HB.out.size)).mono HB1.out.size)
          have hz := hb1.size
          simp at hz
          obtain ⟨hcc, hff⟩ := bcell hb1
          have z1 : w.heap.size < w3.heap.size := by omega
          clear hb
          go_wp2
          exact bodyPost_ret (v := .tuple #[.agg #[.int .i64 r1, .int .i64 r2], .int .i64 r3]) (by simp [results, Try.results27, go_sem, z1, hcc]) rfl ⟨by rw [HE.out], bel1s hb1⟩
    | false =>
      have HE : Hid (M.upRes R x = ((0, 0), 2)) := by
        show _ = _
        unfold M.upRes
        rw [if_pos hs, h.1, ← hc]; rfl
      clear h hs hc
      go_enter Try.func27, Try.ntmps27
      go_wp2_with fail
      refine (sSquare_b _ _ _ R _ true HS.out (HA.out.below (b_alloc _ _))).mono ?_
      rintro e w' ⟨rfl, qd, rfl⟩
      go_wp2_with fail
      refine (sNode_b _ _ _ x _ false HC.out (by omega)).mono ?_
      rintro e w' ⟨rfl, rfl⟩
      go_wp2
      exact bodyPost_ret (v := .tuple #[.agg #[.int .i64 0, .int .i64 0], .int .i64 2]) (by simp [results, Try.results27, go_sem]) rfl ⟨by rw [HE.out], bel1s (b_draws _ _)⟩
  · simp only [Bool.not_eq_true] at hs
    have HS := Lib.hid hs
    have HE : Hid (M.upRes R x = ((0, 0), 1)) := by show _ = _; unfold M.upRes; rw [hs]; rfl
    clear h hs
    go_enter Try.func27, Try.ntmps27
    go_wp2_with fail
    refine (sSquare_b _ _ _ R _ false HS.out (HA.out.below (b_alloc _ _))).mono ?_
    rintro e w' ⟨rfl, qd, rfl⟩
    go_wp2
    exact bodyPost_ret (v := .tuple #[.agg #[.int .i64 0, .int .i64 0], .int .i64 1]) (by simp [results, Try.results27, go_sem]) rfl ⟨by rw [HE.out], bel1s (b_draws _ _)⟩
end V
end Go.Proofs.Ythonlfjjgmmnpab

namespace Go.Proofs.Ythonlfjjgmmnpab.V
open Go.RowKit

/-- The three cells of a source: the code, the place, the seed. -/
def srcF (a : Option Addr) (n cap t : Nat) (s : Int) : Nat → Value
  | 0 => .slice a n cap
  | 1 => .int .i64 t
  | _ => .int .i64 s

/-- The code of a source: bytes that lie below block g. -/
def CodeAt (w : World) (g : Nat) (a : Option Addr) (n : Nat) : Prop :=
  n ≤ maxLen ∧ (n = 0 ∨ ∃ b off, a = some ⟨b, off, none⟩ ∧ b < g ∧ ∀ i, i < n → ∃ x : Int, 0 ≤ x ∧ x ≤ 255 ∧ w.cell? ⟨b, off + i, none⟩ = some (.int .u8 x))

/-- Block g is a source. -/
def Src (w : World) (g : Nat) : Prop := ∃ (a : Option Addr) (n cap t : Nat) (s : Int),
  w.rowIs g 86 3 (srcF a n cap t s) ∧ CodeAt w g a n ∧ t ≤ n ∧ 0 ≤ s ∧ s < 2147483647

/-- Only block g may have changed; blocks may have been added. -/
structure Thr (g : Nat) (w w' : World) : Prop where
  below : Below g w w'
  other : ∀ k, g < k → k < w.heap.size → w'.heap[k]? = w.heap[k]?

theorem Thr.refl (g : Nat) (w : World) : Thr g w w := ⟨Below.refl _ _, fun _ _ _ => rfl⟩
theorem Thr.trans {g : Nat} {a b c : World} (h : Thr g a b) (k : Thr g b c) : Thr g a c :=
  ⟨h.below.trans k.below, fun i h1 h2 => (k.other i h1 (Nat.lt_of_lt_of_le h2 h.below.size)).trans (h.other i h1 h2)⟩
theorem Thr.drew {g : Nat} {a b : World} (h : Thr g a b) : Thr g a b.drew := ⟨h.below.drew, h.other⟩
theorem Thr.drewN {g : Nat} {a b : World} (h : Thr g a b) (n : Nat) : Thr g a (b.drewN n) := ⟨below_drewN h.below n, h.other⟩
theorem Thr.setCell {g : Nat} {a b : World} (h : Thr g a b) {i : Nat} (v : Value) : Thr g a (b.setCell ⟨g, i, none⟩ v) :=
  ⟨h.below.setCell (Nat.le_refl _) v, fun k h1 h2 => (Below.heap_setCell _ _ _ _ (by show k ≠ g; omega)).trans (h.other k h1 h2)⟩
theorem Thr.cell {g : Nat} {w w' : World} (h : Thr g w w') {p : Addr} (hp : p.block < w.heap.size) (hne : p.block ≠ g) : w'.cell? p = w.cell? p := by
  by_cases hlt : p.block < g
  · exact h.below.cell hlt
  · exact World.cell?_of_block (w := w) (h.other _ (by omega) hp)

theorem CodeAt.below {w w' : World} {g : Nat} {a : Option Addr} {n : Nat} (h : CodeAt w g a n) (hb : Below g w w') : CodeAt w' g a n := by
  obtain ⟨h1, h2⟩ := h
  refine ⟨h1, ?_⟩
  rcases h2 with h2 | ⟨b, off, rfl, hlt, hc⟩
  · exact .inl h2
  · refine .inr ⟨b, off, rfl, hlt, fun i hi => ?_⟩
    obtain ⟨x, x1, x2, hx⟩ := hc i hi
    exact ⟨x, x1, x2, by rw [hb.cell (p := ⟨b, off + i, none⟩) hlt]; exact hx⟩

theorem Src.below {w w' : World} {g : Nat} (h : Src w g) (hb : Below (g + 1) w w') : Src w' g := by
  obtain ⟨a, n, cap, t, s, h1, h2, h3⟩ := h
  exact ⟨a, n, cap, t, s, h1.of_block (hb.block g (by omega)), h2.below (hb.mono (by omega)), h3⟩
theorem Src.lt {w : World} {g : Nat} (h : Src w g) : g < w.heap.size := by
  obtain ⟨a, n, cap, t, s, h1, h2, h3⟩ := h
  exact h1.lt
theorem Src.drew {w : World} {g : Nat} (h : Src w g) : Src w.drew g := h

/-- What a drawn number is. -/
def NextPost (g : Nat) (n : Int) (w : World) (e : Ending) (w' : World) : Prop :=
  ∃ x : Int, e = .returned (.int .i64 x) ∧ 0 ≤ x ∧ (x < n ∨ x = 0) ∧ Src w' g ∧ Thr g w w'

theorem mod_lt (x n : Int) (hx : 0 ≤ x) (hn : 1 < n) : 0 ≤ x % n ∧ (x % n < n ∨ x % n = 0) :=
  ⟨Int.emod_nonneg _ (by omega), .inl (Int.emod_lt_of_pos _ (by omega))⟩

theorem rowIs_seed {w : World} {g T : Nat} {a : Option Addr} {n cap t : Nat} {s : Int} (h : w.rowIs g T 3 (srcF a n cap t s)) (s' : Int) : (w.setCell ⟨g, 2, none⟩ (.int .i64 s')).rowIs g T 3 (srcF a n cap t s') :=
  (h.set 2 _).congr (fun i hi => by
    match i, hi with
    | 0, _ => rfl
    | 1, _ => rfl
    | 2, _ => rfl)
theorem rowIs_at {w : World} {g T : Nat} {a : Option Addr} {n cap t : Nat} {s : Int} (h : w.rowIs g T 3 (srcF a n cap t s)) (t' : Nat) (v : Int) (hv : v = (t' : Int)) : (w.setCell ⟨g, 1, none⟩ (.int .i64 v)).rowIs g T 3 (srcF a n cap t' s) :=
  (h.set 1 _).congr (fun i hi => by
    subst hv
    match i, hi with
    | 0, _ => rfl
    | 1, _ => rfl
    | 2, _ => rfl)

theorem next_fin {g : Nat} {n : Int} {w w2 : World} {a : Option Addr} {m cap t : Nat} {s x : Int} (hn : 1 < n) (hx : 0 ≤ x) (hrow : w2.rowIs g 86 3 (srcF a m cap t s)) (hc : CodeAt w g a m) (ht : t ≤ m) (s1 : 0 ≤ s) (s2 : s < 2147483647)
    (hthr : Thr g w w2) : NextPost g n w (.returned (.int .i64 (x % n))) w2 :=
  ⟨_, rfl, (mod_lt x n hx hn).1, (mod_lt x n hx hn).2, ⟨a, m, cap, t, s, hrow, hc.below hthr.below, ht, s1, s2⟩, hthr⟩

set_option maxRecDepth 100000 in
set_option maxHeartbeats 1000000 in
theorem next (g : Nat) (n : Int) (w : World) (wn : (Lit.int .i64 n).wf = true) (h : Src w g) :
    Calls Try.prog 48 #[.pointer (some ⟨g, 0, none⟩), .int .i64 n] w (NextPost g n w) := by
  by_cases hn : n ≤ 1
  · go_enter Try.func48, Try.ntmps48
    go_wp2
    go_ret
    exact ⟨0, rfl, by omega, .inr rfl, h, Thr.refl _ _⟩
  · obtain ⟨a, m, cap, t, s, hrow, hcode, ht, s1, s2⟩ := h
    have c0 : w.cell? ⟨g, 0, none⟩ = some (.slice a m cap) := hrow.cell (i := 0) (by omega)
    have c1 : w.cell? ⟨g, 1, none⟩ = some (.int .i64 t) := hrow.cell (i := 1) (by omega)
    have c2 : w.cell? ⟨g, 2, none⟩ = some (.int .i64 s) := hrow.cell (i := 2) (by omega)
    have f0 := hrow.frozen 0
    have f1 := hrow.frozen 1
    have f2 := hrow.frozen 2
    have HCODE := Lib.hid hcode
    obtain ⟨hm, hcode⟩ := hcode
    unfold maxLen at hm
    have HR := Lib.hid hrow
    clear hrow
    have hn' : 1 < n := by omega
    have r1 : 0 ≤ (s * 48271 + 59) % 2147483647 := Int.emod_nonneg _ (by omega)
    have r2 : (s * 48271 + 59) % 2147483647 < 2147483647 := Int.emod_lt_of_pos _ (by omega)
    by_cases htm : t < m
    · rcases hcode with h0 | ⟨b, off, rfl, hbg, hc⟩
      · omega
      obtain ⟨x, x1, x2, hcx⟩ := hc t htm
      clear hc
      have hne : ¬ b = g := by omega
      have hti : (t : Int) < (m : Int) := by omega
      have ht0 : 0 ≤ (t : Int) + 1 := by omega
      have hq : 0 ≤ (s * 48271 + 59) % 2147483647 / 31 := Int.ediv_nonneg r1 (by omega)
      have HC : Hid (CodeAt w g (some ⟨b, off, none⟩) m) := HCODE
      clear HCODE
      by_cases h256 : n ≤ 256
      · by_cases hev : ((t : Int) + 1) % 2 = 0
        · have hev' : (((t : Int) + 1) % 2 == 0) = true := by simpa using hev
          clear hev
          go_enter Try.func48, Try.ntmps48
          go_wp2
          go_quiet (fail)
          go_wp2
          go_quiet (fail)
          go_wp2
          go_quiet (fail)
          go_wp2
          go_ret
          exact next_fin hn' x1 (rowIs_at (w := (w.setCell ⟨g, 2, none⟩ (.int .i64 ((s * 48271 + 59) % 2147483647))).drewN _) (rowIs_seed HR.out _) (t + 1) _ (by omega)) HC.out (by omega) r1 r2 (((((Thr.refl g w).setCell _).drewN _).setCell _).drewN _)
        · have hev' : (((t : Int) + 1) % 2 == 0) = false := by simpa using hev
          clear hev
          go_enter Try.func48, Try.ntmps48
          go_wp2
          go_quiet (fail)
          go_wp2
          go_quiet (fail)
          go_wp2
          go_ret
          exact next_fin hn' (by omega) (rowIs_at (w := (w.setCell ⟨g, 2, none⟩ (.int .i64 ((s * 48271 + 59) % 2147483647))).drewN _) (rowIs_seed HR.out _) (t + 1) _ (by omega)) HC.out (by omega) r1 r2 ((((Thr.refl g w).setCell _).drewN _).setCell _)
      · go_enter Try.func48, Try.ntmps48
        go_wp2
        go_quiet (fail)
        go_wp2
        go_quiet (fail)
        go_wp2
        go_ret
        exact next_fin hn' (by omega) (rowIs_at (w := (w.setCell ⟨g, 2, none⟩ (.int .i64 ((s * 48271 + 59) % 2147483647))).drewN _) (rowIs_seed HR.out _) (t + 1) _ (by omega)) HC.out (by omega) r1 r2 ((((Thr.refl g w).setCell _).drewN _).setCell _)
    · obtain rfl : t = m := by omega
      have hq : 0 ≤ (s * 48271 + 59) % 2147483647 / 31 := Int.ediv_nonneg r1 (by omega)
      have HC : Hid (CodeAt w g a t) := HCODE
      clear HCODE hcode
      go_enter Try.func48, Try.ntmps48
      go_wp2
      go_quiet (fail)
      go_wp2
      go_ret
      exact next_fin hn' (by omega) (rowIs_seed HR.out _) HC.out (by omega) r1 r2 (((Thr.refl g w).setCell _).drewN _)
end Go.Proofs.Ythonlfjjgmmnpab.V

namespace Go.Proofs.Ythonlfjjgmmnpab.V
open Go.RowKit

theorem wf_small (n : Int) (a : -1000000000000000000 ≤ n) (b : n ≤ 1000000000000000000) : (Lit.int .i64 n).wf = true := by
  show (decide (IntKind.i64.min ≤ n) && decide (n ≤ IntKind.i64.max)) = true
  rw [Bool.and_eq_true]
  constructor <;> apply decide_eq_true
  · show (-9223372036854775808 : Int) ≤ n
    omega
  · show n ≤ (9223372036854775807 : Int)
    omega

/-- A slice of bytes that came in. -/
def Bytes (w : World) (a : Option Addr) (n : Nat) : Prop := CodeAt w w.heap.size a n

theorem IsRow.bytes {w : World} {a : Option Addr} {len cap : Nat} {zs : List Int} (h : IsRow .u8 w a len cap zs) : Bytes w a len := by
  rcases h with ⟨rfl, rfl, rfl, rfl⟩ | ⟨x, rfl, hl, hm, hz, hcell, hwf⟩
  · exact ⟨Nat.zero_le _, .inl rfl⟩
  · refine ⟨by omega, ?_⟩
    by_cases h0 : len = 0
    · exact .inl h0
    · obtain ⟨b, off, rfl, hc⟩ := ints_at hcell (by omega)
      refine .inr ⟨b, off, rfl, cell_lt (hc 0 (by omega)), fun i hi => ?_⟩
      have hx : zs.getD i 0 ∈ zs := by
        rw [List.getD_eq_getElem?_getD, List.getElem?_eq_getElem (by omega)]
        simp
      have := bounds_u8 (hwf _ hx)
      exact ⟨_, this.1, this.2, hc i (by omega)⟩

theorem Bytes.below {w w' : World} {a : Option Addr} {n : Nat} (h : Bytes w a n) (hb : Below w.heap.size w w') : Bytes w' a n := by
  have h2 := CodeAt.below h hb
  obtain ⟨h1, h3⟩ := h2
  refine ⟨h1, ?_⟩
  rcases h3 with h3 | ⟨b, off, rfl, hlt, hc⟩
  · exact .inl h3
  · exact .inr ⟨b, off, rfl, by have := hb.size; omega, hc⟩

set_option maxRecDepth 100000 in
set_option maxHeartbeats 1000000 in
theorem from_ (a : Option Addr) (n cap : Nat) (w : World) (h : Bytes w a n) :
    Calls Try.prog 34 #[.slice a n cap] w fun e w' => e = .returned (.pointer (some ⟨w.heap.size, 0, none⟩)) ∧ Src w' w.heap.size ∧ Below w.heap.size w w' := by
  have HB := Lib.hid h
  obtain ⟨hm, hcode⟩ := h
  unfold maxLen at hm
  go_enter Try.func34, Try.ntmps34
  go_wp2
  have hst : (w.alloc (.cells #[.slice a n cap, .int .i64 0, .int .i64 61403] 86)).rowIs w.heap.size 86 3 (srcF a n cap 0 61403) :=
    World.rowIs_alloc w _ _ _ (fun i hi => by
      match i, hi with
      | 0, _ => rfl
      | 1, _ => rfl
      | 2, _ => rfl)
  have HST := Lib.hid hst
  clear hst
  go_loopw [4] (fun i wr => ∃ k : Nat, ∃ s : Int, k ≤ n ∧ i = .int .i64 k ∧ 0 ≤ s ∧ s < 2147483647 ∧ wr.rowIs w.heap.size 86 3 (srcF a n cap 0 s) ∧ Below w.heap.size w wr) (fun i _ => n - (intOf i).toNat)
  case atStart => exact ⟨0, 61403, Nat.zero_le _, rfl, by omega, by omega, HST.out, b_alloc _ _⟩
  case round =>
    obtain ⟨k, s, hk, rfl, s1, s2, hrow, hb⟩ := hrel
    clear HST
    by_cases hlt : k < n ∧ k < 64
    · obtain ⟨hlt, h64⟩ := hlt
      rcases hcode with h0 | ⟨b, off, rfl, hbl, hc⟩
      · omega
      obtain ⟨x, x1, x2, hx⟩ := hc k hlt
      have hx' : wr.cell? ⟨b, off + k, none⟩ = some (.int .u8 x) := by rw [hb.cell (p := ⟨b, off + k, none⟩) hbl]; exact hx
      have c2 : wr.cell? ⟨w.heap.size, 2, none⟩ = some (.int .i64 s) := hrow.cell (i := 2) (by omega)
      have f2 := hrow.frozen 2
      have HR := Lib.hid hrow
      have HBW := Lib.hid hb
      clear hc hx hrow hb
      have r1 : 0 ≤ (s * 67 + x) % 2147483647 := Int.emod_nonneg _ (by omega)
      have r2 : (s * 67 + x) % 2147483647 < 2147483647 := Int.emod_lt_of_pos _ (by omega)
      have hki : (k : Int) < (n : Int) := by omega
      have hkj : (k : Int) < 64 := by omega
      go_wp2
      go_region
      go_wp2
      go_roundw
      case rel => exact ⟨k + 1, (s * 67 + x) % 2147483647, by omega, by go_num, r1, r2, rowIs_seed HR.out _, (HBW.out.setCell (Nat.le_refl _) _).drew⟩
      case measure => simp [intOf]; omega
    · have HR := Lib.hid hrow
      have HBW := Lib.hid hb
      clear hrow hb hcode
      by_cases hlt2 : k < n
      · have h64 : ¬ ((k : Int) < 64) := by omega
        have h64' : decide ((k : Int) < 64) = false := by simpa using h64
        clear hlt h64
        go_wp2
        go_ret
        exact ⟨rfl, ⟨a, n, cap, 0, s, HR.out, (CodeAt.below HB.out HBW.out), Nat.zero_le _, s1, s2⟩, HBW.out⟩
      · have hkn : k = n := by omega
        subst hkn
        clear hlt hlt2
        go_wp2
        go_ret
        exact ⟨rfl, ⟨a, k, cap, 0, s, HR.out, (CodeAt.below HB.out HBW.out), Nat.zero_le _, s1, s2⟩, HBW.out⟩

/-- What a picked number is: one of the list. -/
def PickPost (g : Nat) (w : World) (e : Ending) (w' : World) : Prop :=
  ∃ x : Int, e = .returned (.int .i64 x) ∧ (Lit.int .i64 x).wf = true ∧ Src w' g ∧ Thr g w w'

set_option maxRecDepth 100000 in
set_option maxHeartbeats 1000000 in
theorem pick (g b off n cap : Nat) (w : World) (h : Src w g) (hn : 0 < n) (hm : n ≤ 100) (hbg : g < b) (hc : ∀ i, i < n → ∃ x : Int, (Lit.int .i64 x).wf = true ∧ w.cell? ⟨b, off + i, none⟩ = some (.int .i64 x)) :
    Calls Try.prog 65 #[.pointer (some ⟨g, 0, none⟩), .slice (some ⟨b, off, none⟩) n cap] w (PickPost g w) := by
  have hbl : b < w.heap.size := by obtain ⟨x, _, hx⟩ := hc 0 hn; exact cell_lt hx
  have hwf : (Lit.int .i64 (n : Int)).wf = true := wf_small _ (by omega) (by omega)
  go_enter Try.func65, Try.ntmps65
  go_wp2_with fail
  refine (next _ _ _ hwf h).mono ?_
  rintro e w1 ⟨x, rfl, hx1, hx2, hs, ht⟩
  obtain ⟨k, rfl⟩ := Int.eq_ofNat_of_zero_le hx1
  have hk : k < n := by omega
  obtain ⟨y, hy, hcy⟩ := hc k hk
  have hcy' : w1.cell? ⟨b, off + k, none⟩ = some (.int .i64 y) := by rw [ht.cell (p := ⟨b, off + k, none⟩) hbl (by show b ≠ g; omega)]; exact hcy
  have hki : (k : Int) < (n : Int) := by omega
  have HT := Lib.hid ht
  have HS := Lib.hid hs
  clear hc hcy ht hs hx2
  go_wp2
  go_ret
  exact ⟨y, rfl, hy, HS.out, HT.out⟩

theorem litCells (w : World) (l : List Int) (vs : Array Value) (T : Nat) (hv : vs = (l.map (Value.int .i64)).toArray) (hw : l.all (fun x => (Lit.int .i64 x).wf) = true) :
    ∀ i, i < l.length → ∃ x : Int, (Lit.int .i64 x).wf = true ∧ (w.alloc (.cells vs T)).cell? ⟨w.heap.size, 0 + i, none⟩ = some (.int .i64 x) := by
  intro i hi
  refine ⟨l[i], ?_, ?_⟩
  · exact List.all_eq_true.1 hw _ (List.getElem_mem hi)
  · subst hv
    have e : (w.alloc (.cells (l.map (Value.int .i64)).toArray T)).heap[w.heap.size]? = some (.cells (l.map (Value.int .i64)).toArray T (0, 0)) := by
      show (w.heap.push _)[w.heap.size]? = _
      simp
    simp only [World.cell?, e]
    simp [hi]
theorem Thr.alloc {g : Nat} {a b : World} (h : Thr g a b) (hg : g ≤ b.heap.size) (o : Obj) : Thr g a (b.alloc o) :=
  ⟨h.below.alloc hg o, fun k h1 h2 => (Below.heap_alloc _ _ _ (by have := h.below.size; omega)).trans (h.other k h1 h2)⟩
theorem Src.alloc {w : World} {g : Nat} (h : Src w g) (o : Obj) : Src (w.alloc o) g := h.below ((Below.refl _ _).alloc (by have := h.lt; omega) _)

/-- What a drawn value is: an integer. -/
def ValPost (g : Nat) (w : World) (e : Ending) (w' : World) : Prop :=
  ∃ x : Int, e = .returned (.int .i64 x) ∧ (Lit.int .i64 x).wf = true ∧ Src w' g ∧ Thr g w w'

set_option maxRecDepth 100000 in
set_option maxHeartbeats 1000000 in
theorem drawValue (g : Nat) (w : World) (h : Src w g) :
    Calls Try.prog 123 #[.pointer (some ⟨g, 0, none⟩)] w (ValPost g w) := by
  go_enter Try.func123, Try.ntmps123
  go_wp2_with fail
  refine (next _ _ _ (by decide) h).mono ?_
  rintro e w1 ⟨x, rfl, hx1, hx2, hs, ht⟩
  have HT := Lib.hid ht
  have HS := Lib.hid hs
  clear ht hs hx2
  by_cases h0 : x = 0 ∨ x = 1 ∨ x = 2
  · rcases h0 with rfl | rfl | rfl
    all_goals
      go_wp2
      go_ret
      exact ⟨_, rfl, by decide, HS.out, HT.out⟩
  · have e0 : (x == 0) = false := by simp; omega
    have e1 : (x == 1) = false := by simp; omega
    have e2 : (x == 2) = false := by simp; omega
    clear h0
    by_cases h3 : x = 3
    · subst h3
      go_wp2_with fail
      refine (pick g _ 0 7 7 _ (HS.out.alloc _) (by omega) (by omega) HS.out.lt (litCells _ [1000000, 1000001, -1000000, -1000001, -999999999999999, -1000000000000001, 9223372036854775807] _ _ rfl (by decide))).mono ?_
      rintro e w2 ⟨y, rfl, hy, hs2, ht2⟩
      have HT2 := Lib.hid ((HT.out.alloc (Nat.le_of_lt HS.out.lt) _).trans ht2)
      have HS2 := Lib.hid hs2
      clear ht2 hs2
      go_wp2
      go_ret
      exact ⟨_, rfl, hy, HS2.out, HT2.out⟩
    · have e3 : (x == 3) = false := by simp; omega
      clear h3
      by_cases h4 : x = 4
      · subst h4
        go_wp2_with fail
        refine (next _ _ _ (by decide) HS.out).mono ?_
        rintro e w2 ⟨y, rfl, hy1, hy2, hs2, ht2⟩
        have hy3 : y < 2000 := by omega
        have HT2 := Lib.hid (HT.out.trans ht2)
        have HS2 := Lib.hid hs2
        clear ht2 hs2 hy2
        go_wp2
        go_ret
        exact ⟨_, rfl, wf_small _ (by omega) (by omega), HS2.out, HT2.out⟩
      · have e4 : (x == 4) = false := by simp; omega
        clear h4
        go_wp2_with fail
        refine (next _ _ _ (by decide) HS.out).mono ?_
        rintro e w2 ⟨y, rfl, hy1, hy2, hs2, ht2⟩
        have hy3 : y < 41 := by omega
        have HT2 := Lib.hid (HT.out.trans ht2)
        have HS2 := Lib.hid hs2
        clear ht2 hs2 hy2
        go_wp2
        go_ret
        exact ⟨_, rfl, wf_small _ (by omega) (by omega), HS2.out, HT2.out⟩
end Go.Proofs.Ythonlfjjgmmnpab.V
