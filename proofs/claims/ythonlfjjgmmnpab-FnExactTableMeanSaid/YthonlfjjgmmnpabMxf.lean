/- slices.MaxFunc and slices.MinFunc of ratios, in the program. -/
import Derived.Test.YthonlfjjgmmnpabRt
import Derived.Test.YthonlfjjgmmnpabRat
import Derived.Test.YthonlfjjgmmnpabShX
import Derived.Deep.RegionWith
import Derived.Deep.RegionHeld3
namespace Go.Proofs.Ythonlfjjgmmnpab.V
open Go.RowKit
def MBox (w wr : World) (p : Int × Int) : Prop :=
  Below w.heap.size w wr ∧ w.heap.size + 1 < wr.heap.size ∧
  (wr.cell? ⟨w.heap.size, 0, none⟩ = some (.int .i64 0) ∧ wr.cell? ⟨w.heap.size, 1, none⟩ = some (.int .i64 0) ∧ wr.frozen? ⟨w.heap.size, 0, none⟩ = false ∧ wr.frozen? ⟨w.heap.size, 1, none⟩ = false) ∧
  (wr.cell? ⟨w.heap.size + 1, 0, none⟩ = some (.int .i64 p.1) ∧ wr.cell? ⟨w.heap.size + 1, 1, none⟩ = some (.int .i64 p.2) ∧ wr.frozen? ⟨w.heap.size + 1, 0, none⟩ = false ∧ wr.frozen? ⟨w.heap.size + 1, 1, none⟩ = false)
theorem MBox.keep {w w1 w2 : World} {p : Int × Int} (h : MBox w w1 p) (hb : Below w1.heap.size w1 w2) : MBox w w2 p := by
  obtain ⟨h1, h2, ⟨a1, a2, a3, a4⟩, b1, b2, b3, b4⟩ := h
  obtain ⟨hc, hf⟩ := bcell hb
  have hs := hb.size
  refine ⟨h1.trans (hb.mono h1.size), by omega, ⟨?_, ?_, ?_, ?_⟩, ?_, ?_, ?_, ?_⟩
  · rw [hc _ _ (by omega)]; exact a1
  · rw [hc _ _ (by omega)]; exact a2
  · rw [hf _ _ (by omega)]; exact a3
  · rw [hf _ _ (by omega)]; exact a4
  · rw [hc _ _ (by omega)]; exact b1
  · rw [hc _ _ (by omega)]; exact b2
  · rw [hf _ _ (by omega)]; exact b3
  · rw [hf _ _ (by omega)]; exact b4
theorem M.maxR_take {l : List (Int × Int)} {k : Nat} (h1 : 1 ≤ k) (h : k < l.length) : M.maxR (l.take (k + 1)) = M.mx (M.maxR (l.take k)) (l.getD k (0, 0)) := by
  rw [List.take_succ_eq_append_getElem h, M.maxR_snoc (by rw [List.length_take]; omega), List.getD_eq_getElem?_getD, List.getElem?_eq_getElem h]; rfl

theorem low5 {w1 w2 : World} {P Q R S : Prop} (h : P ∧ Q ∧ R ∧ S ∧ Below w1.heap.size w1 w2) : Below w1.heap.size w1 w2 := h.2.2.2.2
theorem keep5 {w0 w1 w2 : World} {b c i j k l : Nat} {x y u v : Value} (hb0 : b < w0.heap.size) (hc0 : c < w0.heap.size) (h : w1.cell? ⟨b, i, none⟩ = some x ∧ w1.cell? ⟨b, j, none⟩ = some y ∧ w1.cell? ⟨c, k, none⟩ = some u ∧ w1.cell? ⟨c, l, none⟩ = some v ∧ Below w0.heap.size w0 w1) (hb : Below w1.heap.size w1 w2) :
    w2.cell? ⟨b, i, none⟩ = some x ∧ w2.cell? ⟨b, j, none⟩ = some y ∧ w2.cell? ⟨c, k, none⟩ = some u ∧ w2.cell? ⟨c, l, none⟩ = some v ∧ Below w0.heap.size w0 w2 := by
  have := h.2.2.2.2.size
  obtain ⟨hc, _⟩ := bcell hb
  exact ⟨(hc _ _ (by omega)).trans h.1, (hc _ _ (by omega)).trans h.2.1, (hc _ _ (by omega)).trans h.2.2.1, (hc _ _ (by omega)).trans h.2.2.2.1, h.2.2.2.2.trans (hb.mono this)⟩
def M.Rb (p : Int × Int) : Prop := -1000000000 ≤ p.1 ∧ p.1 ≤ 1000000000 ∧ 1 ≤ p.2 ∧ p.2 ≤ 1000
theorem M.rb_mx {p q : Int × Int} (hp : M.Rb p) (hq : M.Rb q) : M.Rb (M.mx p q) := by unfold M.mx; split <;> assumption
theorem M.mul_rb {a d : Int} (h1 : -1000000000 ≤ a) (h2 : a ≤ 1000000000) (h3 : 1 ≤ d) (h4 : d ≤ 1000) : -1000000000000000 ≤ a * d ∧ a * d ≤ 1000000000000000 := by
  have e1 : a * d ≤ 1000000000 * d := Int.mul_le_mul_of_nonneg_right h2 (by omega)
  have e2 : -1000000000 * d ≤ a * d := Int.mul_le_mul_of_nonneg_right h1 (by omega)
  omega
theorem compareRb (x p : Int × Int) (y : Int) (w : World) (hx : M.Rb x) (hp : M.Rb p) (hy : M.cmpZ (x.1 * p.2) (p.1 * x.2) = y) :
    Calls Try.prog 43 #[.agg #[.int .i64 x.1, .int .i64 x.2], .agg #[.int .i64 p.1, .int .i64 p.2]] w fun e w' => e = .returned (.int .i64 y) ∧ Below w.heap.size w w' := by
  subst hy
  obtain ⟨a1, a2, a3, a4⟩ := hx
  obtain ⟨b1, b2, b3, b4⟩ := hp
  obtain ⟨p1, p2⟩ := M.mul_rb a1 a2 b3 b4
  obtain ⟨q1, q2⟩ := M.mul_rb b1 b2 a3 a4
  exact compareM _ _ _ _ w p1 p2 q1 q2
theorem MBox.set {w w1 : World} {p : Int × Int} (h : MBox w w1 p) (q : Int × Int) : MBox w ((w1.setCell ⟨w.heap.size + 1, 0, none⟩ (.int .i64 q.1)).setCell ⟨w.heap.size + 1, 1, none⟩ (.int .i64 q.2)) q := by
  obtain ⟨h1, h2, ⟨a1, a2, a3, a4⟩, b1, b2, b3, b4⟩ := h
  refine ⟨(h1.setCell (by show w.heap.size ≤ w.heap.size + 1; omega) _).setCell (by show w.heap.size ≤ w.heap.size + 1; omega) _, by simpa using h2, ?_, ?_⟩
  · simp [go_sem, a1, a2, a3, a4]
  · simp [go_sem, b1, b2, b3, b4]

set_option maxRecDepth 100000 in
set_option maxHeartbeats 1000000 in
theorem maxFunc (B : Nat) (b : Option Addr) (n c : Nat) (l : List (Int × Int)) (w : World) (h : OwnR w B (.slice b n c) l) (h1 : 1 ≤ n) (h2 : n ≤ 1000)
    (hl : ∀ i, i < n → M.Rb (l.getD i (0, 0))) :
    Calls Try.prog 93 #[.slice b n c, .func (.func 43) #[] #[]] w fun e w' => e = .returned (.agg #[.int .i64 (M.maxR l).1, .int .i64 (M.maxR l).2]) ∧ Below w.heap.size w w' := by
  have hn1 : ¬ (n : Int) < 1 := by omega
  have HLn := Lib.hid h.len
  obtain ⟨g, rfl, hB, hg, hc⟩ := h.at (by omega)
  have hc0 := hc 0 (by omega)
  have HC := Lib.hid hc
  have HLB := Lib.hid hl
  obtain ⟨hc01, hc02⟩ := hc0
  clear h hc hl
  go_enter Try.func93, Try.ntmps93
  go_wp2
  clear hc01 hc02
  go_loopw [6] (fun i wr => ∃ k : Nat, 1 ≤ k ∧ k ≤ n ∧ i = .int .i64 k ∧ MBox w wr (M.maxR (l.take k)) ∧ M.Rb (M.maxR (l.take k))) (fun i _ => n - (intOf i).toNat)
  case atStart =>
    have e : M.maxR (l.take 1) = l.getD 0 (0, 0) := by
      have := HLn.out
      cases l with
      | nil => simp at this; omega
      | cons p l => rfl
    refine ⟨1, Nat.le_refl _, h1, rfl, ?_, by rw [e]; exact HLB.out 0 (by omega)⟩
    rw [e]
    exact ⟨b_alloc2 _ _ _, by simp, by simp [go_sem], by simp [go_sem]⟩
  case round =>
    obtain ⟨k, hk1, hk, rfl, hM, hR⟩ := hrel
    obtain ⟨wo, rfl⟩ : ∃ x, x = wr := ⟨_, rfl⟩
    have HM := Lib.hid hM
    have HR := Lib.hid hR
    obtain ⟨hbo, hzo, ⟨a1, a2, a3, a4⟩, b1, b2, b3, b4⟩ := hM
    have HBo := Lib.hid hbo
    by_cases hlt : k < n
    · have hki : (k : Int) < (n : Int) := by omega
      obtain ⟨hcx1, hcx2⟩ := HC.out k hlt
      have d1 : wo.cell? ⟨g, k * 2, none⟩ = some (.int .i64 (l.getD k (0, 0)).1) := by rw [Nat.mul_comm, hbo.cell (p := ⟨g, 2 * k, none⟩) hg]; exact hcx1
      have d2 : wo.cell? ⟨g, k * 2 + 1, none⟩ = some (.int .i64 (l.getD k (0, 0)).2) := by rw [Nat.mul_comm k 2, hbo.cell (p := ⟨g, 2 * k + 1, none⟩) hg]; exact hcx2
      have HX := Lib.hid (HLB.out k hlt)
      have HK2 : Hid (k + 1 ≤ n) := hlt
      have HN : Hid (M.maxR (l.take (k + 1)) = M.mx (M.maxR (l.take k)) (l.getD k (0, 0))) := M.maxR_take hk1 (by have := HLn.out; omega)
      have hgo : g < wo.heap.size := by have := hbo.size; omega
      clear hcx1 hcx2 hbo hR
      generalize M.maxR (l.take k) = p at *
      generalize l.getD k (0, 0) = x at *
      by_cases hle : p.1 * x.2 < x.1 * p.2
      · have HY : Hid (M.cmpZ (x.1 * p.2) (p.1 * x.2) = 1) := by show _ = _; unfold M.cmpZ; rw [if_neg (by omega), if_pos hle]
        have HN2 : Hid (M.maxR (l.take (k + 1)) = x) := by show _ = _; rw [HN.out]; unfold M.mx M.less; rw [if_pos (by simpa using hle)]
        clear hle
        go_wp2
        go_region_held3 (fun w' => w'.cell? ⟨g, k * 2, none⟩ = some (.int .i64 x.1) ∧ w'.cell? ⟨g, k * 2 + 1, none⟩ = some (.int .i64 x.2) ∧ w'.cell? ⟨w.heap.size + 1, 0, none⟩ = some (.int .i64 p.1) ∧ w'.cell? ⟨w.heap.size + 1, 1, none⟩ = some (.int .i64 p.2) ∧ Below wo.heap.size wo w') (first | exact ⟨d1, d2, b1, b2, (Below.refl _ _).drew⟩ | exact keep5 hgo hzo ‹_ ∧ _ ∧ _ ∧ _ ∧ Below _ _ _› hb)
          (first | (go_at_call 43; refine (compareRb x p 1 _ HX.out HR.out HY.out).mono ?_; rintro e w3 ⟨rfl, hb⟩))
        all_goals
          have hh : w3.cell? ⟨g, k * 2, none⟩ = some (.int .i64 x.1) ∧ w3.cell? ⟨g, k * 2 + 1, none⟩ = some (.int .i64 x.2) ∧ w3.cell? ⟨w.heap.size + 1, 0, none⟩ = some (.int .i64 p.1) ∧ w3.cell? ⟨w.heap.size + 1, 1, none⟩ = some (.int .i64 p.2) ∧ Below wo.heap.size wo w3 := by assumption
          have HM3 := Lib.hid (HM.out.keep hh.2.2.2.2)
          clear hb d1 d2 a1 a2 a3 a4 b1 b2 b3 b4
          obtain ⟨d1, d2, b1, b2, -⟩ := hh
          obtain ⟨-, -, -, -, -, b3, b4⟩ := HM3.out
          go_wp2
          go_roundw
          case rel => exact ⟨k + 1, by omega, HK2.out, by go_num, by rw [HN2.out]; exact HM3.out.set x, by rw [HN2.out]; exact HX.out⟩
          case measure => have := HK2.out; simp [intOf]; omega
      · obtain ⟨y, hy⟩ : ∃ y, M.cmpZ (x.1 * p.2) (p.1 * x.2) = y := ⟨_, rfl⟩
        have hy0 : ¬ 0 < y := by
          rw [← hy]; unfold M.cmpZ
          split
          · omega
          · first | omega | (rw [if_neg hle]; omega)
        have HY := Lib.hid hy
        have HN2 : Hid (M.maxR (l.take (k + 1)) = p) := by show _ = _; rw [HN.out]; unfold M.mx M.less; rw [if_neg (by simpa using hle)]
        clear hle hy
        go_wp2
        go_region_held3 (fun w' => w'.cell? ⟨g, k * 2, none⟩ = some (.int .i64 x.1) ∧ w'.cell? ⟨g, k * 2 + 1, none⟩ = some (.int .i64 x.2) ∧ w'.cell? ⟨w.heap.size + 1, 0, none⟩ = some (.int .i64 p.1) ∧ w'.cell? ⟨w.heap.size + 1, 1, none⟩ = some (.int .i64 p.2) ∧ Below wo.heap.size wo w') (first | exact ⟨d1, d2, b1, b2, (Below.refl _ _).drew⟩ | exact keep5 hgo hzo ‹_ ∧ _ ∧ _ ∧ _ ∧ Below _ _ _› hb)
          (first | (go_at_call 43; refine (compareRb x p y _ HX.out HR.out HY.out).mono ?_; rintro e w3 ⟨rfl, hb⟩))
        all_goals
          have hh : w3.cell? ⟨g, k * 2, none⟩ = some (.int .i64 x.1) ∧ w3.cell? ⟨g, k * 2 + 1, none⟩ = some (.int .i64 x.2) ∧ w3.cell? ⟨w.heap.size + 1, 0, none⟩ = some (.int .i64 p.1) ∧ w3.cell? ⟨w.heap.size + 1, 1, none⟩ = some (.int .i64 p.2) ∧ Below wo.heap.size wo w3 := by assumption
          have HM3 := Lib.hid (HM.out.keep hh.2.2.2.2)
          clear hb d1 d2 a1 a2 a3 a4 b1 b2 b3 b4
          clear hh
          go_wp2
          go_roundw
          case rel => exact ⟨k + 1, by omega, HK2.out, by go_num, by rw [HN2.out]; exact HM3.out, by rw [HN2.out]; exact HR.out⟩
          case measure => have := HK2.out; simp [intOf]; omega
    · obtain rfl : k = n := by omega
      have HT : Hid (l.take k = l) := List.take_of_length_le (by have := HLn.out; omega)
      rw [HT.out] at b1 b2
      obtain ⟨p, hp⟩ : ∃ p, p = M.maxR l := ⟨_, rfl⟩
      rw [← hp] at b1 b2
      have HP := Lib.hid hp
      clear hp
      go_wp2
      exact bodyPost_ret (v := .agg #[.int .i64 p.1, .int .i64 p.2]) (by simp [results, Try.results93, go_sem, a1, a2, a3, a4]) rfl ⟨by rw [HP.out], (HBo.out.setCell (Nat.le_refl _) _).setCell (Nat.le_refl _) _⟩
theorem M.minR_take {l : List (Int × Int)} {k : Nat} (h1 : 1 ≤ k) (h : k < l.length) : M.minR (l.take (k + 1)) = M.mn (M.minR (l.take k)) (l.getD k (0, 0)) := by
  rw [List.take_succ_eq_append_getElem h, M.minR_snoc (by rw [List.length_take]; omega), List.getD_eq_getElem?_getD, List.getElem?_eq_getElem h]; rfl
set_option maxRecDepth 100000 in
set_option maxHeartbeats 1000000 in
theorem minFunc (B : Nat) (b : Option Addr) (n c : Nat) (l : List (Int × Int)) (w : World) (h : OwnR w B (.slice b n c) l) (h1 : 1 ≤ n) (h2 : n ≤ 1000)
    (hl : ∀ i, i < n → M.Rb (l.getD i (0, 0))) :
    Calls Try.prog 150 #[.slice b n c, .func (.func 43) #[] #[]] w fun e w' => e = .returned (.agg #[.int .i64 (M.minR l).1, .int .i64 (M.minR l).2]) ∧ Below w.heap.size w w' := by
  have hn1 : ¬ (n : Int) < 1 := by omega
  have HLn := Lib.hid h.len
  obtain ⟨g, rfl, hB, hg, hc⟩ := h.at (by omega)
  have hc0 := hc 0 (by omega)
  have HC := Lib.hid hc
  have HLB := Lib.hid hl
  obtain ⟨hc01, hc02⟩ := hc0
  clear h hc hl
  go_enter Try.func150, Try.ntmps150
  go_wp2
  clear hc01 hc02
  go_loopw [6] (fun i wr => ∃ k : Nat, 1 ≤ k ∧ k ≤ n ∧ i = .int .i64 k ∧ MBox w wr (M.minR (l.take k)) ∧ M.Rb (M.minR (l.take k))) (fun i _ => n - (intOf i).toNat)
  case atStart =>
    have e : M.minR (l.take 1) = l.getD 0 (0, 0) := by
      have := HLn.out
      cases l with
      | nil => simp at this; omega
      | cons p l => rfl
    refine ⟨1, Nat.le_refl _, h1, rfl, ?_, by rw [e]; exact HLB.out 0 (by omega)⟩
    rw [e]
    exact ⟨b_alloc2 _ _ _, by simp, by simp [go_sem], by simp [go_sem]⟩
  case round =>
    obtain ⟨k, hk1, hk, rfl, hM, hR⟩ := hrel
    obtain ⟨wo, rfl⟩ : ∃ x, x = wr := ⟨_, rfl⟩
    have HM := Lib.hid hM
    have HR := Lib.hid hR
    obtain ⟨hbo, hzo, ⟨a1, a2, a3, a4⟩, b1, b2, b3, b4⟩ := hM
    have HBo := Lib.hid hbo
    by_cases hlt : k < n
    · have hki : (k : Int) < (n : Int) := by omega
      obtain ⟨hcx1, hcx2⟩ := HC.out k hlt
      have d1 : wo.cell? ⟨g, k * 2, none⟩ = some (.int .i64 (l.getD k (0, 0)).1) := by rw [Nat.mul_comm, hbo.cell (p := ⟨g, 2 * k, none⟩) hg]; exact hcx1
      have d2 : wo.cell? ⟨g, k * 2 + 1, none⟩ = some (.int .i64 (l.getD k (0, 0)).2) := by rw [Nat.mul_comm k 2, hbo.cell (p := ⟨g, 2 * k + 1, none⟩) hg]; exact hcx2
      have HX := Lib.hid (HLB.out k hlt)
      have HK2 : Hid (k + 1 ≤ n) := hlt
      have HN : Hid (M.minR (l.take (k + 1)) = M.mn (M.minR (l.take k)) (l.getD k (0, 0))) := M.minR_take hk1 (by have := HLn.out; omega)
      have hgo : g < wo.heap.size := by have := hbo.size; omega
      clear hcx1 hcx2 hbo hR
      generalize M.minR (l.take k) = p at *
      generalize l.getD k (0, 0) = x at *
      by_cases hle : x.1 * p.2 < p.1 * x.2
      · have HY : Hid (M.cmpZ (x.1 * p.2) (p.1 * x.2) = -1) := by show _ = _; unfold M.cmpZ; rw [if_pos hle]
        have HN2 : Hid (M.minR (l.take (k + 1)) = x) := by show _ = _; rw [HN.out]; unfold M.mn M.less; rw [if_pos (by simpa using hle)]
        clear hle
        go_wp2
        go_region_held3 (fun w' => w'.cell? ⟨g, k * 2, none⟩ = some (.int .i64 x.1) ∧ w'.cell? ⟨g, k * 2 + 1, none⟩ = some (.int .i64 x.2) ∧ w'.cell? ⟨w.heap.size + 1, 0, none⟩ = some (.int .i64 p.1) ∧ w'.cell? ⟨w.heap.size + 1, 1, none⟩ = some (.int .i64 p.2) ∧ Below wo.heap.size wo w') (first | exact ⟨d1, d2, b1, b2, (Below.refl _ _).drew⟩ | exact keep5 hgo hzo ‹_ ∧ _ ∧ _ ∧ _ ∧ Below _ _ _› hb)
          (first | (go_at_call 43; refine (compareRb x p (-1) _ HX.out HR.out HY.out).mono ?_; rintro e w3 ⟨rfl, hb⟩))
        all_goals
          have hh : w3.cell? ⟨g, k * 2, none⟩ = some (.int .i64 x.1) ∧ w3.cell? ⟨g, k * 2 + 1, none⟩ = some (.int .i64 x.2) ∧ w3.cell? ⟨w.heap.size + 1, 0, none⟩ = some (.int .i64 p.1) ∧ w3.cell? ⟨w.heap.size + 1, 1, none⟩ = some (.int .i64 p.2) ∧ Below wo.heap.size wo w3 := by assumption
          have HM3 := Lib.hid (HM.out.keep hh.2.2.2.2)
          clear hb d1 d2 a1 a2 a3 a4 b1 b2 b3 b4
          obtain ⟨d1, d2, b1, b2, -⟩ := hh
          obtain ⟨-, -, -, -, -, b3, b4⟩ := HM3.out
          go_wp2
          go_roundw
          case rel => exact ⟨k + 1, by omega, HK2.out, by go_num, by rw [HN2.out]; exact HM3.out.set x, by rw [HN2.out]; exact HX.out⟩
          case measure => have := HK2.out; simp [intOf]; omega
      · obtain ⟨y, hy⟩ : ∃ y, M.cmpZ (x.1 * p.2) (p.1 * x.2) = y := ⟨_, rfl⟩
        have hy0 : ¬ y < 0 := by
          rw [← hy]; unfold M.cmpZ
          rw [if_neg hle]
          split <;> omega
        have HY := Lib.hid hy
        have HN2 : Hid (M.minR (l.take (k + 1)) = p) := by show _ = _; rw [HN.out]; unfold M.mn M.less; rw [if_neg (by simpa using hle)]
        clear hle hy
        go_wp2
        go_region_held3 (fun w' => w'.cell? ⟨g, k * 2, none⟩ = some (.int .i64 x.1) ∧ w'.cell? ⟨g, k * 2 + 1, none⟩ = some (.int .i64 x.2) ∧ w'.cell? ⟨w.heap.size + 1, 0, none⟩ = some (.int .i64 p.1) ∧ w'.cell? ⟨w.heap.size + 1, 1, none⟩ = some (.int .i64 p.2) ∧ Below wo.heap.size wo w') (first | exact ⟨d1, d2, b1, b2, (Below.refl _ _).drew⟩ | exact keep5 hgo hzo ‹_ ∧ _ ∧ _ ∧ _ ∧ Below _ _ _› hb)
          (first | (go_at_call 43; refine (compareRb x p y _ HX.out HR.out HY.out).mono ?_; rintro e w3 ⟨rfl, hb⟩))
        all_goals
          have hh : w3.cell? ⟨g, k * 2, none⟩ = some (.int .i64 x.1) ∧ w3.cell? ⟨g, k * 2 + 1, none⟩ = some (.int .i64 x.2) ∧ w3.cell? ⟨w.heap.size + 1, 0, none⟩ = some (.int .i64 p.1) ∧ w3.cell? ⟨w.heap.size + 1, 1, none⟩ = some (.int .i64 p.2) ∧ Below wo.heap.size wo w3 := by assumption
          have HM3 := Lib.hid (HM.out.keep hh.2.2.2.2)
          clear hb d1 d2 a1 a2 a3 a4 b1 b2 b3 b4
          clear hh
          go_wp2
          go_roundw
          case rel => exact ⟨k + 1, by omega, HK2.out, by go_num, by rw [HN2.out]; exact HM3.out, by rw [HN2.out]; exact HR.out⟩
          case measure => have := HK2.out; simp [intOf]; omega
    · obtain rfl : k = n := by omega
      have HT : Hid (l.take k = l) := List.take_of_length_le (by have := HLn.out; omega)
      rw [HT.out] at b1 b2
      obtain ⟨p, hp⟩ : ∃ p, p = M.minR l := ⟨_, rfl⟩
      rw [← hp] at b1 b2
      have HP := Lib.hid hp
      clear hp
      go_wp2
      exact bodyPost_ret (v := .agg #[.int .i64 p.1, .int .i64 p.2]) (by simp [results, Try.results150, go_sem, a1, a2, a3, a4]) rfl ⟨by rw [HP.out], (HBo.out.setCell (Nat.le_refl _) _).setCell (Nat.le_refl _) _⟩
end Go.Proofs.Ythonlfjjgmmnpab.V
