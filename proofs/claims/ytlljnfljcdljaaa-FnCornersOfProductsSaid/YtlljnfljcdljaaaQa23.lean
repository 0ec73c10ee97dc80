/- Texts laid together: Plm. -/
import Derived.Test.YtlljnfljcdljaaaQa21
import Derived.Test.YtlljnfljcdljaaaQa22
import Derived.Test.YtlljnfljcdljaaaQa2
set_option linter.unusedSimpArgs false
set_option linter.unusedVariables false
set_option linter.unusedSectionVars false
namespace Go.Proofs.Ytlljnfljcdljaaa
namespace M
/-- The corners that the marks m, m + 1, .. leave. -/
def cmarks (m : Int) (n : Nat) : List (Int × Int × Int) := (List.range n).map fun (j : Nat) => (m + 3 * (j : Int), m + 3 * (j : Int) + 1, m + 3 * (j : Int) + 2)
theorem cmarks_len (m : Int) (n : Nat) : (cmarks m n).length = n := by simp [cmarks]
theorem cmarks_get (m : Int) (n j : Nat) (h : j < n) : (cmarks m n).getD j (0, 0, 0) = (m + 3 * (j : Int), m + 3 * (j : Int) + 1, m + 3 * (j : Int) + 2) := by simp [cmarks, h]
end M
namespace V
set_option maxRecDepth 100000
open Go.RowKit
set_option maxRecDepth 100000 in
set_option maxHeartbeats 1000000 in
theorem eqCorner (p q t : Int) (w : World) :
    Calls Try.prog 82 #[cV p q t, cV p q t] w fun e w' => e = .returned (.bool true) ∧ Below w.heap.size w w' := by
  go_enter Try.func82, Try.ntmps82
  go_wp2_with fail
  refine (eqRatio _ _ _).mono ?_
  rintro e w2 ⟨rfl, hb2⟩
  have c0 : w2.cell? ⟨w.heap.size, 2, none⟩ = some (.int .i64 t) := (hb2.cell (p := ⟨w.heap.size, 2, none⟩) (by simp; omega)).trans (by simp [go_sem])
  have c1 : w2.cell? ⟨w.heap.size + 1, 2, none⟩ = some (.int .i64 t) := (hb2.cell (p := ⟨w.heap.size + 1, 2, none⟩) (by simp)).trans (by simp [go_sem])
  have HB2 := Lib.hid (bnext (b_alloc2 w (cObj p q t) (cObj p q t)) hb2)
  clear hb2
  go_wp2
  go_ret
  exact ⟨rfl, HB2.out⟩
theorem OwnC.loads {w : World} {B n cap : Nat} {a : Option Addr} {l : List (Int × Int × Int)} (h : OwnC w B (.slice a n cap) l) {k : Nat} (hk : k < n) : ∃ g p q t, a = some ⟨g, 0, none⟩ ∧ (p, q, t) = l.getD k (0, 0, 0) ∧ ∀ W, Below w.heap.size w W → W.cell? ⟨g, k * 3, none⟩ = some (.int .i64 p) ∧ W.cell? ⟨g, k * 3 + 1, none⟩ = some (.int .i64 q) ∧ W.cell? ⟨g, k * 3 + 2, none⟩ = some (.int .i64 t) := by
  obtain ⟨g, rfl, g1, g2, hc⟩ := h.at (by omega)
  obtain ⟨c1, c2, c3⟩ := hc k hk
  rw [Nat.mul_comm 3 k] at c1 c2 c3
  exact ⟨g, _, _, _, rfl, rfl, fun W hW => ⟨(hW.cell (p := ⟨g, k * 3, none⟩) g2).trans c1, (hW.cell (p := ⟨g, k * 3 + 1, none⟩) g2).trans c2, (hW.cell (p := ⟨g, k * 3 + 2, none⟩) g2).trans c3⟩⟩
set_option maxRecDepth 100000 in
set_option maxHeartbeats 1000000 in
theorem eqC (a : Option Addr) (n cap : Nat) (l : List (Int × Int × Int)) (a' : Option Addr) (n' cap' B B' : Nat) (w : World) (h : OwnC w B (.slice a n cap) l) (h' : OwnC w B' (.slice a' n' cap') l) (hn0 : l.length ≤ 100) :
    Calls Try.prog 45 #[.slice a n cap, .slice a' n' cap'] w fun e w' => e = .returned (.bool true) ∧ Below w.heap.size w w' := by
  obtain rfl : n = n' := h.len.trans h'.len.symm
  have hn : n ≤ 100 := by have := h.len; omega
  have HO := Lib.hid h
  have HO' := Lib.hid h'
  clear h h'
  go_enter Try.func45, Try.ntmps45
  go_wp2
  go_loopw [5] (fun i wr => ∃ k : Nat, k ≤ n ∧ i = .int .i64 k ∧ Hid (Below w.heap.size w wr)) (fun i _ => n - (intOf i).toNat)
  case atStart => exact ⟨0, Nat.zero_le _, rfl, Below.refl _ _⟩
  case round =>
    obtain ⟨k, hk, rfl, HB⟩ := hrel
    obtain ⟨wo, rfl⟩ : ∃ y, y = wr := ⟨_, rfl⟩
    by_cases hlt : k < n
    · obtain ⟨g, p, q, t, rfl, he, hc⟩ := HO.out.loads hlt
      obtain ⟨g', p', q', t', rfl, he', hc'⟩ := HO'.out.loads hlt
      have e2 := he.trans he'.symm
      injection e2 with e3 e4
      injection e4 with e4 e5
      subst e3 e4 e5
      have hki : (k : Int) < (n : Int) := by omega
      have HKp : Hid (∀ W, Below wo.heap.size wo W → W.cell? ⟨g, k * 3, none⟩ = some (.int .i64 p) ∧ W.cell? ⟨g, k * 3 + 1, none⟩ = some (.int .i64 q) ∧ W.cell? ⟨g, k * 3 + 2, none⟩ = some (.int .i64 t) ∧ W.cell? ⟨g', k * 3, none⟩ = some (.int .i64 p) ∧ W.cell? ⟨g', k * 3 + 1, none⟩ = some (.int .i64 q) ∧ W.cell? ⟨g', k * 3 + 2, none⟩ = some (.int .i64 t) ∧ Below wo.heap.size wo W) := fun W hW => by
        obtain ⟨x1, x2, x3⟩ := hc W (bnext HB.out hW)
        obtain ⟨y1, y2, y3⟩ := hc' W (bnext HB.out hW)
        exact ⟨x1, x2, x3, y1, y2, y3, hW⟩
      clear he he' hc hc'
      go_wp2
      go_region_held3 (fun W => W.cell? ⟨g, k * 3, none⟩ = some (.int .i64 p) ∧ W.cell? ⟨g, k * 3 + 1, none⟩ = some (.int .i64 q) ∧ W.cell? ⟨g, k * 3 + 2, none⟩ = some (.int .i64 t) ∧ W.cell? ⟨g', k * 3, none⟩ = some (.int .i64 p) ∧ W.cell? ⟨g', k * 3 + 1, none⟩ = some (.int .i64 q) ∧ W.cell? ⟨g', k * 3 + 2, none⟩ = some (.int .i64 t) ∧ Below wo.heap.size wo W)
        (first | exact HKp.out _ (Below.refl _ _).drew | exact HKp.out _ (bnext (Below.refl _ _).drew hb2))
        (first | (go_at_call 82; refine (eqCorner _ _ _ _).mono ?_; rintro e w2 ⟨rfl, hb2⟩))
      all_goals
        have HB2 := Lib.hid (bnext HB.out (bnext (Below.refl _ _).drew hb2))
        clear hb2
        go_wp2
        go_roundw
        case rel => exact ⟨k + 1, by omega, by go_num, HB2⟩
        case measure => simp [intOf]; omega
    · obtain rfl : k = n := by omega
      go_wp2
      go_ret
      exact ⟨rfl, HB.out⟩
/-- The cells after k marks. -/
def mcell (m : Int) (xs : List Value) (k : Nat) : List Value := (List.range xs.length).map fun (j : Nat) => if j < k then .int .i64 (m + (j : Int)) else xs.getD j undef
theorem mcell_len (m : Int) (xs : List Value) (k : Nat) : (mcell m xs k).length = xs.length := by simp [mcell]
theorem mcell_zero (m : Int) (xs : List Value) : mcell m xs 0 = xs := by
  apply List.ext_getElem
  · simp [mcell]
  · intro i h1 h2
    simp [mcell, h2]
theorem mcell_step (m : Int) (xs : List Value) (k : Nat) : (mcell m xs k).set k (.int .i64 (m + (k : Int))) = mcell m xs (k + 1) := by
  apply List.ext_getElem
  · simp [mcell]
  · intro i h1 h2
    rw [List.getElem_set]
    by_cases e : k = i
    · subst e
      simp [mcell]
    · rw [if_neg e]
      simp only [mcell, List.getElem_map, List.getElem_range]
      by_cases e2 : i < k
      · rw [if_pos e2, if_pos (by omega)]
      · rw [if_neg e2, if_neg (by omega)]
theorem mcell_all (m : Int) (xs : List Value) (n : Nat) (h : xs.length = n * 3) : mcell m xs (n * 3) = ccells (M.cmarks m n) := by
  apply List.ext_getElem?
  intro i
  have hl : (ccells (M.cmarks m n)).length = n * 3 := by rw [ccells_len, M.cmarks_len]
  by_cases hi : i < n * 3
  · have e1 : (mcell m xs (n * 3))[i]? = some (.int .i64 (m + (i : Int))) := by simp [mcell, h, hi]
    rw [e1]
    obtain ⟨q, r, hr, rfl⟩ : ∃ q r, r < 3 ∧ i = 3 * q + r := ⟨i / 3, i % 3, Nat.mod_lt _ (by omega), by omega⟩
    obtain ⟨c1, c2, c3⟩ := ccells_at (M.cmarks m n) q (by rw [M.cmarks_len]; omega)
    rw [M.cmarks_get m n q (by omega)] at c1 c2 c3
    have : r = 0 ∨ r = 1 ∨ r = 2 := by omega
    rcases this with rfl | rfl | rfl
    · rw [Nat.add_zero, c1]
      show some (Value.int .i64 (m + ((3 * q + 0 : Nat) : Int))) = some (.int .i64 (m + 3 * (q : Int)))
      rw [show m + ((3 * q + 0 : Nat) : Int) = m + 3 * (q : Int) by omega]
    · rw [c2]
      show some (Value.int .i64 (m + ((3 * q + 1 : Nat) : Int))) = some (.int .i64 (m + 3 * (q : Int) + 1))
      rw [show m + ((3 * q + 1 : Nat) : Int) = m + 3 * (q : Int) + 1 by omega]
    · rw [c3]
      show some (Value.int .i64 (m + ((3 * q + 2 : Nat) : Int))) = some (.int .i64 (m + 3 * (q : Int) + 2))
      rw [show m + ((3 * q + 2 : Nat) : Int) = m + 3 * (q : Int) + 2 by omega]
  · rw [List.getElem?_eq_none (by rw [mcell_len]; omega), List.getElem?_eq_none (by omega)]
set_option maxRecDepth 100000 in
set_option maxHeartbeats 2000000 in
theorem markC0 (a : Option Addr) (n cap B : Nat) (l : List (Int × Int × Int)) (m : Int) (w : World) (h : OwnC w B (.slice a n cap) l) (hn : n ≤ 100) (h1 : 0 ≤ m) (h2 : m ≤ 40000000) :
    Calls Try.prog 46 #[.slice a n cap, .int .i64 m] w fun e w' => ∃ y : Int, e = .returned (.int .i64 y) ∧ y = m + 3 * (n : Int) ∧ OwnC w' B (.slice a n cap) (M.cmarks m n) ∧ Chg (fun k => (Value.slice a n cap).ownBlock = some k) w w' := by
  have hl := h.len
  have hcl : (ccells l).length = n * 3 := by rw [ccells_len, hl]
  have hO : w.ownsRow B 45 3 (.slice a n cap) n (ccells l) := by have := h; unfold OwnC at this; rw [← hl] at this; exact this
  have HF : Hid (0 < n → ∃ g, a = some ⟨g, 0, none⟩) := fun e => by obtain ⟨g, hg, -⟩ := h.at e; exact ⟨g, hg⟩
  have HO0 : Hid (w.ownsRow B 45 3 (.slice a n cap) n (mcell m (ccells l) 0)) := by show World.ownsRow _ _ _ _ _ _ _; rw [mcell_zero]; exact hO
  have HCL := Lib.hid hcl
  clear h hl hO hcl
  go_enter Try.func46, Try.ntmps46
  go_wp2
  go_loopw [1, 5] (fun x i wr => ∃ (k : Nat) (y : Int), k ≤ n ∧ i = .int .i64 k ∧ x = .int .i64 y ∧ Hid (y = m + 3 * (k : Int)) ∧ Hid (wr.ownsRow B 45 3 (.slice a n cap) n (mcell m (ccells l) (k * 3))) ∧ Hid (Chg (fun k => (Value.slice a n cap).ownBlock = some k) w wr)) (fun _ i _ => n - (intOf i).toNat)
  case atStart => exact ⟨0, m, Nat.zero_le _, rfl, rfl, by show _ = _; omega, HO0.out, Chg.refl _ _⟩
  case round =>
    obtain ⟨k, y, hk, rfl, rfl, HY, HO, HC⟩ := hrel
    obtain ⟨wo, rfl⟩ : ∃ y, y = wr := ⟨_, rfl⟩
    by_cases hlt : k < n
    · obtain ⟨g, rfl⟩ := HF.out (by omega)
      have hki : (k : Int) < (n : Int) := by omega
      have hy0 : 0 ≤ y := by have := HY.out; omega
      have hy1 : y ≤ 50000000 := by have := HY.out; omega
      have hfz : ∀ j, wo.frozen? ⟨g, j, none⟩ = false := fun j => World.ownsRow.frozenAt HO.out j
      have hce : ∀ j, j < n * 3 → ∃ v, wo.cell? ⟨g, j, none⟩ = some v := fun j hj => ⟨_, (World.ownsRow.cellAt HO.out j hj).trans (List.getElem?_eq_getElem (by rw [mcell_len, HCL.out]; exact hj))⟩
      obtain ⟨v0, c0⟩ := hce (k * 3) (by omega)
      obtain ⟨v1, c1⟩ := hce (k * 3 + 1) (by omega)
      obtain ⟨v2, c2⟩ := hce (k * 3 + 2) (by omega)
      have f0 := hfz (k * 3)
      have f1 := hfz (k * 3 + 1)
      have f2 := hfz (k * 3 + 2)
      have s1 := (World.ownsRow.stored HO.out (k * 3) (.int .i64 y)).1
      have s2 := (World.ownsRow.stored s1 (k * 3 + 1) (.int .i64 (y + 1))).1
      have s3 := (World.ownsRow.stored s2 (k * 3 + 2) (.int .i64 (y + 1 + 1))).1
      have hy := HY.out
      have e1 : y = m + ((k * 3 : Nat) : Int) := by omega
      have e2 : y + 1 = m + ((k * 3 + 1 : Nat) : Int) := by omega
      have e3 : y + 1 + 1 = m + ((k * 3 + 2 : Nat) : Int) := by omega
      have S3 : Hid ((((wo.setCell ⟨g, k * 3, none⟩ (.int .i64 y)).setCell ⟨g, k * 3 + 1, none⟩ (.int .i64 (y + 1))).setCell ⟨g, k * 3 + 2, none⟩ (.int .i64 (y + 1 + 1))).ownsRow B 45 3 (.slice (some ⟨g, 0, none⟩) n cap) n (mcell m (ccells l) ((k + 1) * 3))) := by
        show World.ownsRow _ _ _ _ _ _ _
        rw [show (k + 1) * 3 = k * 3 + 1 + 1 + 1 by omega, ← mcell_step, ← mcell_step, ← mcell_step]
        rw [← e1, ← e2, ← e3]
        exact s3
      have HC3 : Hid (Chg (fun k => (Value.slice (some ⟨g, 0, none⟩) n cap).ownBlock = some k) w (((wo.setCell ⟨g, k * 3, none⟩ (.int .i64 y)).setCell ⟨g, k * 3 + 1, none⟩ (.int .i64 (y + 1))).setCell ⟨g, k * 3 + 2, none⟩ (.int .i64 (y + 1 + 1)))) := ((HC.out.set rfl _).set rfl _).set rfl _
      clear hfz hce s1 s2 s3 hy e1 e2 e3 HO HC
      go_wp2
      go_roundw
      case rel => exact ⟨k + 1, y + 3, by omega, by go_num, by congr 1; omega, by show _ = _; rw [HY.out]; push_cast; omega, S3.out, HC3.out⟩
      case measure => simp [intOf]; omega
    · obtain rfl : k = n := by omega
      go_wp2
      go_ret
      refine ⟨y, rfl, HY.out, ?_, HC.out⟩
      unfold OwnC
      rw [M.cmarks_len, ← mcell_all m (ccells l) k HCL.out]
      exact HO.out
set_option maxRecDepth 100000 in
set_option maxHeartbeats 2000000 in
theorem heldC (B n cap : Nat) (a : Option Addr) (m y : Int) (w : World) (h : OwnC w B (.slice a n cap) (M.cmarks m n)) (hn : n ≤ 100) (h1 : 0 ≤ m) (h2 : m ≤ 40000000) (hy : y = m + 3 * (n : Int)) :
    Calls Try.prog 47 #[.slice a n cap, .int .i64 m] w fun e w' => e = .returned (.int .i64 y) ∧ w = w' := by
  subst hy
  have HO := Lib.hid h
  clear h
  go_enter Try.func47, Try.ntmps47
  go_wp2
  go_loop [1, 5] (fun x i => ∃ (k : Nat) (y : Int), k ≤ n ∧ i = .int .i64 k ∧ x = .int .i64 y ∧ Hid (y = m + 3 * (k : Int))) (fun _ i => n - (intOf i).toNat)
  case atStart => exact ⟨0, m, Nat.zero_le _, rfl, rfl, by show _ = _; omega⟩
  case round =>
    obtain ⟨k, y, hk, rfl, rfl, HY⟩ := hrel
    by_cases hlt : k < n
    · obtain ⟨g, p, q, t, rfl, he, hc⟩ := HO.out.loads hlt
      rw [M.cmarks_get m n k hlt] at he
      injection he with e1 e2
      injection e2 with e2 e3
      obtain ⟨c0, c1, c2⟩ := hc w (Below.refl _ _)
      have hki : (k : Int) < (n : Int) := by omega
      have hy := HY.out
      have hy0 : 0 ≤ y := by omega
      have hy1 : y ≤ 50000000 := by omega
      obtain rfl : p = y := by omega
      obtain rfl : q = p + 1 := by omega
      obtain rfl : t = p + 1 + 1 := by omega
      clear e1 e2 e3 hy hc
      go_wp2
      go_round
      case rel => exact ⟨k + 1, p + 3, by omega, by go_num, by congr 1; omega, by show _ = _; rw [HY.out]; push_cast; omega⟩
      case measure => simp [intOf]; omega
    · obtain rfl : k = n := by omega
      go_wp2
      go_ret
      have hy := HY.out
      subst hy
      exact ⟨rfl, rfl⟩
theorem markC (a : Option Addr) (n cap B : Nat) (l : List (Int × Int × Int)) (m : Int) (w0 w : World) (h0 : OwnC w0 B (.slice a n cap) l) (hb0 : Same B w0.heap.size w0 w) (hn : n ≤ 100) (h1 : 0 ≤ m) (h2 : m ≤ 40000000) :
    Calls Try.prog 46 #[.slice a n cap, .int .i64 m] w fun e w' => ∃ y : Int, e = .returned (.int .i64 y) ∧ 0 ≤ y ∧ Hid (y = m + 3 * (n : Int)) ∧ OwnC w' B (.slice a n cap) (M.cmarks m n) ∧ Chg (fun k => B ≤ k ∧ k < w0.heap.size) w w' := by
  refine (markC0 _ _ _ B l _ _ (h0.keep hb0) hn h1 h2).mono ?_
  rintro e w' ⟨y, rfl, hy, ho, hc⟩
  exact ⟨_, rfl, by omega, hy, ho, hc.mono (fun k hk => h0.lt hk)⟩
end V
end Go.Proofs.Ytlljnfljcdljaaa
