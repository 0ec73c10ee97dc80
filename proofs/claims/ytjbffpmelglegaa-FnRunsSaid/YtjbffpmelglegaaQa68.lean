/- Texts laid together: Frb. -/
import Derived.Test.YtjbffpmelglegaaQa67
import Derived.Test.YtjbffpmelglegaaQa3
import Derived.Deep.RegionWith
set_option linter.unusedSimpArgs false
set_option linter.unusedVariables false
set_option linter.unusedSectionVars false
namespace Go.Proofs.Ytjbffpmelglegaa
namespace M
/-- The first k places of l, then zeros. -/
def cpF (l : List Fr) (n k : Nat) : List Fr := (List.range n).map fun i => if i < k then l.getD i fz else fz
theorem cpF_zero (l : List Fr) (n : Nat) : cpF l n 0 = List.replicate n fz := by
  unfold cpF
  apply List.ext_getElem
  · simp
  · intro i h1 h2
    simp
theorem cpF_all (l : List Fr) : cpF l l.length l.length = l := by
  unfold cpF
  apply List.ext_getElem
  · simp
  · intro i h1 h2
    simp at h1
    simp [h1]
theorem cpF_len (l : List Fr) (n k : Nat) : (cpF l n k).length = n := by simp [cpF]
theorem cpF_set (l : List Fr) {n k : Nat} (hk : k < n) : (cpF l n k).set k (l.getD k fz) = cpF l n (k + 1) := by
  unfold cpF
  apply List.ext_getElem
  · simp
  · intro i h1 h2
    simp only [List.length_set, List.length_map, List.length_range] at h1
    rw [List.getElem_set]
    by_cases e : k = i
    · subst e; simp
    · rw [if_neg e]
      simp only [List.getElem_map, List.getElem_range]
      by_cases h : i < k
      · rw [if_pos h, if_pos (by omega)]
      · rw [if_neg h, if_neg (by omega)]
/-- Marks from m on. -/
def mkF (m : Int) (i : Nat) : Fr := (m + 3 * i, m + 3 * i + 1, m + 3 * i + 2)
def iof (m : Int) (n : Nat) : List Fr := (List.range n).map (mkF m)
def mkFK (m : Int) (l : List Fr) (n k : Nat) : List Fr := (List.range n).map fun i => if i < k then mkF m i else l.getD i fz
theorem iof_len (m : Int) (n : Nat) : (iof m n).length = n := by simp [iof]
theorem iof_get (m : Int) {n i : Nat} (h : i < n) : (iof m n).getD i fz = mkF m i := by simp [iof, h]
theorem mkFK_zero (m : Int) (l : List Fr) : mkFK m l l.length 0 = l := by
  unfold mkFK
  apply List.ext_getElem
  · simp
  · intro i h1 h2
    simp at h1
    simp [h1]
theorem mkFK_all (m : Int) (l : List Fr) (n : Nat) : mkFK m l n n = iof m n := by
  unfold mkFK iof
  apply List.map_congr_left
  intro i hi
  rw [if_pos (List.mem_range.1 hi)]
theorem mkFK_len (m : Int) (l : List Fr) (n k : Nat) : (mkFK m l n k).length = n := by simp [mkFK]
theorem mkFK_set (m : Int) (l : List Fr) {n k : Nat} (hk : k < n) : (mkFK m l n k).set k (mkF m k) = mkFK m l n (k + 1) := by
  unfold mkFK
  apply List.ext_getElem
  · simp
  · intro i h1 h2
    simp only [List.length_set, List.length_map, List.length_range] at h1
    rw [List.getElem_set]
    by_cases e : k = i
    · subst e; simp
    · rw [if_neg e]
      simp only [List.getElem_map, List.getElem_range]
      by_cases h : i < k
      · rw [if_pos h, if_pos (by omega)]
      · rw [if_neg h, if_neg (by omega)]
theorem tri {l : List Fr} {i : Nat} (hi : i < l.length) (x0 x1 x2 : Int) : stFr (stFr (stFr l i 0 x0) i 1 x1) i 2 x2 = l.set i (x0, x1, x2) := by
  simp [stFr, List.getD_eq_getElem?_getD, hi, setFr]
end M
namespace V
set_option maxRecDepth 100000
open Go.RowKit
theorem OwnFr.setT {w : World} {B g n cap : Nat} {l : List M.Fr} (h : OwnFr w B (.slice (some ⟨g, 0, none⟩) n cap) l) {i : Nat} (hi : i < n) (x0 x1 x2 : Int) :
    OwnFr (((w.setCell ⟨g, i * 3, none⟩ (.int .i64 x0)).setCell ⟨g, i * 3 + 1, none⟩ (.int .i64 x1)).setCell ⟨g, i * 3 + 2, none⟩ (.int .i64 x2)) B (.slice (some ⟨g, 0, none⟩) n cap) (l.set i (x0, x1, x2)) := by
  have hl := h.len
  have := ((h.setF x0 hi (j := 0) (by omega)).setF x1 hi (j := 1) (by omega)).setF x2 hi (j := 2) (by omega)
  rw [M.tri (by omega)] at this
  exact this
/-- What a store into the place i asks. -/
theorem OwnFr.room {w : World} {B g n cap : Nat} {l : List M.Fr} (h : OwnFr w B (.slice (some ⟨g, 0, none⟩) n cap) l) {i : Nat} (hi : i < n) :
    (∃ v, w.cell? ⟨g, i * 3, none⟩ = some v) ∧ (∃ v, w.cell? ⟨g, i * 3 + 1, none⟩ = some v) ∧ (∃ v, w.cell? ⟨g, i * 3 + 2, none⟩ = some v) ∧ w.frozen? ⟨g, i * 3, none⟩ = false ∧ w.frozen? ⟨g, i * 3 + 1, none⟩ = false ∧ w.frozen? ⟨g, i * 3 + 2, none⟩ = false := by
  obtain ⟨b, off, p0, p1, p2, hb, -, -, c0, c1, c2⟩ := h.frs.at i hi
  injection hb with hb
  injection hb with e1 e2
  subst e1 e2
  rw [Nat.zero_add] at c0 c1 c2
  exact ⟨⟨_, c0⟩, ⟨_, c1⟩, ⟨_, c2⟩, h.frozenAt _, h.frozenAt _, h.frozenAt _⟩
theorem run_makeF (n : Nat) (hn : n ≤ 1048576) (w : World) : (Instr.makeSlice 27 (.int .i64 (n : Int)) (.int .i64 (n : Int))).run Try.prog w = .ok (.slice (some ⟨w.heap.size, 0, none⟩) n n) (w.alloc (.cells (madeCells #[.int .i64 0, .int .i64 0, .int .i64 0] (n * 3)) 77)) := by
  obtain ⟨i, hi, hzz⟩ := Option.map_eq_some_iff.1 infoF
  simp only [Prod.mk.injEq] at hzz
  obtain ⟨hz, hs, hb⟩ := hzz
  have hr := run_make (P := Try.prog) w 27 77 i (.agg #[.int .i64 0, .int .i64 0, .int .i64 0]) Try.underlying27 hi hz .i64 .i64 n n (by omega) (Int.le_refl _) (by rw [hb]; omega) (by omega)
  simp only [Int.toNat_natCast, hs] at hr
  exact hr
set_option maxRecDepth 100000 in
set_option maxHeartbeats 400000 in
theorem szFr_t (a : Option Addr) (n cap : Nat) (v : Int) (w : World) (h0 : (n : Int) ≤ v) (h1 : v ≤ 1048576) : Calls Try.prog 14 #[.slice a n cap, .int .i64 v] w fun e w' => e = .returned (.int .i64 (v - n)) ∧ w = w' := by
  have hn : ¬ (v - (n : Int) < 0) := by omega
  go_enter Try.func14, Try.ntmps14
  go_wp2
  go_ret
  exact ⟨rfl, rfl⟩
set_option maxRecDepth 100000 in
set_option maxHeartbeats 400000 in
theorem szFr_f (a : Option Addr) (n cap : Nat) (v : Int) (w : World) (h0 : v < (n : Int)) (h1 : 0 ≤ v ∧ v ≤ 1048576) (hm : n ≤ maxLen) : Calls Try.prog 14 #[.slice a n cap, .int .i64 v] w fun e w' => e = .returned (.int .i64 (-1)) ∧ w = w' := by
  unfold maxLen at hm
  have hn : (v - (n : Int) < 0) := by omega
  go_enter Try.func14, Try.ntmps14
  go_wp2
  go_ret
  exact ⟨rfl, rfl⟩
set_option maxRecDepth 100000 in
set_option maxHeartbeats 1000000 in
theorem toFiring (p0 p1 p2 : Int) (w : World) :
    Calls Try.prog 64 #[.agg #[.int .i64 p0, .int .i64 p1, .int .i64 p2]] w fun e w' => e = .returned (.agg #[.int .i64 p0, .int .i64 p1, .int .i64 p2]) ∧ Below w.heap.size w w' := by
  go_enter Try.func64, Try.ntmps64
  go_wp2
  exact bodyPost_ret (v := .agg #[.int .i64 p0, .int .i64 p1, .int .i64 p2]) (by simp [results, Try.results64, go_sem]) rfl ⟨rfl, (b_alloc2 _ _ _).alloc (by simp; omega) _⟩
set_option maxRecDepth 100000 in
set_option maxHeartbeats 1000000 in
theorem eqFiring (p0 p1 p2 : Int) (w : World) :
    Calls Try.prog 65 #[.agg #[.int .i64 p0, .int .i64 p1, .int .i64 p2], .agg #[.int .i64 p0, .int .i64 p1, .int .i64 p2]] w fun e w' => e = .returned (.bool true) ∧ Below w.heap.size w w' := by
  go_enter Try.func65, Try.ntmps65
  go_wp2
  go_ret
  exact ⟨rfl, b_alloc2 _ _ _⟩
set_option maxRecDepth 100000 in
set_option maxHeartbeats 2000000 in
theorem toFirings (a : Option Addr) (n cap : Nat) (l : List M.Fr) (w : World) (h : Frs w a n l) (hn : n ≤ 1048576) :
    Calls Try.prog 16 #[.slice a n cap] w fun e w' => ∃ b, e = .returned (.slice b n n) ∧ OwnFr w' w.heap.size (.slice b n n) l ∧ Below w.heap.size w w' := by
  have HI := Lib.hid h
  have HL : Hid (l.length = n) := h.1
  have hmk := run_makeF n hn
  have HO0 : Hid (OwnFr (w.alloc (.cells (madeCells #[.int .i64 0, .int .i64 0, .int .i64 0] (n * 3)) 77)) w.heap.size (.slice (some ⟨w.heap.size, 0, none⟩) n n) (M.cpF l n 0)) := by
    rw [M.cpF_zero]; exact ownFr_made w _ n (Nat.le_refl _) (by unfold maxLen; omega)
  have HB0 : Hid (Below w.heap.size w (w.alloc (.cells (madeCells #[.int .i64 0, .int .i64 0, .int .i64 0] (n * 3)) 77))) := b_alloc w _
  have HTo : Hid (∀ p0 p1 p2 w, Calls Try.prog 64 #[.agg #[.int .i64 p0, .int .i64 p1, .int .i64 p2]] w fun e w' => e = .returned (.agg #[.int .i64 p0, .int .i64 p1, .int .i64 p2]) ∧ Below w.heap.size w w') := toFiring
  clear h
  go_enter Try.func16, Try.ntmps16
  go_wp2
  go_loopw [4] (fun kv wr => ∃ k : Nat, k ≤ n ∧ kv = .int .i64 k ∧ Hid (OwnFr wr w.heap.size (.slice (some ⟨w.heap.size, 0, none⟩) n n) (M.cpF l n k)) ∧ Hid (Below w.heap.size w wr)) (fun kv _ => n - (intOf kv).toNat)
  case atStart => exact ⟨0, Nat.zero_le _, rfl, HO0, HB0⟩
  case round =>
    obtain ⟨k, hk, rfl, HO, HB⟩ := hrel
    obtain ⟨wo, rfl⟩ : ∃ x, x = wr := ⟨_, rfl⟩
    clear HO0 HB0
    by_cases hkl : k < n
    · have hki : (k : Int) < (n : Int) := by omega
      obtain ⟨b, off, p0, p1, p2, rfl, -, hp, c0, c1, c2⟩ := (HI.out.below HB.out).at k hkl
      have HS := M.cpF_set l hkl
      rw [hp] at HS
      have HSh := Lib.hid HS
      clear HS hp
      go_wp2_with fail
      refine (HTo.out p0 p1 p2 _).mono ?_
      rintro e w2 ⟨rfl, hb2⟩
      have hO2 := HO.out.below hb2
      obtain ⟨⟨v0, d0⟩, ⟨v1, d1⟩, ⟨v2, d2⟩, f0, f1, f2⟩ := hO2.room hkl
      have HN := Lib.hid (hO2.setT hkl p0 p1 p2)
      have HB2 := Lib.hid ((((HB.out.trans (hb2.mono HB.out.size)).setCell (p := ⟨w.heap.size, k * 3, none⟩) (Nat.le_refl _) (.int .i64 p0)).setCell (p := ⟨w.heap.size, k * 3 + 1, none⟩) (Nat.le_refl _) (.int .i64 p1)).setCell (p := ⟨w.heap.size, k * 3 + 2, none⟩) (Nat.le_refl _) (.int .i64 p2))
      rw [HSh.out] at HN
      clear hO2 hb2
      go_wp2
      go_roundw
      case rel => exact ⟨k + 1, by omega, by go_num, HN, HB2⟩
      case measure => simp [intOf]; omega
    · obtain rfl : k = n := by omega
      have hO := HO.out
      rw [show M.cpF l k k = l by rw [← HL.out]; exact M.cpF_all l] at hO
      have HO := Lib.hid hO
      clear hO
      go_wp2
      go_ret
      exact ⟨_, rfl, HO.out, HB.out⟩
set_option maxRecDepth 100000 in
set_option maxHeartbeats 2000000 in
theorem eqFirings (a : Option Addr) (n cap : Nat) (a' : Option Addr) (n' cap' : Nat) (l : List M.Fr) (w : World) (h : Frs w a n l) (h' : Frs w a' n' l) :
    Calls Try.prog 19 #[.slice a n cap, .slice a' n' cap'] w fun e w' => e = .returned (.bool true) ∧ Below w.heap.size w w' := by
  obtain rfl : n' = n := by rw [← h.1, ← h'.1]
  have HI := Lib.hid h
  have HI' := Lib.hid h'
  have hm := h.2.1
  unfold maxLen at hm
  have HEq : Hid (∀ p0 p1 p2 w, Calls Try.prog 65 #[.agg #[.int .i64 p0, .int .i64 p1, .int .i64 p2], .agg #[.int .i64 p0, .int .i64 p1, .int .i64 p2]] w fun e w' => e = .returned (.bool true) ∧ Below w.heap.size w w') := eqFiring
  clear h h'
  go_enter Try.func19, Try.ntmps19
  go_wp2
  go_loopw [5] (fun kv wr => ∃ k : Nat, k ≤ n' ∧ kv = .int .i64 k ∧ Hid (Below w.heap.size w wr)) (fun kv _ => n' - (intOf kv).toNat)
  case atStart => exact ⟨0, Nat.zero_le _, rfl, Below.refl _ _⟩
  case round =>
    obtain ⟨k, hk, rfl, HB⟩ := hrel
    obtain ⟨wo, rfl⟩ : ∃ x, x = wr := ⟨_, rfl⟩
    by_cases hkl : k < n'
    · have hki : (k : Int) < (n' : Int) := by omega
      obtain ⟨b, off, p0, p1, p2, rfl, -, hp, c0, c1, c2⟩ := (HI.out.below HB.out).at k hkl
      obtain ⟨b', off', q0, q1, q2, rfl, -, hq, d0, d1, d2⟩ := (HI'.out.below HB.out).at k hkl
      rw [hp] at hq
      injection hq with e0 hq
      injection hq with e1 e2
      subst e0 e1 e2
      clear hp
      go_wp2
      go_region_with (first | (go_at_call 65; refine (HEq.out p0 p1 p2 _).mono ?_; rintro e w2 ⟨rfl, hb2⟩))
      all_goals
        have HB2 : Hid (Below w.heap.size w w2) := (HB.out.trans ((b_draws wo 1).mono HB.out.size)).trans (hb2.mono (by have := HB.out.size; simpa using this))
        go_wp2
        go_roundw
        case rel => exact ⟨k + 1, by omega, by go_num, HB2⟩
        case measure => simp [intOf]; omega
    · obtain rfl : k = n' := by omega
      go_wp2
      go_ret
      exact ⟨rfl, HB.out⟩
set_option maxRecDepth 100000 in
set_option maxHeartbeats 4000000 in
theorem markFirings (a : Option Addr) (n cap B : Nat) (l : List M.Fr) (m : Int) (w0 w : World) (h0 : OwnFr w0 B (.slice a n cap) l) (hb0 : Same B w0.heap.size w0 w) (hn : n ≤ 1048576) (h1 : 0 ≤ m) (h2 : m ≤ 40000000) :
    Calls Try.prog 20 #[.slice a n cap, .int .i64 m] w fun e w' => ∃ y : Int, e = .returned (.int .i64 y) ∧ 0 ≤ y ∧ Hid (y = m + 3 * n) ∧ OwnFr w' B (.slice a n cap) (M.iof m n) ∧ Chg (fun k => B ≤ k ∧ k < w0.heap.size) w w' := by
  have h := h0.keep hb0
  have HO := Lib.hid h
  have HL : Hid (n = l.length) := h.len
  have hgg := h0.form
  obtain ⟨a', c', hv, -, -, hg⟩ := hgg
  injection hv with e1 e2 e3
  subst e1 e3
  rw [← e2] at hg
  have HG := Lib.hid hg
  have HO0 : Hid (OwnFr w B (.slice a n cap) (M.mkFK m l n 0)) := by
    show OwnFr _ _ _ _
    have := M.mkFK_zero m l
    rw [← HL.out] at this
    rw [this]; exact h
  clear h h0 hb0 hg e2
  go_enter Try.func20, Try.ntmps20
  go_wp2
  go_loopw [1, 5] (fun x i wr => ∃ (k : Nat) (y : Int), k ≤ n ∧ i = .int .i64 k ∧ x = .int .i64 y ∧ y = m + 3 * k ∧ Hid (OwnFr wr B (.slice a n cap) (M.mkFK m l n k)) ∧ Hid (Chg (fun k => B ≤ k ∧ k < w0.heap.size) w wr)) (fun _ i _ => n - (intOf i).toNat)
  case atStart => exact ⟨0, m, Nat.zero_le _, rfl, rfl, by simp, HO0, Chg.refl _ _⟩
  case round =>
    obtain ⟨k, y, hk, rfl, rfl, hy, hO, HC⟩ := hrel
    clear HO0
    by_cases hkl : k < n
    · obtain ⟨g, rfl, hBg, hgl⟩ := HG.out (by omega)
      have hki : (k : Int) < (n : Int) := by omega
      obtain ⟨⟨v0, d0⟩, ⟨v1, d1⟩, ⟨v2, d2⟩, f0, f1, f2⟩ := hO.out.room hkl
      have HN := Lib.hid (hO.out.setT hkl y (y + 1) (y + 1 + 1))
      rw [show (y, y + 1, y + 1 + 1) = M.mkF m k by unfold M.mkF; rw [hy]; ext <;> simp <;> omega, M.mkFK_set m l hkl] at HN
      have HC2 : Hid (Chg (fun k => B ≤ k ∧ k < w0.heap.size) w (((wr.setCell ⟨g, k * 3, none⟩ (.int .i64 y)).setCell ⟨g, k * 3 + 1, none⟩ (.int .i64 (y + 1))).setCell ⟨g, k * 3 + 2, none⟩ (.int .i64 (y + 1 + 1)))) := ((HC.out.set ⟨hBg, hgl⟩ _).set ⟨hBg, hgl⟩ _).set ⟨hBg, hgl⟩ _
      have HY := Lib.hid hy
      have hy0 : 0 ≤ y := by omega
      have hy1 : y ≤ 50000000 := by omega
      clear hy hO
      go_wp2
      go_roundw
      case rel => exact ⟨k + 1, y + 1 + 1 + 1, by omega, by go_num, by first | rfl | go_num, by have := HY.out; omega, HN, HC2⟩
      case measure => simp [intOf]; omega
    · obtain rfl : k = n := by omega
      have HNo : Hid (OwnFr wr B (.slice a k cap) (M.iof m k)) := by
        have := hO.out
        rw [M.mkFK_all] at this
        exact this
      have HY := Lib.hid hy
      go_wp2
      go_ret
      exact ⟨y, rfl, by omega, HY.out, HNo.out, HC.out⟩
end V
end Go.Proofs.Ytjbffpmelglegaa
