/- The closures of a matrix by rounds over its nodes, in the program. -/
import Derived.Test.YthonlfjjgmmnpabRows
import Derived.Test.YthonlfjjgmmnpabPln
import Derived.Test.YthonlfjjgmmnpabHelp
import Derived.Test.YthonlfjjgmmnpabRows0
import Derived.Test.YthonlfjjgmmnpabOwn
import Derived.Test.YthonlfjjgmmnpabMat0
import Derived.WalkKit
import Derived.ProofKit
import Derived.WalkSmall
import Derived.Deep.QuietTactic
import Derived.BigQuiet
import Derived.BigRegion
import Derived.Deep.Draws
import Derived.Lib.Hide
import Derived.IntWalk
import Derived.OpenShut
import Derived.Deep.OwnRows
import Derived.Test.YthonlfjjgmmnpabVals0
import Derived.Test.YthonlfjjgmmnpabApp
import Derived.Test.YthonlfjjgmmnpabSBot
import Derived.Test.YthonlfjjgmmnpabSAdd
import Derived.Test.YthonlfjjgmmnpabVec
import Derived.Test.YthonlfjjgmmnpabIsMat
import Derived.Test.YthonlfjjgmmnpabSMul
import Derived.Test.YthonlfjjgmmnpabIAdd
import Derived.Test.YthonlfjjgmmnpabIMul
import Derived.Test.YthonlfjjgmmnpabPth1
import Derived.Test.YthonlfjjgmmnpabPth2
import Derived.StillTailTactics
import Derived.Lib.SliceRun
namespace Go.Proofs.Ythonlfjjgmmnpab.V
open Go.RowKit

set_option maxRecDepth 100000 in
set_option maxHeartbeats 1000000 in
theorem clone (a : Option Addr) (n cap : Nat) (l : List Int) (w : World) (h : Ints .i64 w a n l) (h0 : 0 < n) (hn : n ≤ 1000) :
    Calls Try.prog 95 #[.slice a n cap] w fun e w' => ∃ b c, e = .returned (.slice b n c) ∧ Own w' w.heap.size (.slice b n c) l ∧ Below w.heap.size w w' := by
  obtain ⟨hl, hm, hr⟩ := h
  rcases hr with hr | ⟨b, off, rfl, hb, hc⟩
  · omega
  have HL := Lib.hid hl
  have HC := Lib.hid hc
  have HO : Hid (Own (w.alloc (.cells #[] 2)) w.heap.size (.slice (some ⟨w.heap.size, 0, none⟩) 0 0) []) := own_lit0 w _ (Nat.le_refl _)
  obtain ⟨i0, hi, hz0, hz1, hz2⟩ := info_parts info64
  clear hl hc hm
  have HI := Lib.hid hi
  clear hi
  have hnil := fun w : World => Lib.run_eql_slice_nil (P := Try.prog) w 30 2 (some (⟨b, off, none⟩ : Addr)) n cap 0 0 Try.underlying30
  go_enter Try.func95, Try.ntmps95
  go_wp2_with (at_builtin; refine wpList_append_own_at (w := w.alloc (.cells #[] 2)) rfl (.tmp 5) (.tmp 6) 30 rfl w.heap.size 2 i0 (.int .i64 0) 1 8 Try.underlying30 HI.out hz0 hz1 hz2 rfl (by decide) (.slice (some ⟨w.heap.size, 0, none⟩) 0 0) 0 [] rfl HO.out ⟨b, off, none⟩ n cap (l.map (Value.int .i64)) rfl ?c0 ?c1 ?c2 ?c3 ?c4 ?c5 ?_)
  case c0 => have := HL.out; simp [this]
  case c1 =>
    refine ints_cells (fun i hi' => ?_) HL.out
    rw [(b_alloc w _).cell (p := ⟨b, off + i, none⟩) hb]; exact HC.out i hi'
  case c2 => intro u hu; obtain ⟨x, _, rfl⟩ := List.mem_map.1 hu; rfl
  case c3 => unfold maxLen; omega
  case c4 => omega
  case c5 => simp
  intro v' w' ho hg hz hv
  have ho' : Own w' w.heap.size v' l := by
    show w'.ownsRow w.heap.size _ 1 v' l.length (l.map (Value.int .i64))
    rw [HL.out]
    simpa using ho
  obtain ⟨b', c', rfl, _⟩ := own_form ho'
  rw [HL.out] at ho' ⊢
  have HB : Hid (Below w.heap.size w w') := (b_alloc w _).grown hg (by simp) (fun k hk => by simp [Value.ownBlock] at hk; omega)
  have HO' := Lib.hid ho'
  clear ho ho' hg hz hv
  go_wp2
  go_ret
  exact ⟨_, _, rfl, HO'.out, HB.out⟩

set_option maxRecDepth 100000 in
set_option maxHeartbeats 1000000 in
theorem copiedMatrix (a : Option Addr) (n cap : Nat) (R : List (List Int)) (L : Nat) (w : World) (h : Mat w a n R) (hr : Rect R n L) (m1 : 1 ≤ n) (hm : n ≤ 10) (n1 : 1 ≤ L) (hn : L ≤ 10) :
    Calls Try.prog 85 #[.slice a n cap] w (MPost n R w) := by
  have HA := Lib.hid h
  have HR := Lib.hid hr
  obtain ⟨b, off, -, -, rfl, -, -⟩ := h.rect_first hr (by omega)
  have hmk := run_make_row' (P := Try.prog) 24 30 (.slice none 0 0) 24 Try.underlying24 infoS64 rfl .i64 .i64 n (by omega) (by omega)
  have hO0 : Hid (OwnM (w.alloc (.cells (madeCells #[.slice none 0 0] n) 30)) w.heap.size (.slice (some ⟨w.heap.size, 0, none⟩) n n) (List.replicate n [])) := ownM_made w _ n (Nat.le_refl _) (by unfold maxLen; omega)
  clear h hr
  go_enter Try.func85, Try.ntmps85
  go_wp2
  clear hmk
  go_loopw [4, 5, 11] (fun _ _ i wr => ∃ k : Nat, k ≤ n ∧ i = .int .i64 k ∧ OwnM wr w.heap.size (.slice (some ⟨w.heap.size, 0, none⟩) n n) ((List.range n).map fun j => if j < k then R.getD j [] else []) ∧ Below w.heap.size w wr) (fun _ _ i _ => n - (intOf i).toNat)
  case atStart =>
    refine ⟨0, Nat.zero_le _, rfl, (congrArg (OwnM _ _ _) ?_).mp hO0.out, b_alloc _ _⟩
    apply List.ext_getElem
    · simp
    · intro i h1 h2; simp
  case round =>
    obtain ⟨k, hk, rfl, hO, hb⟩ := hrel
    have HO := Lib.hid hO
    have HB := Lib.hid hb
    clear hO hb hO0
    by_cases hlt : k < n
    · have hki : (k : Int) < (n : Int) := by omega
      have hg := HO.out.lt rfl
      obtain ⟨d, od, rr, rcr, hdd, hbr, hcr, hIr⟩ := (HA.out.below HB.out).rect_at HR.out k hlt
      injection hdd with hdd
      injection hdd with e1 e2
      subst e1 e2
      have HIR := Lib.hid hIr
      clear hIr
      go_wp2_with fail
      refine (clone _ _ _ _ _ HIR.out (by omega) (by omega)).mono ?_
      rintro e w1 ⟨b1, c1, rfl, ho1, hb1⟩
      have hst : ∃ v, w1.cell? ⟨w.heap.size, k, none⟩ = some v := by
        obtain ⟨v, hv⟩ := HO.out.outer k hlt
        exact ⟨v, by rw [hb1.cell (p := ⟨w.heap.size, k, none⟩) hg]; exact hv⟩
      obtain ⟨v, hst⟩ := hst
      have hfz : w1.frozen? ⟨w.heap.size, k, none⟩ = false := by rw [hb1.frozen (p := ⟨w.heap.size, k, none⟩) hg]; exact HO.out.outerFz k
      have HN := Lib.hid (HO.out.setRow hb1 HB.out.size ho1 k hlt)
      have HB1 := Lib.hid (bnext HB.out hb1)
      clear ho1 hb1 hg
      go_wp2
      go_roundw
      case rel =>
        refine ⟨k + 1, by omega, by go_num, ?_, HB1.out.setCell (Nat.le_refl _) _⟩
        refine (congrArg (OwnM _ _ _) ?_).mp HN.out
        rw [M.map_set_rows]
        refine List.map_congr_left fun s _ => ?_
        by_cases e : s = k
        · subst e; rw [if_pos rfl, if_pos (by omega)]
        · rw [if_neg e]
          by_cases e2 : s < k
          · rw [if_pos e2, if_pos (by omega)]
          · rw [if_neg e2, if_neg (by omega)]
      case measure => simp [intOf]; omega
    · obtain rfl : k = n := by omega
      go_wp2
      go_ret
      refine ⟨_, _, rfl, (congrArg (OwnM _ _ _) ?_).mp HO.out, HB.out⟩
      have hl := HR.out.1
      apply List.ext_getElem
      · simp [hl]
      · intro i h1 h2
        simp at h1
        simp [h1, h2]

/-- Three entries of an owned square matrix, of which the first is written. -/
theorem OwnM.tri {w : World} {B n cap : Nat} {a : Option Addr} {R : List (List Int)} (h : OwnM w B (.slice a n cap) R) (hr : Rect R n n) (i j k : Nat) (hi : i < n) (hj : j < n) (hk : k < n) :
    ∃ g q c q' c', a = some ⟨g, 0, none⟩ ∧ B ≤ q ∧ w.cell? ⟨g, i, none⟩ = some (.slice (some ⟨q, 0, none⟩) n c) ∧ w.cell? ⟨q, j, none⟩ = some (.int .i64 (M.ent R i j)) ∧ w.cell? ⟨q, k, none⟩ = some (.int .i64 (M.ent R i k)) ∧
      w.cell? ⟨g, k, none⟩ = some (.slice (some ⟨q', 0, none⟩) n c') ∧ w.cell? ⟨q', j, none⟩ = some (.int .i64 (M.ent R k j)) ∧ w.frozen? ⟨q, j, none⟩ = false ∧
      ∀ y, OwnM (w.setCell ⟨q, j, none⟩ (.int .i64 y)) B (.slice a n cap) (R.set i ((R.getD i []).set j y)) := by
  obtain ⟨g, q, L, c, x, rfl, _, hq, hL, hx, h1, h2, h3, h4⟩ := h.at i j hi (by rw [hr.2 i hi]; exact hj)
  obtain ⟨g2, q2, L2, c2, x2, e, _, _, hL2, hx2, k1, k2, _, _⟩ := h.at i k hi (by rw [hr.2 i hi]; exact hk)
  injection e with e
  injection e with e
  subst e
  rw [h1] at k1
  injection k1 with k1
  injection k1 with k1 _ _
  injection k1 with k1
  injection k1 with k1
  subst k1
  obtain ⟨g3, q3, L3, c3, x3, e, _, _, hL3, hx3, m1, m2, _, _⟩ := h.at k j hk (by rw [hr.2 k hk]; exact hj)
  injection e with e
  injection e with e
  subst e
  rw [hr.2 i hi] at hL
  rw [hr.2 k hk] at hL3
  subst hL hL3 hx hx2 hx3
  exact ⟨g, q, c, q3, c3, rfl, hq, h1, h2, k2, m1, m2, h3, h4⟩
end Go.Proofs.Ythonlfjjgmmnpab.V
