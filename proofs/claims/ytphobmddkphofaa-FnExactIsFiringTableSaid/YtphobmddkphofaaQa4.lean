/- Texts laid together: Apply, Grf, Grg, Grh, Gri, Grj. -/
import Derived.Test.YtphobmddkphofaaRows
import Derived.Test.YtphobmddkphofaaQa1
import Derived.Test.YtphobmddkphofaaQa2
import Derived.WalkKit
import Derived.ProofKit
import Derived.WalkSmall
import Derived.Deep.QuietTactic
import Derived.BigQuiet
import Derived.BigRegion
import Derived.Deep.Draws
import Derived.Lib.Hide
import Derived.OpenShut
import Derived.Deep.OwnRows
import Derived.Test.YtphobmddkphofaaQa3
import Derived.StillTailTactics
import Derived.Deep.RegionLaw
import Derived.Lib.SliceRun
import Derived.Lib.AppendZeros
set_option linter.unusedSimpArgs false
set_option linter.unusedVariables false
set_option linter.unusedSectionVars false
namespace Go.Proofs.Ytphobmddkphofaa.V
open Go.RowKit

/-- A new vector and a code. -/
def VRes (r : List Int × Int) (w : World) (e : Ending) (w' : World) : Prop :=
  ∃ a n cap, e = .returned (.tuple #[.slice a n cap, .int .i64 r.2]) ∧ Own w' w.heap.size (.slice a n cap) r.1 ∧ Below w.heap.size w w'
theorem VRes.nil {r : List Int × Int} {c : Int} {w w' : World} (hr : r = ([], c)) (hb : Below w.heap.size w w') : VRes r w (.returned (.tuple #[.slice none 0 0, .int .i64 c])) w' := by
  subst hr
  exact ⟨none, 0, 0, rfl, own_nil _ _, hb⟩

theorem ints_vec {w : World} {a : Option Addr} {n : Nat} {l : List Int} (h : Ints .i64 w a n l) (hv : M.isVec l = true) : 1 ≤ n ∧ n ≤ 10 := by
  obtain ⟨h1, h2, -⟩ := M.isVec_t hv
  rw [h.1] at h1 h2
  exact ⟨h1, h2⟩
/-- A matrix of one row that is not its own. -/
theorem mat_one (w : World) (a : Option Addr) (n cap : Nat) (l : List Int) (h : Ints .i64 w a n l) : Mat (w.alloc (.cells #[.slice a n cap] 29)) (some ⟨w.heap.size, 0, none⟩) 1 [l] := by
  refine ⟨rfl, by decide, .inr ⟨_, _, rfl, by simp, fun i hi => ?_⟩⟩
  obtain rfl : i = 0 := by omega
  have hc := cell_one_new w (.slice a n cap) 29 0 _ rfl
  refine ⟨a, cap, ?_, ?_⟩
  · show _ = some (Value.slice a l.length cap)
    rw [h.1]; exact hc
  · show Ints _ _ _ l.length l
    rw [h.1]; exact h.below (b_alloc w _)

/-- The first row of an owned matrix. -/
theorem OwnM.row0 {w : World} {B n cap : Nat} {a : Option Addr} {R : List (List Int)} (h : OwnM w B (.slice a n cap) R) (hn : 0 < n) :
    ∃ g ra rc, a = some ⟨g, 0, none⟩ ∧ w.cell? ⟨g, 0, none⟩ = some (.slice ra (R.getD 0 []).length rc) ∧ Own w B (.slice ra (R.getD 0 []).length rc) (R.getD 0 []) := by
  have hl := h.len
  obtain ⟨V, h1, h2, h3, h4, h5⟩ := h
  obtain ⟨a', c', hv, hc, hm, hg⟩ := own_form h2
  injection hv with e1 e2 e3
  subst e1 e2 e3
  obtain ⟨g, rfl, hB, hlt⟩ := hg (by omega)
  have hr := h3 0 (by omega)
  obtain ⟨ra, rc, hrv, _⟩ := own_form hr
  rw [hrv] at hr
  refine ⟨g, ra, rc, rfl, ?_, hr⟩
  rw [World.ownsRow.cellAt h2 0 (by omega), ← hrv]
  simp [show 0 < V.length by omega]

/-- The column of a vector. -/
def M.colM (l : List Int) (n : Nat) : List (List Int) := M.mk n 1 (fun i _ => l.getD i 0)
theorem M.colM_ok {l : List Int} {n : Nat} (hv : M.isVec l = true) (hl : l.length = n) : M.isMat (M.colM l n) = true := by
  obtain ⟨h1, h2, h3⟩ := M.isVec_t hv
  exact M.isMat_mk (by omega) (by omega) (Nat.le_refl _) (by omega) (fun i hi _ _ => h3 i (by omega))
theorem M.dot_col {R : List (List Int)} {l : List Int} {n i k : Nat} (hk : k ≤ n) : M.dot R (M.colM l n) i 0 k = M.dotV R l i k := by
  unfold M.dot M.dotV
  refine M.sumN_congr fun t ht => ?_
  rw [M.colM, M.ent_mk _ _ _ _ _ (by omega) (by omega)]







end Go.Proofs.Ytphobmddkphofaa.V

namespace Go.Proofs.Ytphobmddkphofaa
namespace M
def pTo (p : Pc) : Int := p.2.1
def pFrom (p : Pc) : Int := p.1
def plcL (f : Pc → Int) (l : List Pc) (ev : Int) (k : Nat) : List Int := ((List.range k).filter fun i => decide (f (l.getD i pz) = ev)).map fun i : Nat => (i : Int)
def evCode (e : Int) (l : List Pc) (ev : Int) : Int := if isGr e l then (if inB ev 0 (e - 1) then 0 else 2) else 1
def plcRes (f : Pc → Int) (e : Int) (l : List Pc) (ev : Int) : List Int × Int := if isGr e l then (if inB ev 0 (e - 1) then (plcL f l ev l.length, 0) else ([], 2)) else ([], 1)
theorem plcL_next (f : Pc → Int) (l : List Pc) (ev : Int) (k : Nat) : plcL f l ev (k + 1) = if f (l.getD k pz) = ev then plcL f l ev k ++ [(k : Int)] else plcL f l ev k := by
  unfold plcL
  rw [List.range_succ, List.filter_append, List.map_append]
  by_cases h : f (l.getD k pz) = ev
  · rw [if_pos h, List.filter_cons_of_pos (by rw [decide_eq_true_iff]; exact h)]; rfl
  · rw [if_neg h, List.filter_cons_of_neg (by rw [decide_eq_true_iff]; exact h)]; simp
theorem plcL_len (f : Pc → Int) (l : List Pc) (ev : Int) (k : Nat) : (plcL f l ev k).length ≤ k := by
  unfold plcL
  rw [List.length_map]
  exact Nat.le_trans (List.length_filter_le _ _) (by simp)
theorem plcRes_len (f : Pc → Int) (e : Int) (l : List Pc) (ev : Int) : (plcRes f e l ev).1.length ≤ 30 := by
  unfold plcRes
  cases h : isGr e l with
  | false => simp
  | true =>
    have hl : l.length ≤ 30 := by
      unfold isGr at h
      simp only [Bool.and_eq_true, decide_eq_true_iff] at h
      exact h.2.1
    cases h2 : inB ev 0 (e - 1) with
    | false => simp
    | true => have := plcL_len f l ev l.length; simp; omega
theorem isGr_in {e : Int} {l : List Pc} (h : isGr e l = true) : inB e 1 10 = true ∧ l.length ≤ 30 := by
  unfold isGr at h
  simp only [Bool.and_eq_true, decide_eq_true_iff] at h
  exact ⟨h.1, h.2.1⟩
end M
namespace V
set_option maxRecDepth 100000
open Go.RowKit
set_option maxRecDepth 100000 in
set_option maxHeartbeats 1000000 in
theorem sEvent (x : Int) (a : Option Addr) (n cap : Nat) (l : List M.Pc) (ev : Int) (w : World) (h : Pls w a n l) :
    Calls Try.prog 76 #[.agg #[.int .i64 x, .slice a n cap], .int .i64 ev] w fun e w' => e = .returned (.int .i64 (M.evCode x l ev)) ∧ Below w.heap.size w w' := by
  have hb0 := b_alloc w (.cells #[.int .i64 x, .slice a n cap] 26)
  obtain ⟨r, hr⟩ : ∃ r, r = M.isGr x l := ⟨_, rfl⟩
  have HS : Hid (Calls Try.prog 98 #[.agg #[.int .i64 x, .slice a n cap]] (w.alloc (.cells #[.int .i64 x, .slice a n cap] 26)) fun e w' => e = .returned (.bool r) ∧ Below (w.alloc (.cells #[.int .i64 x, .slice a n cap] 26)).heap.size (w.alloc (.cells #[.int .i64 x, .slice a n cap] 26)) w') := by
    rw [hr]; exact sIsEventGraph x a n cap l _ (h.below hb0)
  have HIn : Hid (r = true → M.inB x 1 10 = true) := fun q => (M.isGr_in (hr.symm.trans q)).1
  have HCd : Hid (∀ b, M.inB ev 0 (x - 1) = b → M.evCode x l ev = if r then (if b then 0 else 2) else 1) := fun b q => by unfold M.evCode; rw [q, ← hr]
  have hG := gBox_new w x a n cap 26
  obtain ⟨wb, hwb⟩ : ∃ z, z = w.alloc (.cells #[.int .i64 x, .slice a n cap] 26) := ⟨_, rfl⟩
  rw [← hwb] at HS hb0 hG
  have HG := Lib.hid hG
  have HB0 := Lib.hid hb0
  clear hr h hG hb0
  go_enter Try.func76, Try.ntmps76
  go_wp2_with fail
  rw [← hwb]
  clear hwb
  refine (HS.out).mono ?_
  rintro e w1 ⟨rfl, hb1⟩
  have HB1 := Lib.hid (HB0.out.trans (hb1.mono HB0.out.size))
  obtain ⟨g0, g1⟩ := HG.out.below hb1
  clear hb1
  cases r with
  | false =>
    have HE := Lib.hid (HCd.out _ rfl)
    go_wp2
    go_ret
    exact ⟨by rw [HE.out]; rfl, HB1.out⟩
  | true =>
    have hin := HIn.out rfl
    have hx : 1 ≤ x ∧ x ≤ 10 := by unfold M.inB at hin; simp at hin; exact hin
    clear hin
    cases h0 : (decide (0 ≤ ev) && decide (ev ≤ x - 1)) with
    | false =>
      have HE := Lib.hid (HCd.out false h0)
      go_wp2_with (go_at_call 89; refine (sIn _ _ _ _).mono ?_; rintro e w' ⟨rfl, rfl⟩)
      go_ret
      exact ⟨by rw [HE.out]; rfl, HB1.out⟩
    | true =>
      have HE := Lib.hid (HCd.out true h0)
      go_wp2_with (go_at_call 89; refine (sIn _ _ _ _).mono ?_; rintro e w' ⟨rfl, rfl⟩)
      go_ret
      exact ⟨by rw [HE.out]; rfl, HB1.out⟩
set_option maxRecDepth 100000 in
set_option maxHeartbeats 2000000 in
theorem sPlacesInto (x : Int) (a : Option Addr) (n cap : Nat) (l : List M.Pc) (ev : Int) (w : World) (h : Pls w a n l) (hn : n ≤ 30) :
    Calls Try.prog 77 #[.agg #[.int .i64 x, .slice a n cap], .int .i64 ev, .bool true] w fun e w' => ∃ b c, e = .returned (.slice b (M.plcL M.pTo l ev n).length c) ∧ Own w' w.heap.size (.slice b (M.plcL M.pTo l ev n).length c) (M.plcL M.pTo l ev n) ∧ Below w.heap.size w w' := by
  have HI := Lib.hid h
  have hO0 : Hid (Own ((w.alloc (.cells #[.int .i64 x, .slice a n cap] 26)).alloc (.cells #[] 2)) (w.heap.size + 1) (.slice (some ⟨w.heap.size + 1, 0, none⟩) 0 0) (M.plcL M.pTo l ev 0)) := by
    have := own_lit0 (w.alloc (.cells #[.int .i64 x, .slice a n cap] 26)) (w.heap.size + 1) (by simp)
    show Own _ _ _ []
    simpa using this
  have hB0 : Hid (Below w.heap.size w ((w.alloc (.cells #[.int .i64 x, .slice a n cap] 26)).alloc (.cells #[] 2))) := b_alloc2 w _ _
  have hG0 : Hid (GBox ((w.alloc (.cells #[.int .i64 x, .slice a n cap] 26)).alloc (.cells #[] 2)) w.heap.size x a n cap) := (gBox_new w x a n cap 26).below (b_alloc _ _)
  clear h
  go_enter Try.func77, Try.ntmps77
  go_wp2
  go_loopw [7, 8] (fun lv kv wr => ∃ (k : Nat) (b : Option Addr) (c : Nat), k ≤ n ∧ kv = .int .i64 k ∧ lv = .slice b (M.plcL M.pTo l ev k).length c ∧ Hid (Own wr (w.heap.size + 1) (.slice b (M.plcL M.pTo l ev k).length c) (M.plcL M.pTo l ev k)) ∧ Hid (GBox wr w.heap.size x a n cap) ∧ Hid (Below w.heap.size w wr)) (fun _ kv _ => n - (intOf kv).toNat)
  case atStart => exact ⟨0, _, _, Nat.zero_le _, rfl, rfl, hO0, hG0, hB0⟩
  case round =>
    obtain ⟨k, b, c, hk, rfl, rfl, HO, HG, HB⟩ := hrel
    obtain ⟨wo, rfl⟩ : ∃ x, x = wr := ⟨_, rfl⟩
    clear hO0 hB0 hG0
    obtain ⟨g0, g1⟩ := HG.out
    by_cases hkl : k < n
    · have hki : (k : Int) < (n : Int) := by omega
      obtain ⟨pb, off, p0, p1, p2, p3, rfl, -, hp, c0, c1, c2, c3⟩ := (HI.out.below HB.out).at k hkl
      have hsz := HB.out.size
      have hsz1 : w.heap.size + 1 ≤ wo.heap.size := cell_lt g0
      have hlen : (M.plcL M.pTo l ev k).length ≤ 30 := by have := M.plcL_len M.pTo l ev k; omega
      have hNx : M.plcL M.pTo l ev (k + 1) = if p1 = ev then M.plcL M.pTo l ev k ++ [(k : Int)] else M.plcL M.pTo l ev k := by
        have := M.plcL_next M.pTo l ev k
        rw [hp] at this
        exact this
      by_cases he : p1 = ev
      · have HN : Hid (M.plcL M.pTo l ev (k + 1) = M.plcL M.pTo l ev k ++ [(k : Int)]) := by show _ = _; rw [hNx, if_pos he]
        have HNl : Hid ((M.plcL M.pTo l ev (k + 1)).length = (M.plcL M.pTo l ev k).length + 1) := by show _ = _; rw [HN.out]; simp
        obtain ⟨L, hL⟩ : ∃ L, L = (M.plcL M.pTo l ev k).length := ⟨_, rfl⟩
        rw [← hL] at HO HNl hlen ⊢
        have HLl := Lib.hid hL.symm
        have heb : (p1 == ev) = true := by simpa using he
        clear hL hNx hp
        go_wp2_with (at_builtin; refine append1 _ rfl (.tmp 42) (.tmp 44) rfl (w.heap.size + 1) _ _ _ L HLl.out rfl HO.out rfl (by rw [HLl.out]; omega) hsz1 ?_)
        intro b2 c2' w2 hO2 hb2 hk2
        rw [← HN.out, ← HNl.out] at hO2
        have HO2 := Lib.hid hO2
        have HB2 := Lib.hid (HB.out.trans (hb2.mono (by omega)))
        have HG2 : Hid (GBox w2 w.heap.size x (some ⟨pb, off, none⟩) n cap) := by
          have hne : (Value.slice b L c).ownBlock ≠ some w.heap.size := fun q => absurd (own_lt HO.out q).1 (by omega)
          have e := hk2 w.heap.size (cell_lt g0) hne
          exact ⟨(World.cell?_of_block (a := ⟨w.heap.size, 0, none⟩) e).trans g0, (World.cell?_of_block (a := ⟨w.heap.size, 1, none⟩) e).trans g1⟩
        rw [← HNl.out]
        clear hO2 hb2 hk2
        go_wp2
        go_roundw
        case rel => exact ⟨k + 1, _, _, by omega, by go_num, rfl, HO2, HG2, HB2⟩
        case measure => simp [intOf]; omega
      · have HN : Hid (M.plcL M.pTo l ev (k + 1) = M.plcL M.pTo l ev k) := by show _ = _; rw [hNx, if_neg he]
        have heb : (p1 == ev) = false := by simpa using he
        clear hNx hp
        go_wp2
        go_roundw
        case rel => exact ⟨k + 1, _, _, by omega, by go_num, by rw [HN.out], by rw [HN.out]; exact HO, HG, HB⟩
        case measure => simp [intOf]; omega
    · obtain rfl : k = n := by omega
      go_wp2
      go_ret
      exact ⟨_, _, rfl, HO.out.mono (by omega), HB.out⟩
set_option maxRecDepth 100000 in
set_option maxHeartbeats 2000000 in
theorem sPlacesFrom (x : Int) (a : Option Addr) (n cap : Nat) (l : List M.Pc) (ev : Int) (w : World) (h : Pls w a n l) (hn : n ≤ 30) :
    Calls Try.prog 77 #[.agg #[.int .i64 x, .slice a n cap], .int .i64 ev, .bool false] w fun e w' => ∃ b c, e = .returned (.slice b (M.plcL M.pFrom l ev n).length c) ∧ Own w' w.heap.size (.slice b (M.plcL M.pFrom l ev n).length c) (M.plcL M.pFrom l ev n) ∧ Below w.heap.size w w' := by
  have HI := Lib.hid h
  have hO0 : Hid (Own ((w.alloc (.cells #[.int .i64 x, .slice a n cap] 26)).alloc (.cells #[] 2)) (w.heap.size + 1) (.slice (some ⟨w.heap.size + 1, 0, none⟩) 0 0) (M.plcL M.pFrom l ev 0)) := by
    have := own_lit0 (w.alloc (.cells #[.int .i64 x, .slice a n cap] 26)) (w.heap.size + 1) (by simp)
    show Own _ _ _ []
    simpa using this
  have hB0 : Hid (Below w.heap.size w ((w.alloc (.cells #[.int .i64 x, .slice a n cap] 26)).alloc (.cells #[] 2))) := b_alloc2 w _ _
  have hG0 : Hid (GBox ((w.alloc (.cells #[.int .i64 x, .slice a n cap] 26)).alloc (.cells #[] 2)) w.heap.size x a n cap) := (gBox_new w x a n cap 26).below (b_alloc _ _)
  clear h
  go_enter Try.func77, Try.ntmps77
  go_wp2
  go_loopw [7, 8] (fun lv kv wr => ∃ (k : Nat) (b : Option Addr) (c : Nat), k ≤ n ∧ kv = .int .i64 k ∧ lv = .slice b (M.plcL M.pFrom l ev k).length c ∧ Hid (Own wr (w.heap.size + 1) (.slice b (M.plcL M.pFrom l ev k).length c) (M.plcL M.pFrom l ev k)) ∧ Hid (GBox wr w.heap.size x a n cap) ∧ Hid (Below w.heap.size w wr)) (fun _ kv _ => n - (intOf kv).toNat)
  case atStart => exact ⟨0, _, _, Nat.zero_le _, rfl, rfl, hO0, hG0, hB0⟩
  case round =>
    obtain ⟨k, b, c, hk, rfl, rfl, HO, HG, HB⟩ := hrel
    obtain ⟨wo, rfl⟩ : ∃ x, x = wr := ⟨_, rfl⟩
    clear hO0 hB0 hG0
    obtain ⟨g0, g1⟩ := HG.out
    by_cases hkl : k < n
    · have hki : (k : Int) < (n : Int) := by omega
      obtain ⟨pb, off, p0, p1, p2, p3, rfl, -, hp, c0, c1, c2, c3⟩ := (HI.out.below HB.out).at k hkl
      have hsz := HB.out.size
      have hsz1 : w.heap.size + 1 ≤ wo.heap.size := cell_lt g0
      have hlen : (M.plcL M.pFrom l ev k).length ≤ 30 := by have := M.plcL_len M.pFrom l ev k; omega
      have hNx : M.plcL M.pFrom l ev (k + 1) = if p0 = ev then M.plcL M.pFrom l ev k ++ [(k : Int)] else M.plcL M.pFrom l ev k := by
        have := M.plcL_next M.pFrom l ev k
        rw [hp] at this
        exact this
      by_cases he : p0 = ev
      · have HN : Hid (M.plcL M.pFrom l ev (k + 1) = M.plcL M.pFrom l ev k ++ [(k : Int)]) := by show _ = _; rw [hNx, if_pos he]
        have HNl : Hid ((M.plcL M.pFrom l ev (k + 1)).length = (M.plcL M.pFrom l ev k).length + 1) := by show _ = _; rw [HN.out]; simp
        obtain ⟨L, hL⟩ : ∃ L, L = (M.plcL M.pFrom l ev k).length := ⟨_, rfl⟩
        rw [← hL] at HO HNl hlen ⊢
        have HLl := Lib.hid hL.symm
        have heb : (p0 == ev) = true := by simpa using he
        clear hL hNx hp
        go_wp2_with (at_builtin; refine append1 _ rfl (.tmp 42) (.tmp 44) rfl (w.heap.size + 1) _ _ _ L HLl.out rfl HO.out rfl (by rw [HLl.out]; omega) hsz1 ?_)
        intro b2 c2' w2 hO2 hb2 hk2
        rw [← HN.out, ← HNl.out] at hO2
        have HO2 := Lib.hid hO2
        have HB2 := Lib.hid (HB.out.trans (hb2.mono (by omega)))
        have HG2 : Hid (GBox w2 w.heap.size x (some ⟨pb, off, none⟩) n cap) := by
          have hne : (Value.slice b L c).ownBlock ≠ some w.heap.size := fun q => absurd (own_lt HO.out q).1 (by omega)
          have e := hk2 w.heap.size (cell_lt g0) hne
          exact ⟨(World.cell?_of_block (a := ⟨w.heap.size, 0, none⟩) e).trans g0, (World.cell?_of_block (a := ⟨w.heap.size, 1, none⟩) e).trans g1⟩
        rw [← HNl.out]
        clear hO2 hb2 hk2
        go_wp2
        go_roundw
        case rel => exact ⟨k + 1, _, _, by omega, by go_num, rfl, HO2, HG2, HB2⟩
        case measure => simp [intOf]; omega
      · have HN : Hid (M.plcL M.pFrom l ev (k + 1) = M.plcL M.pFrom l ev k) := by show _ = _; rw [hNx, if_neg he]
        have heb : (p0 == ev) = false := by simpa using he
        clear hNx hp
        go_wp2
        go_roundw
        case rel => exact ⟨k + 1, _, _, by omega, by go_num, by rw [HN.out], by rw [HN.out]; exact HO, HG, HB⟩
        case measure => simp [intOf]; omega
    · obtain rfl : k = n := by omega
      go_wp2
      go_ret
      exact ⟨_, _, rfl, HO.out.mono (by omega), HB.out⟩
set_option maxRecDepth 100000 in
set_option maxHeartbeats 2000000 in
theorem sPlacesIntoX (x : Int) (a : Option Addr) (n cap : Nat) (l : List M.Pc) (ev : Int) (w : World) (h : Pls w a n l) :
    Calls Try.prog 20 #[.agg #[.int .i64 x, .slice a n cap], .int .i64 ev] w (VRes (M.plcRes M.pTo x l ev) w) := by
  have HI := Lib.hid h
  have HL : Hid (l.length = n) := h.1
  have hb0 := b_alloc w (.cells #[.int .i64 x, .slice a n cap] 26)
  have hG := gBox_new w x a n cap 26
  obtain ⟨wb, hwb⟩ : ∃ z, z = w.alloc (.cells #[.int .i64 x, .slice a n cap] 26) := ⟨_, rfl⟩
  rw [← hwb] at hb0 hG
  obtain ⟨cd, hcd⟩ : ∃ c, c = M.evCode x l ev := ⟨_, rfl⟩
  have HS : Hid (Calls Try.prog 76 #[.agg #[.int .i64 x, .slice a n cap], .int .i64 ev] wb fun e w' => e = .returned (.int .i64 cd) ∧ Below wb.heap.size wb w') := by rw [hcd]; exact sEvent x a n cap l ev wb (h.below hb0)
  have HR0 : Hid (cd = 0 → M.plcRes M.pTo x l ev = (M.plcL M.pTo l ev n, 0) ∧ n ≤ 30) := fun q => by
    rw [hcd] at q
    unfold M.evCode at q
    unfold M.plcRes
    cases hg : M.isGr x l with
    | false => rw [hg] at q; simp at q
    | true =>
      rw [hg] at q
      cases he : M.inB ev 0 (x - 1) with
      | false => rw [he] at q; simp at q
      | true => rw [HL.out]; exact ⟨rfl, by rw [← HL.out]; exact (M.isGr_in hg).2⟩
  have HR1 : Hid (cd ≠ 0 → M.plcRes M.pTo x l ev = ([], cd)) := fun q => by
    rw [hcd] at q ⊢
    unfold M.evCode at q ⊢
    unfold M.plcRes
    cases hg : M.isGr x l with
    | false => rfl
    | true =>
      rw [hg] at q
      cases he : M.inB ev 0 (x - 1) with
      | false => rfl
      | true => rw [he] at q; simp at q
  have HG := Lib.hid hG
  have HB0 := Lib.hid hb0
  clear h hG hb0 hcd
  go_enter Try.func20, Try.ntmps20
  go_wp2_with fail
  rw [← hwb]
  clear hwb
  refine (HS.out).mono ?_
  rintro e w1 ⟨rfl, hb1⟩
  have HB1 := Lib.hid (HB0.out.trans (hb1.mono HB0.out.size))
  obtain ⟨g0, g1⟩ := HG.out.below hb1
  clear hb1
  by_cases h0 : cd = 0
  · obtain ⟨hr, hn⟩ := HR0.out h0
    have HR := Lib.hid hr
    subst h0
    clear hr
    go_wp2_with fail
    refine (sPlacesInto x a n cap l ev w1 (HI.out.below HB1.out) hn).mono ?_
    rintro e w2 ⟨b, c, rfl, ho, hb2⟩
    have HO := Lib.hid (ho.mono HB1.out.size)
    have HB2 := Lib.hid (HB1.out.trans (hb2.mono HB1.out.size))
    clear ho hb2
    go_wp2
    go_ret2
    rw [HR.out]
    exact ⟨_, _, _, rfl, HO.out, HB2.out⟩
  · have HR := Lib.hid (HR1.out h0)
    have hb : (cd != 0) = true := by simpa using h0
    go_wp2
    go_ret2
    exact VRes.nil HR.out HB1.out
set_option maxRecDepth 100000 in
set_option maxHeartbeats 400000 in
theorem endInto (p0 p1 p2 p3 : Int) (w : World) : Calls Try.prog 75 #[.agg #[.int .i64 p0, .int .i64 p1, .int .i64 p2, .int .i64 p3]] w fun e w' => e = .returned (.int .i64 p1) ∧ Below w.heap.size w w' := by
  go_enter Try.func75, Try.ntmps75
  go_wp2
  go_ret
  exact ⟨rfl, b_alloc _ _⟩
set_option maxRecDepth 100000 in
set_option maxHeartbeats 4000000 in
theorem placesAtInto (x : Int) (a : Option Addr) (n cap : Nat) (l : List M.Pc) (ev : Int) (w : World) (h : Pls w a n l) :
    Calls Try.prog 74 #[.agg #[.int .i64 x, .slice a n cap], .int .i64 ev, .func (.func 75) #[] #[]] w (VRes (M.plcRes M.pTo x l ev) w) := by
  have HI := Lib.hid h
  have HL : Hid (l.length = n) := h.1
  have hm := h.2.1
  unfold maxLen at hm
  have hb0 := b_alloc w (.cells #[.int .i64 x, .slice a n cap] 26)
  have hG := gBox_new w x a n cap 26
  obtain ⟨wb, hwb⟩ : ∃ z, z = w.alloc (.cells #[.int .i64 x, .slice a n cap] 26) := ⟨_, rfl⟩
  rw [← hwb] at hb0 hG
  obtain ⟨r, hr⟩ : ∃ r, r = M.isGr x l := ⟨_, rfl⟩
  have HS : Hid (Calls Try.prog 82 #[.agg #[.int .i64 x, .slice a n cap]] wb fun e w' => e = .returned (.bool r) ∧ Below wb.heap.size wb w') := by rw [hr]; exact isEventGraph x a n cap l wb (h.below hb0)
  have HG := Lib.hid hG
  have HB0 := Lib.hid hb0
  have HRr := Lib.hid hr
  clear h hG hb0 hr
  go_enter Try.func74, Try.ntmps74
  go_wp2_with fail
  rw [← hwb]
  clear hwb
  refine (HS.out).mono ?_
  rintro e w1 ⟨rfl, hb1⟩
  have HB1 := Lib.hid (HB0.out.trans (hb1.mono HB0.out.size))
  have HG1 := Lib.hid (HG.out.below hb1)
  obtain ⟨g0, g1⟩ := HG1.out
  clear hb1
  cases r with
  | false =>
    have HR : Hid (M.plcRes M.pTo x l ev = ([], 1)) := by show _ = _; unfold M.plcRes; rw [← HRr.out]; rfl
    go_wp2
    go_ret2
    exact VRes.nil HR.out HB1.out
  | true =>
    have hw := ev_wrap (M.isGr_in HRr.out.symm).1
    have hn30 : n ≤ 30 := by have := (M.isGr_in HRr.out.symm).2; rw [HL.out] at this; exact this
    obtain ⟨v, hv⟩ : ∃ v, v = M.inB ev 0 (x - 1) := ⟨_, rfl⟩
    have HH : Hid (∀ w, Calls Try.prog 106 #[.agg #[.int .i64 x, .slice a n cap], .int .i64 ev] w fun e w' => e = .returned (.bool v) ∧ Below w.heap.size w w') := fun w => by rw [hv, ← hw]; exact hasEvent x a n cap ev w
    have HV := Lib.hid hv
    clear hw hv
    go_wp2_with fail
    refine (HH.out w1).mono ?_
    rintro e w2 ⟨rfl, hb2⟩
    have HB2 := Lib.hid (HB1.out.trans (hb2.mono HB1.out.size))
    have HG2 := Lib.hid (HG1.out.below hb2)
    clear hb2 g0 g1
    obtain ⟨g0, g1⟩ := HG2.out
    cases v with
    | false =>
      have HR : Hid (M.plcRes M.pTo x l ev = ([], 2)) := by show _ = _; unfold M.plcRes; rw [← HRr.out, ← HV.out]; rfl
      go_wp2
      go_ret2
      exact VRes.nil HR.out HB2.out
    | true =>
      have HR : Hid (M.plcRes M.pTo x l ev = (M.plcL M.pTo l ev n, 0)) := by show _ = _; unfold M.plcRes; rw [← HRr.out, ← HV.out, HL.out]; rfl
      have HE : Hid (∀ p0 p1 p2 p3 w, Calls Try.prog 75 #[.agg #[.int .i64 p0, .int .i64 p1, .int .i64 p2, .int .i64 p3]] w fun e w' => e = .returned (.int .i64 p1) ∧ Below w.heap.size w w') := endInto
      have hO0 : Hid (Own w2 w2.heap.size (.slice none 0 0) (M.plcL M.pTo l ev 0)) := own_nil _ _
      go_wp2
      go_loopw [8, 21] (fun lv kv wr => ∃ (k : Nat) (b : Option Addr) (c : Nat), k ≤ n ∧ kv = .int .i64 k ∧ lv = .slice b (M.plcL M.pTo l ev k).length c ∧ Hid (Own wr w2.heap.size (.slice b (M.plcL M.pTo l ev k).length c) (M.plcL M.pTo l ev k)) ∧ Hid (Below w2.heap.size w2 wr)) (fun _ kv _ => n - (intOf kv).toNat)
      case atStart => exact ⟨0, _, _, Nat.zero_le _, rfl, rfl, hO0, Below.refl _ _⟩
      case round =>
        obtain ⟨k, b, c, hk, rfl, rfl, HO, HB⟩ := hrel
        obtain ⟨wo, rfl⟩ : ∃ x, x = wr := ⟨_, rfl⟩
        clear hO0
        by_cases hkl : k < n
        · have hki : (k : Int) < (n : Int) := by omega
          obtain ⟨pb, off, p0, p1, p2, p3, rfl, -, hp, c0, c1, c2, c3⟩ := ((HI.out.below HB2.out).below HB.out).at k hkl
          have hsz := HB.out.size
          have hlen : (M.plcL M.pTo l ev k).length ≤ 30 := by have := M.plcL_len M.pTo l ev k; omega
          have hNx : M.plcL M.pTo l ev (k + 1) = if p1 = ev then M.plcL M.pTo l ev k ++ [(k : Int)] else M.plcL M.pTo l ev k := by
            have := M.plcL_next M.pTo l ev k
            rw [hp] at this
            exact this
          have HNx := Lib.hid hNx
          clear hNx hp
          go_wp2_with fail
          refine (HE.out p0 p1 p2 p3 _).mono ?_
          rintro e w3 ⟨rfl, hb3⟩
          have hb3' : Below wo.heap.size wo w3 := (b_alloc wo _).trans (hb3.mono (by simp))
          have HO3 := Lib.hid (HO.out.below hb3')
          have HB3 := Lib.hid (HB.out.trans (hb3'.mono hsz))
          have hsz3 := HB3.out.size
          clear hb3 hb3'
          by_cases he : p1 = ev
          · have HN : Hid (M.plcL M.pTo l ev (k + 1) = M.plcL M.pTo l ev k ++ [(k : Int)]) := by show _ = _; rw [HNx.out, if_pos he]
            have HNl : Hid ((M.plcL M.pTo l ev (k + 1)).length = (M.plcL M.pTo l ev k).length + 1) := by show _ = _; rw [HN.out]; simp
            obtain ⟨L, hL⟩ : ∃ L, L = (M.plcL M.pTo l ev k).length := ⟨_, rfl⟩
            rw [← hL] at HO3 HNl hlen ⊢
            have HLl := Lib.hid hL.symm
            have heb : (p1 == ev) = true := by simpa using he
            clear hL
            go_wp2_with (at_builtin; refine append1 _ rfl (.tmp 31) (.tmp 33) rfl w2.heap.size _ _ _ L HLl.out rfl HO3.out rfl (by rw [HLl.out]; omega) hsz3 ?_)
            intro b2 c2' w4 hO2 hb2 _
            rw [← HN.out, ← HNl.out] at hO2
            have HO4 := Lib.hid hO2
            have HB4 := Lib.hid (HB3.out.trans hb2)
            rw [← HNl.out]
            clear hO2 hb2
            go_wp2
            go_roundw
            case rel => exact ⟨k + 1, _, _, by omega, by go_num, rfl, HO4, HB4⟩
            case measure => simp [intOf]; omega
          · have HN : Hid (M.plcL M.pTo l ev (k + 1) = M.plcL M.pTo l ev k) := by show _ = _; rw [HNx.out, if_neg he]
            have heb : (p1 == ev) = false := by simpa using he
            go_wp2
            go_roundw
            case rel => exact ⟨k + 1, _, _, by omega, by go_num, by rw [HN.out], by rw [HN.out]; exact HO3, HB3⟩
            case measure => simp [intOf]; omega
        · obtain rfl : k = n := by omega
          have HOf := Lib.hid (HO.out.mono HB2.out.size)
          have HBf := Lib.hid (HB2.out.trans (HB.out.mono HB2.out.size))
          go_wp2
          go_ret2
          rw [HR.out]
          exact ⟨_, _, _, rfl, HOf.out, HBf.out⟩
set_option maxRecDepth 100000 in
set_option maxHeartbeats 1000000 in
theorem placesInto (x : Int) (a : Option Addr) (n cap : Nat) (l : List M.Pc) (ev : Int) (w : World) (h : Pls w a n l) :
    Calls Try.prog 19 #[.agg #[.int .i64 x, .slice a n cap], .int .i64 ev] w (VRes (M.plcRes M.pTo x l ev) w) := by
  have HC : Hid (Calls Try.prog 74 #[.agg #[.int .i64 x, .slice a n cap], .int .i64 ev, .func (.func 75) #[] #[]] (w.alloc (.cells #[.int .i64 x, .slice a n cap] 26)) (VRes (M.plcRes M.pTo x l ev) (w.alloc (.cells #[.int .i64 x, .slice a n cap] 26)))) := placesAtInto x a n cap l ev _ (h.below (b_alloc w _))
  obtain ⟨r, hr⟩ : ∃ r, r = M.plcRes M.pTo x l ev := ⟨_, rfl⟩
  rw [← hr] at HC ⊢
  unfold VRes at HC
  clear h hr
  go_enter Try.func19, Try.ntmps19
  go_wp2_with fail
  refine (HC.out).mono ?_
  rintro e w1 ⟨a1, n1, c1, rfl, ho, hb⟩
  have HO := Lib.hid (ho.mono (show w.heap.size ≤ _ by simp))
  have HB := Lib.hid ((b_alloc w (.cells #[.int .i64 x, .slice a n cap] 26)).trans (hb.mono (by simp)))
  clear ho hb
  go_wp2
  go_ret2
  exact ⟨_, _, _, rfl, HO.out, HB.out⟩
set_option maxRecDepth 100000 in
set_option maxHeartbeats 2000000 in
theorem sPlacesFromX (x : Int) (a : Option Addr) (n cap : Nat) (l : List M.Pc) (ev : Int) (w : World) (h : Pls w a n l) :
    Calls Try.prog 22 #[.agg #[.int .i64 x, .slice a n cap], .int .i64 ev] w (VRes (M.plcRes M.pFrom x l ev) w) := by
  have HI := Lib.hid h
  have HL : Hid (l.length = n) := h.1
  have hb0 := b_alloc w (.cells #[.int .i64 x, .slice a n cap] 26)
  have hG := gBox_new w x a n cap 26
  obtain ⟨wb, hwb⟩ : ∃ z, z = w.alloc (.cells #[.int .i64 x, .slice a n cap] 26) := ⟨_, rfl⟩
  rw [← hwb] at hb0 hG
  obtain ⟨cd, hcd⟩ : ∃ c, c = M.evCode x l ev := ⟨_, rfl⟩
  have HS : Hid (Calls Try.prog 76 #[.agg #[.int .i64 x, .slice a n cap], .int .i64 ev] wb fun e w' => e = .returned (.int .i64 cd) ∧ Below wb.heap.size wb w') := by rw [hcd]; exact sEvent x a n cap l ev wb (h.below hb0)
  have HR0 : Hid (cd = 0 → M.plcRes M.pFrom x l ev = (M.plcL M.pFrom l ev n, 0) ∧ n ≤ 30) := fun q => by
    rw [hcd] at q
    unfold M.evCode at q
    unfold M.plcRes
    cases hg : M.isGr x l with
    | false => rw [hg] at q; simp at q
    | true =>
      rw [hg] at q
      cases he : M.inB ev 0 (x - 1) with
      | false => rw [he] at q; simp at q
      | true => rw [HL.out]; exact ⟨rfl, by rw [← HL.out]; exact (M.isGr_in hg).2⟩
  have HR1 : Hid (cd ≠ 0 → M.plcRes M.pFrom x l ev = ([], cd)) := fun q => by
    rw [hcd] at q ⊢
    unfold M.evCode at q ⊢
    unfold M.plcRes
    cases hg : M.isGr x l with
    | false => rfl
    | true =>
      rw [hg] at q
      cases he : M.inB ev 0 (x - 1) with
      | false => rfl
      | true => rw [he] at q; simp at q
  have HG := Lib.hid hG
  have HB0 := Lib.hid hb0
  clear h hG hb0 hcd
  go_enter Try.func22, Try.ntmps22
  go_wp2_with fail
  rw [← hwb]
  clear hwb
  refine (HS.out).mono ?_
  rintro e w1 ⟨rfl, hb1⟩
  have HB1 := Lib.hid (HB0.out.trans (hb1.mono HB0.out.size))
  obtain ⟨g0, g1⟩ := HG.out.below hb1
  clear hb1
  by_cases h0 : cd = 0
  · obtain ⟨hr, hn⟩ := HR0.out h0
    have HR := Lib.hid hr
    subst h0
    clear hr
    go_wp2_with fail
    refine (sPlacesFrom x a n cap l ev w1 (HI.out.below HB1.out) hn).mono ?_
    rintro e w2 ⟨b, c, rfl, ho, hb2⟩
    have HO := Lib.hid (ho.mono HB1.out.size)
    have HB2 := Lib.hid (HB1.out.trans (hb2.mono HB1.out.size))
    clear ho hb2
    go_wp2
    go_ret2
    rw [HR.out]
    exact ⟨_, _, _, rfl, HO.out, HB2.out⟩
  · have HR := Lib.hid (HR1.out h0)
    have hb : (cd != 0) = true := by simpa using h0
    go_wp2
    go_ret2
    exact VRes.nil HR.out HB1.out
set_option maxRecDepth 100000 in
set_option maxHeartbeats 400000 in
theorem endFrom (p0 p1 p2 p3 : Int) (w : World) : Calls Try.prog 78 #[.agg #[.int .i64 p0, .int .i64 p1, .int .i64 p2, .int .i64 p3]] w fun e w' => e = .returned (.int .i64 p0) ∧ Below w.heap.size w w' := by
  go_enter Try.func78, Try.ntmps78
  go_wp2
  go_ret
  exact ⟨rfl, b_alloc _ _⟩
set_option maxRecDepth 100000 in
set_option maxHeartbeats 4000000 in
theorem placesAtFrom (x : Int) (a : Option Addr) (n cap : Nat) (l : List M.Pc) (ev : Int) (w : World) (h : Pls w a n l) :
    Calls Try.prog 74 #[.agg #[.int .i64 x, .slice a n cap], .int .i64 ev, .func (.func 78) #[] #[]] w (VRes (M.plcRes M.pFrom x l ev) w) := by
  have HI := Lib.hid h
  have HL : Hid (l.length = n) := h.1
  have hm := h.2.1
  unfold maxLen at hm
  have hb0 := b_alloc w (.cells #[.int .i64 x, .slice a n cap] 26)
  have hG := gBox_new w x a n cap 26
  obtain ⟨wb, hwb⟩ : ∃ z, z = w.alloc (.cells #[.int .i64 x, .slice a n cap] 26) := ⟨_, rfl⟩
  rw [← hwb] at hb0 hG
  obtain ⟨r, hr⟩ : ∃ r, r = M.isGr x l := ⟨_, rfl⟩
  have HS : Hid (Calls Try.prog 82 #[.agg #[.int .i64 x, .slice a n cap]] wb fun e w' => e = .returned (.bool r) ∧ Below wb.heap.size wb w') := by rw [hr]; exact isEventGraph x a n cap l wb (h.below hb0)
  have HG := Lib.hid hG
  have HB0 := Lib.hid hb0
  have HRr := Lib.hid hr
  clear h hG hb0 hr
  go_enter Try.func74, Try.ntmps74
  go_wp2_with fail
  rw [← hwb]
  clear hwb
  refine (HS.out).mono ?_
  rintro e w1 ⟨rfl, hb1⟩
  have HB1 := Lib.hid (HB0.out.trans (hb1.mono HB0.out.size))
  have HG1 := Lib.hid (HG.out.below hb1)
  obtain ⟨g0, g1⟩ := HG1.out
  clear hb1
  cases r with
  | false =>
    have HR : Hid (M.plcRes M.pFrom x l ev = ([], 1)) := by show _ = _; unfold M.plcRes; rw [← HRr.out]; rfl
    go_wp2
    go_ret2
    exact VRes.nil HR.out HB1.out
  | true =>
    have hw := ev_wrap (M.isGr_in HRr.out.symm).1
    have hn30 : n ≤ 30 := by have := (M.isGr_in HRr.out.symm).2; rw [HL.out] at this; exact this
    obtain ⟨v, hv⟩ : ∃ v, v = M.inB ev 0 (x - 1) := ⟨_, rfl⟩
    have HH : Hid (∀ w, Calls Try.prog 106 #[.agg #[.int .i64 x, .slice a n cap], .int .i64 ev] w fun e w' => e = .returned (.bool v) ∧ Below w.heap.size w w') := fun w => by rw [hv, ← hw]; exact hasEvent x a n cap ev w
    have HV := Lib.hid hv
    clear hw hv
    go_wp2_with fail
    refine (HH.out w1).mono ?_
    rintro e w2 ⟨rfl, hb2⟩
    have HB2 := Lib.hid (HB1.out.trans (hb2.mono HB1.out.size))
    have HG2 := Lib.hid (HG1.out.below hb2)
    clear hb2 g0 g1
    obtain ⟨g0, g1⟩ := HG2.out
    cases v with
    | false =>
      have HR : Hid (M.plcRes M.pFrom x l ev = ([], 2)) := by show _ = _; unfold M.plcRes; rw [← HRr.out, ← HV.out]; rfl
      go_wp2
      go_ret2
      exact VRes.nil HR.out HB2.out
    | true =>
      have HR : Hid (M.plcRes M.pFrom x l ev = (M.plcL M.pFrom l ev n, 0)) := by show _ = _; unfold M.plcRes; rw [← HRr.out, ← HV.out, HL.out]; rfl
      have HE : Hid (∀ p0 p1 p2 p3 w, Calls Try.prog 78 #[.agg #[.int .i64 p0, .int .i64 p1, .int .i64 p2, .int .i64 p3]] w fun e w' => e = .returned (.int .i64 p0) ∧ Below w.heap.size w w') := endFrom
      have hO0 : Hid (Own w2 w2.heap.size (.slice none 0 0) (M.plcL M.pFrom l ev 0)) := own_nil _ _
      go_wp2
      go_loopw [8, 21] (fun lv kv wr => ∃ (k : Nat) (b : Option Addr) (c : Nat), k ≤ n ∧ kv = .int .i64 k ∧ lv = .slice b (M.plcL M.pFrom l ev k).length c ∧ Hid (Own wr w2.heap.size (.slice b (M.plcL M.pFrom l ev k).length c) (M.plcL M.pFrom l ev k)) ∧ Hid (Below w2.heap.size w2 wr)) (fun _ kv _ => n - (intOf kv).toNat)
      case atStart => exact ⟨0, _, _, Nat.zero_le _, rfl, rfl, hO0, Below.refl _ _⟩
      case round =>
        obtain ⟨k, b, c, hk, rfl, rfl, HO, HB⟩ := hrel
        obtain ⟨wo, rfl⟩ : ∃ x, x = wr := ⟨_, rfl⟩
        clear hO0
        by_cases hkl : k < n
        · have hki : (k : Int) < (n : Int) := by omega
          obtain ⟨pb, off, p0, p1, p2, p3, rfl, -, hp, c0, c1, c2, c3⟩ := ((HI.out.below HB2.out).below HB.out).at k hkl
          have hsz := HB.out.size
          have hlen : (M.plcL M.pFrom l ev k).length ≤ 30 := by have := M.plcL_len M.pFrom l ev k; omega
          have hNx : M.plcL M.pFrom l ev (k + 1) = if p0 = ev then M.plcL M.pFrom l ev k ++ [(k : Int)] else M.plcL M.pFrom l ev k := by
            have := M.plcL_next M.pFrom l ev k
            rw [hp] at this
            exact this
          have HNx := Lib.hid hNx
          clear hNx hp
          go_wp2_with fail
          refine (HE.out p0 p1 p2 p3 _).mono ?_
          rintro e w3 ⟨rfl, hb3⟩
          have hb3' : Below wo.heap.size wo w3 := (b_alloc wo _).trans (hb3.mono (by simp))
          have HO3 := Lib.hid (HO.out.below hb3')
          have HB3 := Lib.hid (HB.out.trans (hb3'.mono hsz))
          have hsz3 := HB3.out.size
          clear hb3 hb3'
          by_cases he : p0 = ev
          · have HN : Hid (M.plcL M.pFrom l ev (k + 1) = M.plcL M.pFrom l ev k ++ [(k : Int)]) := by show _ = _; rw [HNx.out, if_pos he]
            have HNl : Hid ((M.plcL M.pFrom l ev (k + 1)).length = (M.plcL M.pFrom l ev k).length + 1) := by show _ = _; rw [HN.out]; simp
            obtain ⟨L, hL⟩ : ∃ L, L = (M.plcL M.pFrom l ev k).length := ⟨_, rfl⟩
            rw [← hL] at HO3 HNl hlen ⊢
            have HLl := Lib.hid hL.symm
            have heb : (p0 == ev) = true := by simpa using he
            clear hL
            go_wp2_with (at_builtin; refine append1 _ rfl (.tmp 31) (.tmp 33) rfl w2.heap.size _ _ _ L HLl.out rfl HO3.out rfl (by rw [HLl.out]; omega) hsz3 ?_)
            intro b2 c2' w4 hO2 hb2 _
            rw [← HN.out, ← HNl.out] at hO2
            have HO4 := Lib.hid hO2
            have HB4 := Lib.hid (HB3.out.trans hb2)
            rw [← HNl.out]
            clear hO2 hb2
            go_wp2
            go_roundw
            case rel => exact ⟨k + 1, _, _, by omega, by go_num, rfl, HO4, HB4⟩
            case measure => simp [intOf]; omega
          · have HN : Hid (M.plcL M.pFrom l ev (k + 1) = M.plcL M.pFrom l ev k) := by show _ = _; rw [HNx.out, if_neg he]
            have heb : (p0 == ev) = false := by simpa using he
            go_wp2
            go_roundw
            case rel => exact ⟨k + 1, _, _, by omega, by go_num, by rw [HN.out], by rw [HN.out]; exact HO3, HB3⟩
            case measure => simp [intOf]; omega
        · obtain rfl : k = n := by omega
          have HOf := Lib.hid (HO.out.mono HB2.out.size)
          have HBf := Lib.hid (HB2.out.trans (HB.out.mono HB2.out.size))
          go_wp2
          go_ret2
          rw [HR.out]
          exact ⟨_, _, _, rfl, HOf.out, HBf.out⟩
set_option maxRecDepth 100000 in
set_option maxHeartbeats 1000000 in
theorem placesFrom (x : Int) (a : Option Addr) (n cap : Nat) (l : List M.Pc) (ev : Int) (w : World) (h : Pls w a n l) :
    Calls Try.prog 21 #[.agg #[.int .i64 x, .slice a n cap], .int .i64 ev] w (VRes (M.plcRes M.pFrom x l ev) w) := by
  have HC : Hid (Calls Try.prog 74 #[.agg #[.int .i64 x, .slice a n cap], .int .i64 ev, .func (.func 78) #[] #[]] (w.alloc (.cells #[.int .i64 x, .slice a n cap] 26)) (VRes (M.plcRes M.pFrom x l ev) (w.alloc (.cells #[.int .i64 x, .slice a n cap] 26)))) := placesAtFrom x a n cap l ev _ (h.below (b_alloc w _))
  obtain ⟨r, hr⟩ : ∃ r, r = M.plcRes M.pFrom x l ev := ⟨_, rfl⟩
  rw [← hr] at HC ⊢
  unfold VRes at HC
  clear h hr
  go_enter Try.func21, Try.ntmps21
  go_wp2_with fail
  refine (HC.out).mono ?_
  rintro e w1 ⟨a1, n1, c1, rfl, ho, hb⟩
  have HO := Lib.hid (ho.mono (show w.heap.size ≤ _ by simp))
  have HB := Lib.hid ((b_alloc w (.cells #[.int .i64 x, .slice a n cap] 26)).trans (hb.mono (by simp)))
  clear ho hb
  go_wp2
  go_ret2
  exact ⟨_, _, _, rfl, HO.out, HB.out⟩
end V
end Go.Proofs.Ytphobmddkphofaa

namespace Go.Proofs.Ytphobmddkphofaa
namespace V
set_option maxRecDepth 100000
open Go.RowKit
theorem infoP_parts : ∃ i, Try.prog.info? 39 = some i ∧ i.zero = some (.agg #[.int .i64 0, .int .i64 0, .int .i64 0, .int .i64 0]) ∧ i.size = 4 ∧ i.bytes = 32 := by
  obtain ⟨i, hi, hzz⟩ := Option.map_eq_some_iff.1 infoP
  simp only [Prod.mk.injEq] at hzz
  exact ⟨i, hi, hzz⟩
theorem pls_cells {w : World} {b off m : Nat} {k : List M.Pc} (h : Pls w (some ⟨b, off, none⟩) m k) : ∀ j u, (pcells k)[j]? = some u → w.cell? ((⟨b, off, none⟩ : Addr).add j) = some u := fun j u hj => by
  have hlt : j < k.length * 4 := by
    apply Classical.byContradiction
    intro q
    rw [List.getElem?_eq_none (by rw [pcells_len]; omega)] at hj; cases hj
  rw [pcells_get k hlt] at hj
  injection hj with hj
  subst hj
  have hm := h.1
  obtain ⟨b', o', p0, p1, p2, p3, e, -, hp, c0, c1, c2, c3⟩ := h.at (j / 4) (by omega)
  injection e with e
  injection e with e1 e2
  subst e1 e2
  have ad : (⟨b, off, none⟩ : Addr).add j = ⟨b, off + j, none⟩ := by unfold Addr.add; split <;> simp_all
  rw [ad, hp]
  have h4 : j % 4 = 0 ∨ j % 4 = 1 ∨ j % 4 = 2 ∨ j % 4 = 3 := by omega
  rcases h4 with q | q | q | q
  · rw [q, show off + j = off + j / 4 * 4 by omega]; exact c0
  · rw [q, show off + j = off + j / 4 * 4 + 1 by omega]; exact c1
  · rw [q, show off + j = off + j / 4 * 4 + 2 by omega]; exact c2
  · rw [q, show off + j = off + j / 4 * 4 + 3 by omega]; exact c3
theorem pcells_one_cell {k : List M.Pc} : ∀ u ∈ pcells k, u.oneCell' = true := fun u hu => by
  unfold pcells at hu
  obtain ⟨q, -, rfl⟩ := List.mem_map.1 hu
  rfl
/-- What an append of places leaves. -/
def AppP (w : World) (B : Nat) (v : Value) (l : List M.Pc) (n : Nat) (v' : Value) (w' : World) : Prop :=
  ∃ g c, v' = .slice (some ⟨g, 0, none⟩) n c ∧ OwnPl w' B (.slice (some ⟨g, 0, none⟩) n c) l ∧ Below B w w' ∧ (∀ q, q < w.heap.size → v.ownBlock ≠ some q → w'.heap[q]? = w.heap[q]?) ∧ ((Value.slice (some ⟨g, 0, none⟩) n c).ownBlock = v.ownBlock ∨ w.heap.size ≤ g)
theorem appP_of {w w' : World} {B : Nat} {v v' : Value} {l k : List M.Pc} {n m : Nat} (hn : l.length = n) (hm : k.length = m) (hown : OwnPl w B v l) (hv : v ≠ .slice none 0 0) (hB : B ≤ w.heap.size) (h2 : w'.ownsRow B 39 4 v' (l.length + m) (pcells l ++ pcells k)) (h3 : w.grownBy w' v.ownBlock) (h4 : v' = .slice none 0 0 ↔ v = .slice none 0 0 ∧ m = 0) (h5 : v'.ownBlock = v.ownBlock ∨ v'.ownBlock = some w.heap.size) : AppP w B v (l ++ k) (n + m) v' w' := by
  subst hn hm
  have ho : OwnPl w' B v' (l ++ k) := by
    show w'.ownsRow B _ 4 v' (l ++ k).length (pcells (l ++ k))
    rw [pcells_app, List.length_append]
    exact h2
  have hb : Below B w w' := (Below.refl B w).grown h3 hB (fun q hq => (hown.lt hq).1)
  have hfr : ∀ q, q < w.heap.size → v.ownBlock ≠ some q → w'.heap[q]? = w.heap[q]? := fun q hq hne => by
    obtain ⟨g1, g2, g3, g4, g5⟩ := h3
    exact g5 q hq (fun e => hne e.symm)
  have ho' := ho
  obtain ⟨-, h⟩ := ho
  rcases h with ⟨h, -⟩ | ⟨g, cap, cur, h, hr⟩
  · exact absurd (h4.1 h).1 hv
  · rw [List.length_append] at h
    subst h
    refine ⟨g, cap, rfl, by simpa using ho', hb, hfr, ?_⟩
    rcases h5 with e | e
    · exact .inl e
    · simp [Value.ownBlock] at e
      exact .inr (by omega)
theorem appendPl (w : World) {ops : Array Oper} {rest : List Oper} {o : Oper} {a : Act} {Q : Exit → Act → World → Prop} (hgd : o.guard = none) (s x : Operand)
    (ho : o.op = .call { callee := .builtin .append, args := #[s, x], argTypes := #[24, 24] }) (B : Nat) (v : Value) (l k : List M.Pc) (n m b off c : Nat) (hn : l.length = n) (hs : a.eval s = v) (hown : OwnPl w B v l) (hv : v ≠ .slice none 0 0)
    (hx : a.eval x = .slice (some ⟨b, off, none⟩) m c) (hk : Pls w (some ⟨b, off, none⟩) m k) (hlen : n + m ≤ 2000000) (hB : B ≤ w.heap.size)
    (h : ∀ v' w', AppP w B v (l ++ k) (n + m) v' w' → wpList Try.prog ops Q rest (a.put o.dst v') w') :
    wpList Try.prog ops Q (o :: rest) a w := by
  obtain ⟨i0, hi, hz0, hz1, hz2⟩ := infoP_parts
  refine wpList_append_own_at (w := w) hgd s x 24 ho B 39 i0 _ 4 32 Try.underlying24 hi hz0 hz1 hz2 rfl (by decide) v _ _ hs hown ⟨b, off, none⟩ m c (pcells k) hx (by rw [pcells_len, hk.1]) (pls_cells hk) pcells_one_cell (by unfold maxLen; omega) (by omega) hB ?_
  intro v' w' h2 h3 h4 h5
  exact h v' w' (appP_of hn hk.1 hown hv hB h2 h3 h4 h5)
theorem step_appendPl (w : World) {ops : Array Oper} {o : Oper} {a : Act} {K : Act → World → Prop} {Q : Exit → Act → World → Prop} {E : Prop} (hgd : o.guard = none) (s x : Operand)
    (ho : o.op = .call { callee := .builtin .append, args := #[s, x], argTypes := #[24, 24] }) (B : Nat) (v : Value) (l k : List M.Pc) (n m b off c : Nat) (hn : l.length = n) (hs : a.eval s = v) (hown : OwnPl w B v l) (hv : v ≠ .slice none 0 0)
    (hx : a.eval x = .slice (some ⟨b, off, none⟩) m c) (hk : Pls w (some ⟨b, off, none⟩) m k) (hlen : n + m ≤ 2000000) (hB : B ≤ w.heap.size)
    (h : ∀ v' w', AppP w B v (l ++ k) (n + m) v' w' → K (a.put o.dst v') w') :
    if Region.wanted o (yielded ops a.tmps) = true then Oper.wp Try.prog o a w K Q else E := by
  have hw : Region.wanted o (yielded ops a.tmps) = true := by simp [Region.wanted, hgd]
  rw [if_pos hw]
  obtain ⟨i0, hi, hz0, hz1, hz2⟩ := infoP_parts
  obtain ⟨v', w', hr, h2, h3, h4, h5⟩ := run_append_own_at (P := Try.prog) w B 24 o.type 39 i0 _ 4 32 Try.underlying24 hi hz0 hz1 hz2 rfl (by decide) v _ _ hown ⟨b, off, none⟩ m c (pcells k) (by rw [pcells_len, hk.1]) (pls_cells hk) pcells_one_cell (by unfold maxLen; omega) (by omega) hB
  unfold Oper.wp execOp
  simp only [ho, resolve, invoke, builtin, Sem.run_bind, Sem.run_pure, Result.andThen_ok, List.map_toArray, List.map_cons, List.map_nil, hs, hx, hr]
  exact h v' w' (appP_of hn hk.1 hown hv hB h2 h3 h4 h5)
theorem ownPl_lit0 (w : World) (B : Nat) (hB : B ≤ w.heap.size) : OwnPl (w.alloc (.cells #[] 39)) B (.slice (some ⟨w.heap.size, 0, none⟩) 0 0) [] :=
  World.ownsRow_lit w #[] 0 hB (by decide) rfl
set_option maxRecDepth 100000 in
set_option maxHeartbeats 1000000 in
theorem clonePl (b off n cap : Nat) (l : List M.Pc) (w : World) (h : Pls w (some ⟨b, off, none⟩) n l) (hn : n ≤ 1048576) :
    Calls Try.prog 85 #[.slice (some ⟨b, off, none⟩) n cap] w fun e w' => ∃ g c, e = .returned (.slice (some ⟨g, 0, none⟩) n c) ∧ OwnPl w' w.heap.size (.slice (some ⟨g, 0, none⟩) n c) l ∧ Below w.heap.size w w' := by
  have HI := Lib.hid h
  have hnil := fun w : World => Lib.run_eql_slice_nil (P := Try.prog) w 24 39 (some (⟨b, off, none⟩ : Addr)) n cap 0 0 Try.underlying24
  clear h
  go_enter Try.func85, Try.ntmps85
  go_wp2_with (at_builtin; refine appendPl _ rfl (.tmp 5) (.tmp 6) rfl w.heap.size (.slice (some ⟨w.heap.size, 0, none⟩) 0 0) [] l 0 n b off cap rfl rfl (ownPl_lit0 w _ (Nat.le_refl _)) (by simp) rfl (HI.out.below (b_alloc w _)) (by omega) (by simp) ?_)
  rintro v' w' ⟨g, c, rfl, ho, hb, -, -⟩
  have HO := Lib.hid ho
  have HB := Lib.hid ((b_alloc w (.cells #[] 39)).trans hb)
  clear ho hb
  go_wp2
  go_ret
  exact ⟨_, _, rfl, HO.out, HB.out⟩
set_option maxRecDepth 100000 in
set_option maxHeartbeats 2000000 in
theorem sOwnG (x : Int) (b off n cap : Nat) (l : List M.Pc) (w : World) (h : Pls w (some ⟨b, off, none⟩) n l) (hn : n ≤ 1048576) :
    Calls Try.prog 90 #[.agg #[.int .i64 x, .slice (some ⟨b, off, none⟩) n cap]] w fun e w' => ∃ g c, e = .returned (.agg #[.int .i64 x, .slice (some ⟨g, 0, none⟩) n c]) ∧ OwnPl w' w.heap.size (.slice (some ⟨g, 0, none⟩) n c) l ∧ Below w.heap.size w w' := by
  have HI := Lib.hid h
  have HO : Hid (OwnPl (((w.alloc (.cells #[.int .i64 x, .slice (some ⟨b, off, none⟩) n cap] 26)).alloc (.cells #[.int .i64 0, .slice none 0 0] 26)).alloc (.cells #[] 39)).drew w.heap.size (.slice (some ⟨w.heap.size + 1 + 1, 0, none⟩) 0 0) []) := by
    have := ownPl_lit0 ((w.alloc (.cells #[.int .i64 x, .slice (some ⟨b, off, none⟩) n cap] 26)).alloc (.cells #[.int .i64 0, .slice none 0 0] 26)) w.heap.size (by simp; omega)
    simp only [World.size_alloc] at this
    exact this
  have HB3 : Hid (Below w.heap.size w (((w.alloc (.cells #[.int .i64 x, .slice (some ⟨b, off, none⟩) n cap] 26)).alloc (.cells #[.int .i64 0, .slice none 0 0] 26)).alloc (.cells #[] 39)).drew) := (b_al3g w _ _ _).drew
  clear h
  go_enter Try.func90, Try.ntmps90
  go_wp2
  go_region_law (refine step_appendPl _ rfl (.tmp 5) (.tmp 7) rfl w.heap.size (.slice (some ⟨w.heap.size + 1 + 1, 0, none⟩) 0 0) [] l 0 n b off cap rfl rfl HO.out (by simp) rfl (HI.out.below HB3.out) (by omega) (HB3.out.size) ?_; intro v' w2 hA; obtain ⟨g, c, hv, ho, hb, hfr, hat⟩ := hA; subst hv; have e0 := hfr w.heap.size (by first | (simp; done) | (simp; omega)) (by first | (simp [Value.ownBlock]; done) | (simp [Value.ownBlock]; omega)); have e1 := hfr (w.heap.size + 1) (by first | (simp; done) | (simp; omega)) (by first | (simp [Value.ownBlock]; done) | (simp [Value.ownBlock]; omega)); have c0 : w2.cell? ⟨w.heap.size, 0, none⟩ = some (.int .i64 x) := (World.cell?_of_block (a := ⟨w.heap.size, 0, none⟩) e0).trans (by simp [go_sem]); have r0 : w2.cell? ⟨w.heap.size + 1, 0, none⟩ = some (.int .i64 0) := (World.cell?_of_block (a := ⟨w.heap.size + 1, 0, none⟩) e1).trans (by simp [go_sem]); have r1 : w2.cell? ⟨w.heap.size + 1, 1, none⟩ = some (.slice none 0 0) := (World.cell?_of_block (a := ⟨w.heap.size + 1, 1, none⟩) e1).trans (by simp [go_sem]); have f0 : w2.frozen? ⟨w.heap.size + 1, 0, none⟩ = false := (World.frozen?_of_block (a := ⟨w.heap.size + 1, 0, none⟩) e1).trans (by simp [go_sem]); have f1 : w2.frozen? ⟨w.heap.size + 1, 1, none⟩ = false := (World.frozen?_of_block (a := ⟨w.heap.size + 1, 1, none⟩) e1).trans (by simp [go_sem]))
  all_goals
    have hgn : w.heap.size + 1 + 1 ≤ g := by
      rcases hat with e | e
      · simp [Value.ownBlock] at e; omega
      · simp at e; omega
    have HOw : Hid (OwnPl ((w2.setCell ⟨w.heap.size + 1, 0, none⟩ (.int .i64 x)).setCell ⟨w.heap.size + 1, 1, none⟩ (.slice (some ⟨g, 0, none⟩) n c)) w.heap.size (.slice (some ⟨g, 0, none⟩) n c) l) := by
      have ho' : OwnPl w2 w.heap.size (.slice (some ⟨g, 0, none⟩) n c) l := by simpa using ho
      refine ho'.keepB fun k hk => ?_
      simp [Value.ownBlock] at hk
      subst hk
      rw [Below.heap_setCell _ _ _ _ (by show g ≠ w.heap.size + 1; omega), Below.heap_setCell _ _ _ _ (by show g ≠ w.heap.size + 1; omega)]
    have HBa := Lib.hid (HB3.out.trans hb)
    have hsz2 := HBa.out.size
    have z1 : w.heap.size + 1 < w2.heap.size := cell_lt r0
    go_wp2
    exact bodyPost_ret (v := .agg #[.int .i64 x, .slice (some ⟨g, 0, none⟩) n c]) (by simp [results, Try.results90, go_sem, z1, r0, r1]) rfl ⟨g, c, rfl, HOw.out, (HBa.out.setCell (by show _ ≤ w.heap.size + 1; omega) _).setCell (by show _ ≤ w.heap.size + 1; omega) _⟩
end V
end Go.Proofs.Ytphobmddkphofaa

namespace Go.Proofs.Ytphobmddkphofaa
namespace M
def ixCode (e : Int) (l : List Pc) (i : Int) : Int := if isGr e l then (if inB i 0 ((l.length : Int) - 1) then 0 else 2) else 1
def chgP (p : Pc) (d t : Int) : Pc := (p.1, p.2.1, d, t)
def chgRes (e : Int) (l : List Pc) (i d t : Int) : Int × List Pc × Int := if isGr e l then (if inB i 0 ((l.length : Int) - 1) && (inB d 0 1000 && inB t 0 5) then (e, l.set i.toNat (chgP (l.getD i.toNat pz) d t), 0) else (0, [], 2)) else (0, [], 1)
theorem chg_stF {l : List Pc} {i : Nat} (hi : i < l.length) (d t : Int) : stF (stF l i 2 d) i 3 t = l.set i (chgP (l.getD i pz) d t) := by
  simp [stF, List.getD_eq_getElem?_getD, hi, setP, chgP]
theorem chgRes_len (e : Int) (l : List Pc) (i d t : Int) : (chgRes e l i d t).2.1.length ≤ 30 := by
  unfold chgRes
  cases h : isGr e l with
  | false => simp
  | true =>
    have := (isGr_in h).2
    cases h2 : (inB i 0 ((l.length : Int) - 1) && (inB d 0 1000 && inB t 0 5)) with
    | false => simp
    | true => simp; omega
end M
namespace V
set_option maxRecDepth 100000
open Go.RowKit
/-- A graph and a code. -/
def GRes (r : Int × List M.Pc × Int) (w : World) (e : Ending) (w' : World) : Prop :=
  ∃ a n c, e = .returned (.tuple #[.agg #[.int .i64 r.1, .slice a n c], .int .i64 r.2.2]) ∧ OwnPl w' w.heap.size (.slice a n c) r.2.1 ∧ Below w.heap.size w w'
theorem GRes.nil {r : Int × List M.Pc × Int} {c : Int} {w w' : World} (hr : r = (0, [], c)) (hb : Below w.heap.size w w') : GRes r w (.returned (.tuple #[.agg #[.int .i64 0, .slice none 0 0], .int .i64 c])) w' := by
  subst hr
  exact ⟨none, 0, 0, rfl, ownPl_nil _ _, hb⟩
/-- The cell of the result, before it is written. -/
def ResG (w : World) (R : Nat) : Prop := w.cell? ⟨R, 0, none⟩ = some (.int .i64 0) ∧ w.cell? ⟨R, 1, none⟩ = some (.slice none 0 0) ∧ w.frozen? ⟨R, 0, none⟩ = false ∧ w.frozen? ⟨R, 1, none⟩ = false
theorem ResG.below {w w' : World} {R : Nat} (h : ResG w R) (hb : Below w.heap.size w w') : ResG w' R := by
  obtain ⟨h1, h2, h3, h4⟩ := h
  have hl : R < w.heap.size := cell_lt h1
  exact ⟨(hb.cell (p := ⟨R, 0, none⟩) hl).trans h1, (hb.cell (p := ⟨R, 1, none⟩) hl).trans h2, (hb.frozen (p := ⟨R, 0, none⟩) hl).trans h3, (hb.frozen (p := ⟨R, 1, none⟩) hl).trans h4⟩
theorem resG_new (w : World) (t : TypeId) : ResG (w.alloc (.cells #[.int .i64 0, .slice none 0 0] t)) w.heap.size := ⟨by simp [go_sem], by simp [go_sem], by simp [go_sem], by simp [go_sem]⟩
set_option maxRecDepth 100000 in
set_option maxHeartbeats 1000000 in
theorem sIndex (x : Int) (a : Option Addr) (n cap : Nat) (l : List M.Pc) (i : Int) (w : World) (h : Pls w a n l) :
    Calls Try.prog 88 #[.agg #[.int .i64 x, .slice a n cap], .int .i64 i] w fun e w' => e = .returned (.int .i64 (M.ixCode x l i)) ∧ Below w.heap.size w w' := by
  have hb0 := b_alloc w (.cells #[.int .i64 x, .slice a n cap] 26)
  have hm := h.2.1
  unfold maxLen at hm
  have hl : l.length = n := h.1
  obtain ⟨r, hr⟩ : ∃ r, r = M.isGr x l := ⟨_, rfl⟩
  have HS : Hid (Calls Try.prog 98 #[.agg #[.int .i64 x, .slice a n cap]] (w.alloc (.cells #[.int .i64 x, .slice a n cap] 26)) fun e w' => e = .returned (.bool r) ∧ Below (w.alloc (.cells #[.int .i64 x, .slice a n cap] 26)).heap.size (w.alloc (.cells #[.int .i64 x, .slice a n cap] 26)) w') := by
    rw [hr]; exact sIsEventGraph x a n cap l _ (h.below hb0)
  have HCd : Hid (∀ b, M.inB i 0 ((n : Int) - 1) = b → M.ixCode x l i = if r then (if b then 0 else 2) else 1) := fun b q => by unfold M.ixCode; rw [hl, q, ← hr]
  have hG := gBox_new w x a n cap 26
  obtain ⟨wb, hwb⟩ : ∃ z, z = w.alloc (.cells #[.int .i64 x, .slice a n cap] 26) := ⟨_, rfl⟩
  rw [← hwb] at HS hb0 hG
  have HG := Lib.hid hG
  have HB0 := Lib.hid hb0
  clear hr h hG hb0 hl
  go_enter Try.func88, Try.ntmps88
  go_wp2_with fail
  rw [← hwb]
  clear hwb
  refine (HS.out).mono ?_
  rintro e w1 ⟨rfl, hb1⟩
  have HB1 := Lib.hid (HB0.out.trans (hb1.mono HB0.out.size))
  obtain ⟨g0, g1⟩ := HG.out.below hb1
  clear hb1
  cases r with
  | false =>
    have HE := Lib.hid (HCd.out _ rfl)
    go_wp2
    go_ret
    exact ⟨by rw [HE.out]; rfl, HB1.out⟩
  | true =>
    cases h0 : (decide (0 ≤ i) && decide (i ≤ (n : Int) - 1)) with
    | false =>
      have HE := Lib.hid (HCd.out false h0)
      go_wp2_with (go_at_call 89; refine (sIn _ _ _ _).mono ?_; rintro e w' ⟨rfl, rfl⟩)
      go_ret
      exact ⟨by rw [HE.out]; rfl, HB1.out⟩
    | true =>
      have HE := Lib.hid (HCd.out true h0)
      go_wp2_with (go_at_call 89; refine (sIn _ _ _ _).mono ?_; rintro e w' ⟨rfl, rfl⟩)
      go_ret
      exact ⟨by rw [HE.out]; rfl, HB1.out⟩
set_option maxRecDepth 100000 in
set_option maxHeartbeats 400000 in
theorem hasIndex (x : Int) (a : Option Addr) (n cap : Nat) (i : Int) (w : World) (hn : n ≤ 1048576) : Calls Try.prog 83 #[.agg #[.int .i64 x, .slice a n cap], .int .i64 i] w fun e w' => e = .returned (.bool (M.inB i 0 ((n : Int) - 1))) ∧ Below w.heap.size w w' := by
  go_enter Try.func83, Try.ntmps83
  go_wp2_with (go_at_call 84; refine (isUpTo i ((n : Int) - 1) _).mono ?_; rintro e w' ⟨rfl, rfl⟩)
  go_ret
  exact ⟨rfl, b_alloc _ _⟩
set_option maxRecDepth 100000 in
set_option maxHeartbeats 400000 in
theorem withPl (x : Int) (a : Option Addr) (n cap : Nat) (a' : Option Addr) (n' cap' : Nat) (w : World) : Calls Try.prog 87 #[.agg #[.int .i64 x, .slice a n cap], .slice a' n' cap'] w fun e w' => e = .returned (.agg #[.int .i64 x, .slice a' n' cap']) ∧ Below w.heap.size w w' := by
  go_enter Try.func87, Try.ntmps87
  go_wp2
  exact bodyPost_ret (v := .agg #[.int .i64 x, .slice a' n' cap']) (by simp [results, Try.results87, go_sem]) rfl ⟨rfl, b_alloc2 _ _ _⟩
set_option maxRecDepth 100000 in
set_option maxHeartbeats 400000 in
theorem change (g o : Nat) (d t : Int) (w : World) (h2 : ∃ v, w.cell? ⟨g, o + 2, none⟩ = some v) (h3 : ∃ v, w.cell? ⟨g, o + 3, none⟩ = some v) (f2 : w.frozen? ⟨g, o + 2, none⟩ = false) (f3 : w.frozen? ⟨g, o + 3, none⟩ = false) :
    Calls Try.prog 86 #[.pointer (some ⟨g, o, none⟩), .int .i64 d, .int .i64 t] w fun e w' => e = .returned (.tuple #[]) ∧ w' = (w.setCell ⟨g, o + 2, none⟩ (.int .i64 d)).setCell ⟨g, o + 3, none⟩ (.int .i64 t) := by
  obtain ⟨v2, c2⟩ := h2
  obtain ⟨v3, c3⟩ := h3
  go_enter Try.func86, Try.ntmps86
  go_wp2
  go_end0
  exact ⟨rfl, rfl⟩
end V
end Go.Proofs.Ytphobmddkphofaa

namespace Go.Proofs.Ytphobmddkphofaa
namespace M
theorem chg_cases (e : Int) (l : List Pc) (i d t : Int) :
    (ixCode e l i = 1 ∧ chgRes e l i d t = (0, [], 1)) ∨ (ixCode e l i = 2 ∧ chgRes e l i d t = (0, [], 2)) ∨
    (∃ k : Nat, i = k ∧ k < l.length ∧ l.length ≤ 30 ∧ ixCode e l i = 0 ∧ (inB d 0 1000 = true → inB t 0 5 = true → chgRes e l i d t = (e, stF (stF l k 2 d) k 3 t, 0)) ∧ (inB d 0 1000 = false → chgRes e l i d t = (0, [], 2)) ∧ (inB t 0 5 = false → chgRes e l i d t = (0, [], 2))) := by
  unfold ixCode chgRes
  cases h : isGr e l with
  | false => exact .inl ⟨rfl, rfl⟩
  | true =>
    refine .inr ?_
    cases h2 : inB i 0 ((l.length : Int) - 1) with
    | false => exact .inl ⟨rfl, rfl⟩
    | true =>
      refine .inr ?_
      have h3 := h2
      unfold inB at h3
      simp at h3
      refine ⟨i.toNat, by omega, by omega, (isGr_in h).2, by simp, fun q1 q2 => ?_, fun q => by simp [q], fun q => by simp [q]⟩
      rw [q1, q2, chg_stF (by omega)]
      simp
theorem chg_cases2 (e : Int) (l : List Pc) (i d t : Int) :
    (isGr e l = false ∧ chgRes e l i d t = (0, [], 1)) ∨ (isGr e l = true ∧ l.length ≤ 30 ∧ inB i 0 ((l.length : Int) - 1) = false ∧ chgRes e l i d t = (0, [], 2)) ∨
    (∃ k : Nat, i = k ∧ k < l.length ∧ l.length ≤ 30 ∧ isGr e l = true ∧ inB i 0 ((l.length : Int) - 1) = true ∧ (inB d 0 1000 = true → inB t 0 5 = true → chgRes e l i d t = (e, stF (stF l k 2 d) k 3 t, 0)) ∧ (inB d 0 1000 = false → chgRes e l i d t = (0, [], 2)) ∧ (inB t 0 5 = false → chgRes e l i d t = (0, [], 2))) := by
  have hc := chg_cases e l i d t
  unfold ixCode at hc
  cases h : isGr e l with
  | false => rw [h] at hc; simp at hc; exact .inl ⟨rfl, hc⟩
  | true =>
    refine .inr ?_
    rw [h] at hc
    cases h2 : inB i 0 ((l.length : Int) - 1) with
    | false => rw [h2] at hc; simp at hc; exact .inl ⟨rfl, (isGr_in h).2, rfl, hc⟩
    | true =>
      refine .inr ?_
      rw [h2] at hc; simp at hc
      obtain ⟨k, q1, q2, q3, q4, q5, q6⟩ := hc
      exact ⟨k, q1, q2, q3, rfl, rfl, q4, q5, q6⟩
end M
namespace V
set_option maxRecDepth 100000
open Go.RowKit
set_option maxRecDepth 100000 in
set_option maxHeartbeats 2000000 in
theorem sChangePlace (x : Int) (a : Option Addr) (n cap : Nat) (l : List M.Pc) (i d t : Int) (w : World) (h : Pls w a n l) :
    Calls Try.prog 25 #[.agg #[.int .i64 x, .slice a n cap], .int .i64 i, .int .i64 d, .int .i64 t] w (GRes (M.chgRes x l i d t) w) := by
  have HI := Lib.hid h
  have hl : l.length = n := h.1
  have hb0 := b_alloc2 w (.cells #[.int .i64 x, .slice a n cap] 26) (.cells #[.int .i64 0, .slice none 0 0] 26)
  have hG : GBox ((w.alloc (.cells #[.int .i64 x, .slice a n cap] 26)).alloc (.cells #[.int .i64 0, .slice none 0 0] 26)) w.heap.size x a n cap := (gBox_new w x a n cap 26).below (b_alloc _ _)
  have hR : ResG ((w.alloc (.cells #[.int .i64 x, .slice a n cap] 26)).alloc (.cells #[.int .i64 0, .slice none 0 0] 26)) (w.heap.size + 1) := by
    have := resG_new (w.alloc (.cells #[.int .i64 x, .slice a n cap] 26)) 26
    rwa [World.size_alloc] at this
  obtain ⟨wb, hwb⟩ : ∃ z, z = (w.alloc (.cells #[.int .i64 x, .slice a n cap] 26)).alloc (.cells #[.int .i64 0, .slice none 0 0] 26) := ⟨_, rfl⟩
  rw [← hwb] at hb0 hG hR
  have HS := Lib.hid (sIndex x a n cap l i wb (h.below hb0))
  have HG := Lib.hid hG
  have HRs := Lib.hid hR
  have HB0 := Lib.hid hb0
  obtain ⟨r, hr⟩ : ∃ r, r = M.chgRes x l i d t := ⟨_, rfl⟩
  have HC := Lib.hid (M.chg_cases x l i d t)
  obtain ⟨cd, hcd⟩ : ∃ c, c = M.ixCode x l i := ⟨_, rfl⟩
  rw [← hr] at HC ⊢
  rw [← hcd] at HC HS
  clear h hG hb0 hR hr hcd
  go_enter Try.func25, Try.ntmps25
  go_wp2_with fail
  rw [← hwb]
  clear hwb
  refine (HS.out).mono ?_
  rintro e w1 ⟨rfl, hb1⟩
  have HB1 := Lib.hid (HB0.out.trans (hb1.mono HB0.out.size))
  have HI1 := Lib.hid (HI.out.below HB1.out)
  obtain ⟨g0, g1⟩ := HG.out.below hb1
  have HR1 := Lib.hid (HRs.out.below hb1)
  obtain ⟨r0, r1, f0, f1⟩ := HR1.out
  have z1 : w.heap.size + 1 < w1.heap.size := cell_lt r0
  clear hb1 HS
  rcases HC.out with ⟨rfl, hr⟩ | ⟨rfl, hr⟩ | ⟨k, rfl, hk, h30, rfl, hr1, hr2, hr3⟩
  · have HR := Lib.hid hr
    clear hr HC
    go_wp2
    exact bodyPost_ret (v := .tuple #[.agg #[.int .i64 0, .slice none 0 0], .int .i64 1]) (by simp [results, Try.results25, go_sem, z1, r0, r1]) rfl (GRes.nil HR.out ((HB1.out.setCell (by show _ ≤ w.heap.size + 1; omega) _).setCell (by show _ ≤ w.heap.size + 1; omega) _))
  · have HR := Lib.hid hr
    clear hr HC
    go_wp2
    exact bodyPost_ret (v := .tuple #[.agg #[.int .i64 0, .slice none 0 0], .int .i64 2]) (by simp [results, Try.results25, go_sem, z1, r0, r1]) rfl (GRes.nil HR.out ((HB1.out.setCell (by show _ ≤ w.heap.size + 1; omega) _).setCell (by show _ ≤ w.heap.size + 1; omega) _))
  · have HX1 := Lib.hid hr1
    have HX2 := Lib.hid hr2
    have HX3 := Lib.hid hr3
    unfold M.inB at HX1 HX2 HX3
    clear hr1 hr2 hr3 HC
    have hki : (k : Int) < (n : Int) := by omega
    cases h0 : (decide (0 ≤ d) && decide (d ≤ 1000)) with
    | false =>
      have HR := Lib.hid (HX2.out h0)
      clear HX1 HX2 HX3
      go_wp2_with (go_at_call 89; refine (sIn _ _ _ _).mono ?_; rintro e w' ⟨rfl, rfl⟩)
      exact bodyPost_ret (v := .tuple #[.agg #[.int .i64 0, .slice none 0 0], .int .i64 2]) (by simp [results, Try.results25, go_sem, z1, r0, r1]) rfl (GRes.nil HR.out ((HB1.out.setCell (by show _ ≤ w.heap.size + 1; omega) _).setCell (by show _ ≤ w.heap.size + 1; omega) _))
    | true =>
      cases h1 : (decide (0 ≤ t) && decide (t ≤ 5)) with
      | false =>
        have HR := Lib.hid (HX3.out h1)
        clear HX1 HX2 HX3
        go_wp2_with (go_at_call 89; refine (sIn _ _ _ _).mono ?_; rintro e w' ⟨rfl, rfl⟩)
        exact bodyPost_ret (v := .tuple #[.agg #[.int .i64 0, .slice none 0 0], .int .i64 2]) (by simp [results, Try.results25, go_sem, z1, r0, r1]) rfl (GRes.nil HR.out ((HB1.out.setCell (by show _ ≤ w.heap.size + 1; omega) _).setCell (by show _ ≤ w.heap.size + 1; omega) _))
      | true =>
        have HR := Lib.hid (HX1.out h0 h1)
        clear HX1 HX2 HX3
        obtain ⟨b, off, -, -, -, -, rfl, -⟩ := HI1.out.at k (by omega)
        go_wp2_with (first | (go_at_call 89; refine (sIn _ _ _ _).mono ?_; rintro e w' ⟨rfl, rfl⟩) | fail)
        refine (sOwnG x b off n cap l w1 HI1.out (by omega)).mono ?_
        rintro e w2 ⟨g, c, rfl, ho, hb⟩
        have HO := Lib.hid ho
        obtain ⟨r0', r1', f0', f1'⟩ := HR1.out.below hb
        have HB2 := Lib.hid (HB1.out.trans (hb.mono HB1.out.size))
        have z2 := hb.size
        obtain ⟨g', o', p0, p1, p2, p3, hgg, hglt, -, c0, c1, c2, c3⟩ := ho.pls.at k (by omega)
        injection hgg with hgg
        injection hgg with e1 e2
        subst e1 e2
        simp only [Nat.zero_add] at c0 c1 c2 c3
        have hgB : w1.heap.size ≤ g := (ho.lt rfl).1
        have f2 := ho.frozenAt (k * 4 + 2)
        have f3 := ho.frozenAt (k * 4 + 3)
        have hb3 := b_alloc w2 (.cells #[.int .i64 x, .slice (some ⟨g, 0, none⟩) n c] 26)
        have hgne : g ≠ w2.heap.size := by omega
        have hRne : w.heap.size + 1 ≠ g := by omega
        have hRn2 : w.heap.size + 1 ≠ w2.heap.size := by omega
        have d2 := (hb3.cell (p := ⟨g, k * 4 + 2, none⟩) hglt).trans c2
        have d3 := (hb3.cell (p := ⟨g, k * 4 + 3, none⟩) hglt).trans c3
        have hbs : Below w1.heap.size w1 (((w2.setCell ⟨g, k * 4 + 2, none⟩ (.int .i64 d)).setCell ⟨g, k * 4 + 3, none⟩ (.int .i64 t)).alloc (.cells #[.int .i64 x, .slice (some ⟨g, 0, none⟩) n c] 26)) :=
          ((hb.setCell (p := ⟨g, k * 4 + 2, none⟩) hgB _).setCell (p := ⟨g, k * 4 + 3, none⟩) hgB _).alloc (by simpa using z2) _
        have HO4 : Hid (OwnPl (((w2.setCell ⟨g, k * 4 + 2, none⟩ (.int .i64 d)).setCell ⟨g, k * 4 + 3, none⟩ (.int .i64 t)).alloc (.cells #[.int .i64 x, .slice (some ⟨g, 0, none⟩) n c] 26)) w1.heap.size (.slice (some ⟨g, 0, none⟩) n c) (M.stF (M.stF l k 2 d) k 3 t)) :=
          ((ho.setF d (i := k) (j := 2) (by omega) (by omega)).setF t (i := k) (j := 3) (by omega) (by omega)).below (b_alloc _ _)
        obtain ⟨s0, s1, y0, y1⟩ := HR1.out.below hbs
        have HB4 := Lib.hid (HB1.out.trans (hbs.mono HB1.out.size))
        have zz : w.heap.size + 1 < w2.heap.size := by omega
        have HO5 : Hid (OwnPl (((((w2.setCell ⟨g, k * 4 + 2, none⟩ (.int .i64 d)).setCell ⟨g, k * 4 + 3, none⟩ (.int .i64 t)).setCell ⟨w.heap.size + 1, 0, none⟩ (.int .i64 x)).setCell ⟨w.heap.size + 1, 1, none⟩ (.slice (some ⟨g, 0, none⟩) n c)).alloc (.cells #[.int .i64 x, .slice (some ⟨g, 0, none⟩) n c] 26)) w.heap.size (.slice (some ⟨g, 0, none⟩) n c) (M.stF (M.stF l k 2 d) k 3 t)) := by
          refine OwnPl.below ?_ (b_alloc _ _)
          refine (((ho.setF d (i := k) (j := 2) (by omega) (by omega)).setF t (i := k) (j := 3) (by omega) (by omega)).keepB fun q hq => ?_).mono (by omega)
          simp [Value.ownBlock] at hq
          subst hq
          rw [Below.heap_setCell _ _ _ _ (by show g ≠ w.heap.size + 1; omega), Below.heap_setCell _ _ _ _ (by show g ≠ w.heap.size + 1; omega)]
        have hba : Below w.heap.size w w2 := HB1.out.trans (hb.mono HB1.out.size)
        have hgw : w.heap.size ≤ g := by omega
        have HB5 := Lib.hid (((((hba.setCell (p := ⟨g, k * 4 + 2, none⟩) hgw (.int .i64 d)).setCell (p := ⟨g, k * 4 + 3, none⟩) hgw (.int .i64 t)).setCell (p := ⟨w.heap.size + 1, 0, none⟩) (by show _ ≤ w.heap.size + 1; omega) (.int .i64 x)).setCell (p := ⟨w.heap.size + 1, 1, none⟩) (by show _ ≤ w.heap.size + 1; omega) (.slice (some ⟨g, 0, none⟩) n c)).alloc (by simp; omega) (.cells #[.int .i64 x, .slice (some ⟨g, 0, none⟩) n c] 26))
        clear ho hb g0 g1 r0 r1 f0 f1 c0 c1 hb3 hbs HB4 HO4 hba
        go_wp2
        rw [HR.out]
        exact bodyPost_ret (v := .tuple #[.agg #[.int .i64 x, .slice (some ⟨g, 0, none⟩) n c], .int .i64 0]) (by simp [results, Try.results25, go_sem, zz, hRne, hRn2, r0', r1', s0, s1]) rfl ⟨_, _, _, rfl, HO5.out, HB5.out⟩
set_option maxRecDepth 100000 in
set_option maxHeartbeats 2000000 in
theorem changePlace (x : Int) (a : Option Addr) (n cap : Nat) (l : List M.Pc) (i d t : Int) (w : World) (h : Pls w a n l) :
    Calls Try.prog 24 #[.agg #[.int .i64 x, .slice a n cap], .int .i64 i, .int .i64 d, .int .i64 t] w (GRes (M.chgRes x l i d t) w) := by
  have HI := Lib.hid h
  have hl : l.length = n := h.1
  have hb0 := b_alloc2 w (.cells #[.int .i64 x, .slice a n cap] 26) (.cells #[.int .i64 0, .slice none 0 0] 26)
  have hG : GBox ((w.alloc (.cells #[.int .i64 x, .slice a n cap] 26)).alloc (.cells #[.int .i64 0, .slice none 0 0] 26)) w.heap.size x a n cap := (gBox_new w x a n cap 26).below (b_alloc _ _)
  have hR : ResG ((w.alloc (.cells #[.int .i64 x, .slice a n cap] 26)).alloc (.cells #[.int .i64 0, .slice none 0 0] 26)) (w.heap.size + 1) := by
    have := resG_new (w.alloc (.cells #[.int .i64 x, .slice a n cap] 26)) 26
    rwa [World.size_alloc] at this
  obtain ⟨wb, hwb⟩ : ∃ z, z = (w.alloc (.cells #[.int .i64 x, .slice a n cap] 26)).alloc (.cells #[.int .i64 0, .slice none 0 0] 26) := ⟨_, rfl⟩
  rw [← hwb] at hb0 hG hR
  have HS := Lib.hid (isEventGraph x a n cap l wb (h.below hb0))
  have HG := Lib.hid hG
  have HRs := Lib.hid hR
  have HB0 := Lib.hid hb0
  obtain ⟨r, hr⟩ : ∃ r, r = M.chgRes x l i d t := ⟨_, rfl⟩
  have HC := Lib.hid (M.chg_cases2 x l i d t)
  obtain ⟨b0, hb0'⟩ : ∃ c, c = M.isGr x l := ⟨_, rfl⟩
  rw [← hr] at HC ⊢
  rw [← hb0', hl] at HC
  rw [← hb0'] at HS
  have HX : Hid (∀ W, n ≤ 1048576 → Calls Try.prog 83 #[.agg #[.int .i64 x, .slice a n cap], .int .i64 i] W fun e w' => e = .returned (.bool (M.inB i 0 ((n : Int) - 1))) ∧ Below W.heap.size W w') := fun W hn => hasIndex x a n cap i W hn
  obtain ⟨b1, hb1'⟩ : ∃ c, c = M.inB i 0 ((n : Int) - 1) := ⟨_, rfl⟩
  rw [← hb1'] at HC HX
  have hmx := h.2.1
  clear h hG hb0 hR hr hb0' hb1'
  go_enter Try.func24, Try.ntmps24
  go_wp2_with fail
  rw [← hwb]
  clear hwb
  refine (HS.out).mono ?_
  rintro e w1 ⟨rfl, hb1⟩
  have HB1 := Lib.hid (HB0.out.trans (hb1.mono HB0.out.size))
  have HI1 := Lib.hid (HI.out.below HB1.out)
  have HG1 := Lib.hid (HG.out.below hb1)
  obtain ⟨g0, g1⟩ := HG1.out
  have HR1 := Lib.hid (HRs.out.below hb1)
  obtain ⟨r0, r1, f0, f1⟩ := HR1.out
  have z1 : w.heap.size + 1 < w1.heap.size := cell_lt r0
  clear hb1 HS
  rcases HC.out with ⟨rfl, hr⟩ | ⟨rfl, h30, rfl, hr⟩ | ⟨k, rfl, hk, h30, rfl, rfl, hr1, hr2, hr3⟩
  · have HR := Lib.hid hr
    clear hr HC
    go_wp2
    exact bodyPost_ret (v := .tuple #[.agg #[.int .i64 0, .slice none 0 0], .int .i64 1]) (by simp [results, Try.results24, go_sem, z1, r0, r1]) rfl (GRes.nil HR.out ((HB1.out.setCell (by show _ ≤ w.heap.size + 1; omega) _).setCell (by show _ ≤ w.heap.size + 1; omega) _))
  · have HR := Lib.hid hr
    clear hr HC
    go_wp2_with fail
    refine (HX.out _ (by omega)).mono ?_
    rintro e w2 ⟨rfl, hb2⟩
    obtain ⟨r0', r1', f0', f1'⟩ := HR1.out.below hb2
    have HB2 := Lib.hid (HB1.out.trans (hb2.mono HB1.out.size))
    have z2 : w.heap.size + 1 < w2.heap.size := cell_lt r0'
    clear hb2 r0 r1 f0 f1 HX
    go_wp2
    exact bodyPost_ret (v := .tuple #[.agg #[.int .i64 0, .slice none 0 0], .int .i64 2]) (by simp [results, Try.results24, go_sem, z2, r0', r1']) rfl (GRes.nil HR.out ((HB2.out.setCell (by show _ ≤ w.heap.size + 1; omega) _).setCell (by show _ ≤ w.heap.size + 1; omega) _))
  · have HX1 := Lib.hid hr1
    have HX2 := Lib.hid hr2
    have HX3 := Lib.hid hr3
    clear hr1 hr2 hr3 HC
    have hki : (k : Int) < (n : Int) := by omega
    go_wp2_with fail
    refine (HX.out _ (by omega)).mono ?_
    rintro e w2 ⟨rfl, hb2⟩
    obtain ⟨r0', r1', f0', f1'⟩ := HR1.out.below hb2
    have HB2 := Lib.hid (HB1.out.trans (hb2.mono HB1.out.size))
    have z2 : w.heap.size + 1 < w2.heap.size := cell_lt r0'
    have HG2 := Lib.hid (HG1.out.below hb2)
    have HI2 := Lib.hid (HI1.out.below hb2)
    have HR2 := Lib.hid (HR1.out.below hb2)
    clear g0 g1
    obtain ⟨g0, g1⟩ := HG2.out
    clear hb2 r0 r1 f0 f1 HX
    obtain ⟨bd, hbd⟩ : ∃ c, c = M.inB d 0 1000 := ⟨_, rfl⟩
    have HU : Hid (∀ W, Calls Try.prog 84 #[.int .i64 d, .int .i64 1000] W fun e w' => e = .returned (.bool bd) ∧ W = w') := fun W => by rw [hbd]; exact isUpTo d 1000 W
    rw [← hbd] at HX1 HX2
    clear hbd
    obtain ⟨bt, hbt⟩ : ∃ c, c = M.inB t 0 5 := ⟨_, rfl⟩
    have HV : Hid (∀ W, Calls Try.prog 84 #[.int .i64 t, .int .i64 5] W fun e w' => e = .returned (.bool bt) ∧ W = w') := fun W => by rw [hbt]; exact isUpTo t 5 W
    rw [← hbt] at HX1 HX3
    clear hbt
    cases bd with
    | false =>
      have HR := Lib.hid (HX2.out rfl)
      clear HX1 HX2 HX3
      go_wp2_with fail
      refine (HU.out _).mono ?_
      rintro e w' ⟨rfl, rfl⟩
      go_wp2
      exact bodyPost_ret (v := .tuple #[.agg #[.int .i64 0, .slice none 0 0], .int .i64 2]) (by simp [results, Try.results24, go_sem, z2, r0', r1']) rfl (GRes.nil HR.out ((HB2.out.setCell (by show _ ≤ w.heap.size + 1; omega) _).setCell (by show _ ≤ w.heap.size + 1; omega) _))
    | true =>
      cases bt with
      | false =>
        have HR := Lib.hid (HX3.out rfl)
        clear HX1 HX2 HX3
        go_wp2_with fail
        refine (HU.out _).mono ?_
        rintro e w' ⟨rfl, rfl⟩
        go_wp2_with fail
        refine (HV.out _).mono ?_
        rintro e w' ⟨rfl, rfl⟩
        go_wp2
        exact bodyPost_ret (v := .tuple #[.agg #[.int .i64 0, .slice none 0 0], .int .i64 2]) (by simp [results, Try.results24, go_sem, z2, r0', r1']) rfl (GRes.nil HR.out ((HB2.out.setCell (by show _ ≤ w.heap.size + 1; omega) _).setCell (by show _ ≤ w.heap.size + 1; omega) _))
      | true =>
        have HR := Lib.hid (HX1.out rfl rfl)
        clear HX1 HX2 HX3
        obtain ⟨b, off, -, -, -, -, rfl, -⟩ := HI2.out.at k (by omega)
        go_wp2_with fail
        refine (HU.out _).mono ?_
        rintro e w' ⟨rfl, rfl⟩
        go_wp2_with fail
        refine (HV.out _).mono ?_
        rintro e w' ⟨rfl, rfl⟩
        go_wp2_with fail
        refine (clonePl b off n cap l w2 HI2.out (by omega)).mono ?_
        rintro e w3 ⟨g, c, rfl, ho, hb⟩
        obtain ⟨g', o', p0, p1, p2, p3, hgg, hglt, -, c0, c1, c2, c3⟩ := ho.pls.at k (by omega)
        injection hgg with hgg
        injection hgg with e1 e2
        subst e1 e2
        simp only [Nat.zero_add] at c0 c1 c2 c3
        have hgB : w2.heap.size ≤ g := (ho.lt rfl).1
        have f2 := ho.frozenAt (k * 4 + 2)
        have f3 := ho.frozenAt (k * 4 + 3)
        have z3 := hb.size
        have hRne : w.heap.size + 1 ≠ g := by omega
        have HCh := Lib.hid (change g (k * 4) d t w3 ⟨_, c2⟩ ⟨_, c3⟩ f2 f3)
        have hbs : Below w2.heap.size w2 ((w3.setCell ⟨g, k * 4 + 2, none⟩ (.int .i64 d)).setCell ⟨g, k * 4 + 3, none⟩ (.int .i64 t)) :=
          (hb.setCell (p := ⟨g, k * 4 + 2, none⟩) hgB _).setCell (p := ⟨g, k * 4 + 3, none⟩) hgB _
        have ho4 := (ho.setF d (i := k) (j := 2) (by omega) (by omega)).setF t (i := k) (j := 3) (by omega) (by omega)
        clear ho c0 c1 c2 c3 f2 f3
        go_wp2_with fail
        refine (HCh.out).mono ?_
        rintro e w4 ⟨rfl, hw4⟩
        rw [← hw4] at hbs ho4
        have HR4 := Lib.hid (HR2.out.below hbs)
        have HB4 := Lib.hid (HB2.out.trans (hbs.mono HB2.out.size))
        have z4 := hbs.size
        have HO4 := Lib.hid ho4
        clear g0 g1 r0' r1' f0' f1'
        obtain ⟨g0, g1⟩ := HG2.out.below hbs
        clear hbs hw4 ho4 HCh hb
        go_wp2_with fail
        refine (withPl x (some ⟨b, off, none⟩) n cap (some ⟨g, 0, none⟩) n c w4).mono ?_
        rintro e w5 ⟨rfl, hb5⟩
        have HO5 := Lib.hid (HO4.out.below hb5)
        have HB5 := Lib.hid (HB4.out.trans (hb5.mono HB4.out.size))
        obtain ⟨r0, r1, f0, f1⟩ := HR4.out.below hb5
        have z5 : w.heap.size + 1 < w5.heap.size := cell_lt r0
        have HO6 : Hid (OwnPl ((w5.setCell ⟨w.heap.size + 1, 0, none⟩ (.int .i64 x)).setCell ⟨w.heap.size + 1, 1, none⟩ (.slice (some ⟨g, 0, none⟩) n c)) w.heap.size (.slice (some ⟨g, 0, none⟩) n c) (M.stF (M.stF l k 2 d) k 3 t)) := by
          refine (HO5.out.keepB fun q hq => ?_).mono (by omega)
          simp [Value.ownBlock] at hq
          subst hq
          rw [Below.heap_setCell _ _ _ _ (by show g ≠ w.heap.size + 1; omega), Below.heap_setCell _ _ _ _ (by show g ≠ w.heap.size + 1; omega)]
        have HB6 := Lib.hid ((HB5.out.setCell (p := ⟨w.heap.size + 1, 0, none⟩) (by show _ ≤ w.heap.size + 1; omega) (.int .i64 x)).setCell (p := ⟨w.heap.size + 1, 1, none⟩) (by show _ ≤ w.heap.size + 1; omega) (.slice (some ⟨g, 0, none⟩) n c))
        clear hb5 g0 g1
        go_wp2
        rw [HR.out]
        exact bodyPost_ret (v := .tuple #[.agg #[.int .i64 x, .slice (some ⟨g, 0, none⟩) n c], .int .i64 0]) (by simp [results, Try.results24, go_sem, z5, hRne, r0, r1]) rfl ⟨_, _, _, rfl, HO6.out, HB6.out⟩
end V
end Go.Proofs.Ytphobmddkphofaa

namespace Go.Proofs.Ytphobmddkphofaa
namespace V
set_option maxRecDepth 100000
open Go.RowKit
set_option maxRecDepth 100000 in
set_option maxHeartbeats 1000000 in
theorem growPl (n : Nat) (w : World) (h0 : 0 < n) (hn : n ≤ 1000) :
    Calls Try.prog 132 #[.slice none 0 0, .int .i64 n] w fun e w' => ∃ c, e = .returned (.slice (some ⟨w.heap.size, 0, none⟩) 0 c) ∧ OwnPl w' w.heap.size (.slice (some ⟨w.heap.size, 0, none⟩) 0 c) [] ∧ Below w.heap.size w w' := by
  obtain ⟨i0, hi, hz0, hz1, hz2⟩ := infoP_parts
  have hge := grownCap_ge w n 0 39
  have hle := grownCap_le_maxLen w n 0 39 (by unfold maxLen; omega)
  have HGe := Lib.hid hge
  have HLe := Lib.hid hle
  have hrun := Lib.run_append_nil_zeros (P := Try.prog) w 24 3 24 39 i0 (.agg #[.int .i64 0, .int .i64 0, .int .i64 0, .int .i64 0]) .i64 .i64 Try.underlying24 Try.underlying3 hi hz0 n h0 (by rw [hz1]; decide) (by omega) (by rw [hz2]; omega)
  have HR := Lib.hid hrun
  have hn1 : ¬ (n : Int) < 0 := by omega
  have hn2 : (n : Int) > 0 := by omega
  clear hrun hi hge hle
  go_enter Try.func132, Try.ntmps132
  go_wp2_with (at_builtin; refine Lib.wpList_append_run _ rfl (.tmp 20) (.tmp 21) 24 3 rfl _ _ rfl rfl _ _ HR.out ?_)
  generalize grownCap w n 0 39 = cc at *
  go_wp2
  go_ret
  refine ⟨cc, rfl, ?_, ?_⟩
  · refine ⟨rfl, .inr ⟨w.heap.size, cc, _, rfl, Nat.le_refl _, heap_alloc_new (w.drew) _, Nat.zero_le _, HLe.out, ?_, by simp [pcells]⟩⟩
    have := HGe.out
    simp [Builtin.zeroCells]
    omega
  · exact (Below.refl _ _).drew.alloc (Nat.le_refl _) _
theorem ckP {w w' : World} {b o : Nat} {v : Value} (h : w.cell? ⟨b, o, none⟩ = some v) (hb : Below w.heap.size w w') : w'.cell? ⟨b, o, none⟩ = some v :=
  (hb.cell (p := ⟨b, o, none⟩) (cell_lt h)).trans h
set_option maxRecDepth 100000 in
set_option maxHeartbeats 2000000 in
theorem concatPl (b g1 o1 n1 c1 g2 o2 n2 c2 : Nat) (x y : List M.Pc) (w : World) (hx : Pls w (some ⟨g1, o1, none⟩) n1 x) (hy : Pls w (some ⟨g2, o2, none⟩) n2 y)
    (hc0 : w.cell? ⟨b, 0, none⟩ = some (.slice (some ⟨g1, o1, none⟩) n1 c1)) (hc1 : w.cell? ⟨b, 1, none⟩ = some (.slice (some ⟨g2, o2, none⟩) n2 c2)) (h0 : 0 < n1 + n2) (hn : n1 + n2 ≤ 1000) :
    Calls Try.prog 91 #[.slice (some ⟨b, 0, none⟩) 2 2] w fun e w' => ∃ g cc, e = .returned (.slice (some ⟨g, 0, none⟩) (n1 + n2) cc) ∧ OwnPl w' w.heap.size (.slice (some ⟨g, 0, none⟩) (n1 + n2) cc) (x ++ y) ∧ Below w.heap.size w w' := by
  have HX := Lib.hid hx
  have HY := Lib.hid hy
  have HLx : Hid (x.length = n1) := hx.1
  have HLy : Hid (y.length = n2) := hy.1
  have HC0 : Hid (∀ w', Below w.heap.size w w' → w'.cell? ⟨b, 0, none⟩ = some (.slice (some ⟨g1, o1, none⟩) n1 c1)) := fun w' hb => ckP hc0 hb
  have HC1 : Hid (∀ w', Below w.heap.size w w' → w'.cell? ⟨b, 1, none⟩ = some (.slice (some ⟨g2, o2, none⟩) n2 c2)) := fun w' hb => ckP hc1 hb
  clear hx hy
  go_enter Try.func91, Try.ntmps91
  go_wp2
  go_loop [3, 11] (fun sv iv => (iv = .int .i64 0 ∧ sv = .int .i64 0) ∨ (iv = .int .i64 1 ∧ sv = .int .i64 n1) ∨ (iv = .int .i64 2 ∧ sv = .int .i64 ((n1 + n2 : Nat) : Int))) (fun _ iv => 2 - (intOf iv).toNat)
  case atStart => exact .inl ⟨rfl, rfl⟩
  case round =>
    have k1 : ¬ (n1 : Int) < 0 := by omega
    have k2 : ¬ (n1 : Int) + (n2 : Int) < 0 := by omega
    rcases hrel with ⟨rfl, rfl⟩ | ⟨rfl, rfl⟩ | ⟨rfl, rfl⟩
    · go_wp2
      go_round
      case rel => exact .inr (.inl ⟨rfl, by go_num⟩)
      case measure => simp [intOf]
    · go_wp2
      go_round
      case rel => exact .inr (.inr ⟨rfl, by go_num⟩)
      case measure => simp [intOf]
    · go_wp2_with fail
      refine (growPl (n1 + n2) _ h0 hn).mono ?_
      rintro e w1 ⟨c, rfl, ho, hb⟩
      have HO := Lib.hid ho
      have HB := Lib.hid hb
      clear ho hb hc0 hc1
      go_wp2
      go_loopw [6, 27] (fun v iv wr => Hid (Below w.heap.size w wr) ∧ ((iv = .int .i64 0 ∧ v = .slice (some ⟨w.heap.size, 0, none⟩) 0 c ∧ Hid (OwnPl wr w.heap.size v [])) ∨ (iv = .int .i64 1 ∧ ∃ b4 c4, v = .slice (some ⟨b4, 0, none⟩) n1 c4 ∧ Hid (OwnPl wr w.heap.size v x)) ∨ (iv = .int .i64 2 ∧ ∃ b4 c4, v = .slice (some ⟨b4, 0, none⟩) (n1 + n2) c4 ∧ Hid (OwnPl wr w.heap.size v (x ++ y))))) (fun _ iv _ => 2 - (intOf iv).toNat)
      case atStart => exact ⟨HB, .inl ⟨rfl, rfl, HO⟩⟩
      case round =>
        obtain ⟨HBr, ⟨rfl, rfl, HOr⟩ | ⟨rfl, b4, c4, rfl, HOr⟩ | ⟨rfl, b4, c4, rfl, HOr⟩⟩ := hrel
        · have hd0 := HC0.out _ HBr.out
          have HXr := Lib.hid (HX.out.below HBr.out)
          go_wp2_with (at_builtin; refine appendPl _ rfl (.tmp 31) (.tmp 32) rfl w.heap.size (.slice (some ⟨w.heap.size, 0, none⟩) 0 c) [] x 0 n1 g1 o1 c1 rfl rfl HOr.out (by simp) rfl HXr.out (by omega) HBr.out.size ?_)
          rintro v5 w5 ⟨g5, c5, rfl, ho5, hb5, -, -⟩
          have HO5 : Hid (OwnPl w5 w.heap.size (.slice (some ⟨g5, 0, none⟩) n1 c5) x) := ho5
          have HB5 := Lib.hid (HBr.out.trans hb5)
          clear ho5 hb5 hd0
          go_wp2
          go_roundw
          case rel => exact ⟨HB5, .inr (.inl ⟨rfl, _, _, by first | rfl | (rw [Nat.zero_add]), HO5⟩)⟩
          case measure => simp [intOf]
        · have hd1 := HC1.out _ HBr.out
          have HYr := Lib.hid (HY.out.below HBr.out)
          go_wp2_with (at_builtin; refine appendPl _ rfl (.tmp 31) (.tmp 32) rfl w.heap.size (.slice (some ⟨b4, 0, none⟩) n1 c4) x y n1 n2 g2 o2 c2 HLx.out rfl HOr.out (by simp) rfl HYr.out (by omega) HBr.out.size ?_)
          rintro v5 w5 ⟨g5, c5, rfl, ho5, hb5, -, -⟩
          have HO5 := Lib.hid ho5
          have HB5 := Lib.hid (HBr.out.trans hb5)
          clear ho5 hb5 hd1
          go_wp2
          go_roundw
          case rel => exact ⟨HB5, .inr (.inr ⟨rfl, _, _, rfl, HO5⟩)⟩
          case measure => simp [intOf]
        · go_wp2
          go_ret
          exact ⟨_, _, rfl, HOr.out, HBr.out⟩
end V
end Go.Proofs.Ytphobmddkphofaa
