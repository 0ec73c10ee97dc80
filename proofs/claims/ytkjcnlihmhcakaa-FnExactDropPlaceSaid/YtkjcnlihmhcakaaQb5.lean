/- Texts laid together: Mat2, App, SBot, Vec, IsMat, SMul, IAdd, IMul, Trans, Apply, Grf. -/
import Derived.Test.YtkjcnlihmhcakaaRows
import Derived.Test.YtkjcnlihmhcakaaQb1
import Derived.Test.YtkjcnlihmhcakaaQb2
import Derived.WalkKit
import Derived.ProofKit
import Derived.WalkSmall
import Derived.Deep.QuietTactic
import Derived.BigQuiet
import Derived.BigRegion
import Derived.Deep.Draws
import Derived.Lib.Hide
import Derived.OpenShut
import Derived.Deep.OwnRows
import Derived.Maps.AppendAt
import Derived.Test.YtkjcnlihmhcakaaQb3
import Derived.StillTailTactics
import Derived.Test.YtkjcnlihmhcakaaQb4
set_option linter.unusedSimpArgs false
set_option linter.unusedVariables false
set_option linter.unusedSectionVars false
namespace Go.Proofs.Ytkjcnlihmhcakaa.V
open Go.RowKit

theorem eqV (a : Option Addr) (n cap : Nat) (l : List Int) (a' : Option Addr) (n' cap' : Nat) (w : World) (h : Ints .i64 w a n l) (h' : Ints .i64 w a' n' l) :
    Calls Try.prog 35 #[.slice a n cap, .slice a' n' cap'] w fun e w' => e = .returned (.bool true) ∧ Below w.heap.size w w' := by
  refine (eqInts _ _ _ _ _ _ _ _ _ h h' rfl).mono ?_
  rintro e w' ⟨rfl, q, rfl⟩
  exact ⟨rfl, b_draws _ _⟩
end Go.Proofs.Ytkjcnlihmhcakaa.V

namespace Go.Proofs.Ytkjcnlihmhcakaa.V
open Go.RowKit

theorem append1 (w : World) {ops : Array Oper} {rest : List Oper} {o : Oper} {a : Act} {Q : Exit → Act → World → Prop} (hgd : o.guard = none) (s x : Operand)
    (ho : o.op = .call { callee := .builtin .append, args := #[s, x], argTypes := #[29, 29] }) (B : Nat) (v : Value) (l : List Int) (y : Int) (n : Nat) (hn : l.length = n) (hs : a.eval s = v) (hown : Own w B v l)
    (hx : a.eval x = .slice (some ⟨w.heap.size, 0, none⟩) 1 1) (hlen : l.length ≤ 2000000) (hB : B ≤ w.heap.size)
    (h : ∀ b' c' w', Own w' B (.slice b' (n + 1) c') (l ++ [y]) → Below B w w' → (∀ k, k < w.heap.size → v.ownBlock ≠ some k → w'.heap[k]? = w.heap[k]?) → wpList Try.prog ops Q rest (a.put o.dst (.slice b' (n + 1) c')) w') :
    wpList Try.prog ops Q (o :: rest) a (w.alloc (.cells #[.int .i64 y] 2)) := by
  subst hn
  obtain ⟨i0, hi, hz0, hz1, hz2⟩ := info_parts info64
  have hown2 : (w.alloc (.cells #[.int .i64 y] 2)).ownsRow B 2 1 v l.length (l.map (Value.int .i64)) := World.ownsRow.alloc hown _
  refine wpList_append_own_at (w := w.alloc (.cells #[.int .i64 y] 2)) hgd s x 29 ho B 2 i0 (.int .i64 0) 1 8 Try.underlying29 hi hz0 hz1 hz2 rfl (by decide) v _ _ hs hown2 ⟨w.heap.size, 0, none⟩ 1 1 [.int .i64 y] hx rfl (cell_one_new _ _ _) ?c2 ?c3 ?c4 ?c5 ?_
  case c2 => intro u hu; simp at hu; subst hu; rfl
  case c3 => unfold maxLen; omega
  case c4 => omega
  case c5 => simp; omega
  · intro v' w' hown' hgrow hz hvb
    have ho' : Own w' B v' (l ++ [y]) := by
      show w'.ownsRow B _ 1 v' (l ++ [y]).length ((l ++ [y]).map (Value.int .i64))
      simpa using hown'
    obtain ⟨b', c', hv', _⟩ := own_form ho'
    rw [show (l ++ [y]).length = l.length + 1 by simp] at hv'
    subst hv'
    refine h b' c' w' ho' (((Below.refl B w).alloc hB _).grown hgrow (by simp; omega) (fun k hk => (own_lt hown hk).1)) (fun k hk hne => ?_)
    obtain ⟨g1, g2, g3, g4, g5⟩ := hgrow
    rw [g5 k (by simp; omega) (fun e => hne e.symm), Below.heap_alloc _ _ _ hk]

end Go.Proofs.Ytkjcnlihmhcakaa.V

namespace Go.Proofs.Ytkjcnlihmhcakaa.V
open Go.RowKit

/-- A new matrix r with n rows. -/
def MPost (n : Nat) (r : List (List Int)) (w : World) (e : Ending) (w' : World) : Prop :=
  ∃ a cap, e = .returned (.slice a n cap) ∧ OwnM w' w.heap.size (.slice a n cap) r ∧ Below w.heap.size w w'
/-- A new matrix and a code. -/
def MRes (r : List (List Int) × Int) (w : World) (e : Ending) (w' : World) : Prop :=
  ∃ a n cap, e = .returned (.tuple #[.slice a n cap, .int .i64 r.2]) ∧ OwnM w' w.heap.size (.slice a n cap) r.1 ∧ Below w.heap.size w w'

theorem MRes.nil {r : List (List Int) × Int} {c : Int} {w w' : World} (hr : r = ([], c)) (hb : Below w.heap.size w w') : MRes r w (.returned (.tuple #[.slice none 0 0, .int .i64 c])) w' := by
  subst hr
  exact ⟨none, 0, 0, rfl, ownM_nil _ _, hb⟩

end Go.Proofs.Ytkjcnlihmhcakaa.V

namespace Go.Proofs.Ytkjcnlihmhcakaa.V
open Go.RowKit

end Go.Proofs.Ytkjcnlihmhcakaa.V

namespace Go.Proofs.Ytkjcnlihmhcakaa.V
open Go.RowKit

end Go.Proofs.Ytkjcnlihmhcakaa.V

namespace Go.Proofs.Ytkjcnlihmhcakaa.V
open Go.RowKit

theorem tm_val {R : List (List Int)} {n L : Nat} (hR : M.isMat R = true) (hr : Rect R n L) (hn : 0 < n) {i j : Nat} (hi : i < n) (hj : j < L) : M.isVal (M.ent R i j) = true :=
  M.isMat_val hR (by rw [hr.1]; exact hi) (by rw [hr.wid hn]; exact hj)


end Go.Proofs.Ytkjcnlihmhcakaa.V

namespace Go.Proofs.Ytkjcnlihmhcakaa.V
open Go.RowKit


end Go.Proofs.Ytkjcnlihmhcakaa.V

namespace Go.Proofs.Ytkjcnlihmhcakaa.V
open Go.RowKit

end Go.Proofs.Ytkjcnlihmhcakaa.V

namespace Go.Proofs.Ytkjcnlihmhcakaa.V
open Go.RowKit



end Go.Proofs.Ytkjcnlihmhcakaa.V

namespace Go.Proofs.Ytkjcnlihmhcakaa.V
open Go.RowKit

/-- A new vector and a code. -/
def VRes (r : List Int × Int) (w : World) (e : Ending) (w' : World) : Prop :=
  ∃ a n cap, e = .returned (.tuple #[.slice a n cap, .int .i64 r.2]) ∧ Own w' w.heap.size (.slice a n cap) r.1 ∧ Below w.heap.size w w'
theorem VRes.nil {r : List Int × Int} {c : Int} {w w' : World} (hr : r = ([], c)) (hb : Below w.heap.size w w') : VRes r w (.returned (.tuple #[.slice none 0 0, .int .i64 c])) w' := by
  subst hr
  exact ⟨none, 0, 0, rfl, own_nil _ _, hb⟩

theorem ints_vec {w : World} {a : Option Addr} {n : Nat} {l : List Int} (h : Ints .i64 w a n l) (hv : M.isVec l = true) : 1 ≤ n ∧ n ≤ 10 := by
  obtain ⟨h1, h2, -⟩ := M.isVec_t hv
  rw [h.1] at h1 h2
  exact ⟨h1, h2⟩
/-- A matrix of one row that is not its own. -/
theorem mat_one (w : World) (a : Option Addr) (n cap : Nat) (l : List Int) (h : Ints .i64 w a n l) : Mat (w.alloc (.cells #[.slice a n cap] 29)) (some ⟨w.heap.size, 0, none⟩) 1 [l] := by
  refine ⟨rfl, by decide, .inr ⟨_, _, rfl, by simp, fun i hi => ?_⟩⟩
  obtain rfl : i = 0 := by omega
  have hc := cell_one_new w (.slice a n cap) 29 0 _ rfl
  refine ⟨a, cap, ?_, ?_⟩
  · show _ = some (Value.slice a l.length cap)
    rw [h.1]; exact hc
  · show Ints _ _ _ l.length l
    rw [h.1]; exact h.below (b_alloc w _)

/-- The first row of an owned matrix. -/
theorem OwnM.row0 {w : World} {B n cap : Nat} {a : Option Addr} {R : List (List Int)} (h : OwnM w B (.slice a n cap) R) (hn : 0 < n) :
    ∃ g ra rc, a = some ⟨g, 0, none⟩ ∧ w.cell? ⟨g, 0, none⟩ = some (.slice ra (R.getD 0 []).length rc) ∧ Own w B (.slice ra (R.getD 0 []).length rc) (R.getD 0 []) := by
  have hl := h.len
  obtain ⟨V, h1, h2, h3, h4, h5⟩ := h
  obtain ⟨a', c', hv, hc, hm, hg⟩ := own_form h2
  injection hv with e1 e2 e3
  subst e1 e2 e3
  obtain ⟨g, rfl, hB, hlt⟩ := hg (by omega)
  have hr := h3 0 (by omega)
  obtain ⟨ra, rc, hrv, _⟩ := own_form hr
  rw [hrv] at hr
  refine ⟨g, ra, rc, rfl, ?_, hr⟩
  rw [World.ownsRow.cellAt h2 0 (by omega), ← hrv]
  simp [show 0 < V.length by omega]

/-- The column of a vector. -/
def M.colM (l : List Int) (n : Nat) : List (List Int) := M.mk n 1 (fun i _ => l.getD i 0)
theorem M.colM_ok {l : List Int} {n : Nat} (hv : M.isVec l = true) (hl : l.length = n) : M.isMat (M.colM l n) = true := by
  obtain ⟨h1, h2, h3⟩ := M.isVec_t hv
  exact M.isMat_mk (by omega) (by omega) (Nat.le_refl _) (by omega) (fun i hi _ _ => h3 i (by omega))
theorem M.dot_col {R : List (List Int)} {l : List Int} {n i k : Nat} (hk : k ≤ n) : M.dot R (M.colM l n) i 0 k = M.dotV R l i k := by
  unfold M.dot M.dotV
  refine M.sumN_congr fun t ht => ?_
  rw [M.colM, M.ent_mk _ _ _ _ _ (by omega) (by omega)]







end Go.Proofs.Ytkjcnlihmhcakaa.V

namespace Go.Proofs.Ytkjcnlihmhcakaa
namespace M
def pTo (p : Pc) : Int := p.2.1
def pFrom (p : Pc) : Int := p.1
def plcL (f : Pc → Int) (l : List Pc) (ev : Int) (k : Nat) : List Int := ((List.range k).filter fun i => decide (f (l.getD i pz) = ev)).map fun i : Nat => (i : Int)
def evCode (e : Int) (l : List Pc) (ev : Int) : Int := if isGr e l then (if inB ev 0 (e - 1) then 0 else 2) else 1
def plcRes (f : Pc → Int) (e : Int) (l : List Pc) (ev : Int) : List Int × Int := if isGr e l then (if inB ev 0 (e - 1) then (plcL f l ev l.length, 0) else ([], 2)) else ([], 1)
theorem plcL_next (f : Pc → Int) (l : List Pc) (ev : Int) (k : Nat) : plcL f l ev (k + 1) = if f (l.getD k pz) = ev then plcL f l ev k ++ [(k : Int)] else plcL f l ev k := by
  unfold plcL
  rw [List.range_succ, List.filter_append, List.map_append]
  by_cases h : f (l.getD k pz) = ev
  · rw [if_pos h, List.filter_cons_of_pos (by rw [decide_eq_true_iff]; exact h)]; rfl
  · rw [if_neg h, List.filter_cons_of_neg (by rw [decide_eq_true_iff]; exact h)]; simp
theorem plcL_len (f : Pc → Int) (l : List Pc) (ev : Int) (k : Nat) : (plcL f l ev k).length ≤ k := by
  unfold plcL
  rw [List.length_map]
  exact Nat.le_trans (List.length_filter_le _ _) (by simp)
theorem plcRes_len (f : Pc → Int) (e : Int) (l : List Pc) (ev : Int) : (plcRes f e l ev).1.length ≤ 30 := by
  unfold plcRes
  cases h : isGr e l with
  | false => simp
  | true =>
    have hl : l.length ≤ 30 := by
      unfold isGr at h
      simp only [Bool.and_eq_true, decide_eq_true_iff] at h
      exact h.2.1
    cases h2 : inB ev 0 (e - 1) with
    | false => simp
    | true => have := plcL_len f l ev l.length; simp; omega
theorem isGr_in {e : Int} {l : List Pc} (h : isGr e l = true) : inB e 1 10 = true ∧ l.length ≤ 30 := by
  unfold isGr at h
  simp only [Bool.and_eq_true, decide_eq_true_iff] at h
  exact ⟨h.1, h.2.1⟩
end M
namespace V
set_option maxRecDepth 100000
open Go.RowKit
set_option maxRecDepth 100000 in
set_option maxHeartbeats 1000000 in
theorem sEvent (x : Int) (a : Option Addr) (n cap : Nat) (l : List M.Pc) (ev : Int) (w : World) (h : Pls w a n l) :
    Calls Try.prog 44 #[.agg #[.int .i64 x, .slice a n cap], .int .i64 ev] w fun e w' => e = .returned (.int .i64 (M.evCode x l ev)) ∧ Below w.heap.size w w' := by
  have hb0 := b_alloc w (.cells #[.int .i64 x, .slice a n cap] 26)
  obtain ⟨r, hr⟩ : ∃ r, r = M.isGr x l := ⟨_, rfl⟩
  have HS : Hid (Calls Try.prog 26 #[.agg #[.int .i64 x, .slice a n cap]] (w.alloc (.cells #[.int .i64 x, .slice a n cap] 26)) fun e w' => e = .returned (.bool r) ∧ Below (w.alloc (.cells #[.int .i64 x, .slice a n cap] 26)).heap.size (w.alloc (.cells #[.int .i64 x, .slice a n cap] 26)) w') := by
    rw [hr]; exact sIsEventGraph x a n cap l _ (h.below hb0)
  have HIn : Hid (r = true → M.inB x 1 10 = true) := fun q => (M.isGr_in (hr.symm.trans q)).1
  have HCd : Hid (∀ b, M.inB ev 0 (x - 1) = b → M.evCode x l ev = if r then (if b then 0 else 2) else 1) := fun b q => by unfold M.evCode; rw [q, ← hr]
  have hG := gBox_new w x a n cap 26
  obtain ⟨wb, hwb⟩ : ∃ z, z = w.alloc (.cells #[.int .i64 x, .slice a n cap] 26) := ⟨_, rfl⟩
  rw [← hwb] at HS hb0 hG
  have HG := Lib.hid hG
  have HB0 := Lib.hid hb0
  clear hr h hG hb0
  go_enter Try.func44, Try.ntmps44
  go_wp2_with fail
  rw [← hwb]
  clear hwb
  refine (HS.out).mono ?_
  rintro e w1 ⟨rfl, hb1⟩
  have HB1 := Lib.hid (HB0.out.trans (hb1.mono HB0.out.size))
  obtain ⟨g0, g1⟩ := HG.out.below hb1
  clear hb1
  cases r with
  | false =>
    have HE := Lib.hid (HCd.out _ rfl)
    go_wp2
    go_ret
    exact ⟨by rw [HE.out]; rfl, HB1.out⟩
  | true =>
    have hin := HIn.out rfl
    have hx : 1 ≤ x ∧ x ≤ 10 := by unfold M.inB at hin; simp at hin; exact hin
    clear hin
    cases h0 : (decide (0 ≤ ev) && decide (ev ≤ x - 1)) with
    | false =>
      have HE := Lib.hid (HCd.out false h0)
      go_wp2_with (go_at_call 56; refine (sIn _ _ _ _).mono ?_; rintro e w' ⟨rfl, rfl⟩)
      go_ret
      exact ⟨by rw [HE.out]; rfl, HB1.out⟩
    | true =>
      have HE := Lib.hid (HCd.out true h0)
      go_wp2_with (go_at_call 56; refine (sIn _ _ _ _).mono ?_; rintro e w' ⟨rfl, rfl⟩)
      go_ret
      exact ⟨by rw [HE.out]; rfl, HB1.out⟩
set_option maxRecDepth 100000 in
set_option maxHeartbeats 2000000 in
theorem sPlacesInto (x : Int) (a : Option Addr) (n cap : Nat) (l : List M.Pc) (ev : Int) (w : World) (h : Pls w a n l) (hn : n ≤ 30) :
    Calls Try.prog 45 #[.agg #[.int .i64 x, .slice a n cap], .int .i64 ev, .bool true] w fun e w' => ∃ b c, e = .returned (.slice b (M.plcL M.pTo l ev n).length c) ∧ Own w' w.heap.size (.slice b (M.plcL M.pTo l ev n).length c) (M.plcL M.pTo l ev n) ∧ Below w.heap.size w w' := by
  have HI := Lib.hid h
  have hO0 : Hid (Own ((w.alloc (.cells #[.int .i64 x, .slice a n cap] 26)).alloc (.cells #[] 2)) (w.heap.size + 1) (.slice (some ⟨w.heap.size + 1, 0, none⟩) 0 0) (M.plcL M.pTo l ev 0)) := by
    have := own_lit0 (w.alloc (.cells #[.int .i64 x, .slice a n cap] 26)) (w.heap.size + 1) (by simp)
    show Own _ _ _ []
    simpa using this
  have hB0 : Hid (Below w.heap.size w ((w.alloc (.cells #[.int .i64 x, .slice a n cap] 26)).alloc (.cells #[] 2))) := b_alloc2 w _ _
  have hG0 : Hid (GBox ((w.alloc (.cells #[.int .i64 x, .slice a n cap] 26)).alloc (.cells #[] 2)) w.heap.size x a n cap) := (gBox_new w x a n cap 26).below (b_alloc _ _)
  clear h
  go_enter Try.func45, Try.ntmps45
  go_wp2
  go_loopw [7, 8] (fun lv kv wr => ∃ (k : Nat) (b : Option Addr) (c : Nat), k ≤ n ∧ kv = .int .i64 k ∧ lv = .slice b (M.plcL M.pTo l ev k).length c ∧ Hid (Own wr (w.heap.size + 1) (.slice b (M.plcL M.pTo l ev k).length c) (M.plcL M.pTo l ev k)) ∧ Hid (GBox wr w.heap.size x a n cap) ∧ Hid (Below w.heap.size w wr)) (fun _ kv _ => n - (intOf kv).toNat)
  case atStart => exact ⟨0, _, _, Nat.zero_le _, rfl, rfl, hO0, hG0, hB0⟩
  case round =>
    obtain ⟨k, b, c, hk, rfl, rfl, HO, HG, HB⟩ := hrel
    obtain ⟨wo, rfl⟩ : ∃ x, x = wr := ⟨_, rfl⟩
    clear hO0 hB0 hG0
    obtain ⟨g0, g1⟩ := HG.out
    by_cases hkl : k < n
    · have hki : (k : Int) < (n : Int) := by omega
      obtain ⟨pb, off, p0, p1, p2, p3, rfl, -, hp, c0, c1, c2, c3⟩ := (HI.out.below HB.out).at k hkl
      have hsz := HB.out.size
      have hsz1 : w.heap.size + 1 ≤ wo.heap.size := cell_lt g0
      have hlen : (M.plcL M.pTo l ev k).length ≤ 30 := by have := M.plcL_len M.pTo l ev k; omega
      have hNx : M.plcL M.pTo l ev (k + 1) = if p1 = ev then M.plcL M.pTo l ev k ++ [(k : Int)] else M.plcL M.pTo l ev k := by
        have := M.plcL_next M.pTo l ev k
        rw [hp] at this
        exact this
      by_cases he : p1 = ev
      · have HN : Hid (M.plcL M.pTo l ev (k + 1) = M.plcL M.pTo l ev k ++ [(k : Int)]) := by show _ = _; rw [hNx, if_pos he]
        have HNl : Hid ((M.plcL M.pTo l ev (k + 1)).length = (M.plcL M.pTo l ev k).length + 1) := by show _ = _; rw [HN.out]; simp
        obtain ⟨L, hL⟩ : ∃ L, L = (M.plcL M.pTo l ev k).length := ⟨_, rfl⟩
        rw [← hL] at HO HNl hlen ⊢
        have HLl := Lib.hid hL.symm
        have heb : (p1 == ev) = true := by simpa using he
        clear hL hNx hp
        go_wp2_with (at_builtin; refine append1 _ rfl (.tmp 42) (.tmp 44) rfl (w.heap.size + 1) _ _ _ L HLl.out rfl HO.out rfl (by rw [HLl.out]; omega) hsz1 ?_)
        intro b2 c2' w2 hO2 hb2 hk2
        rw [← HN.out, ← HNl.out] at hO2
        have HO2 := Lib.hid hO2
        have HB2 := Lib.hid (HB.out.trans (hb2.mono (by omega)))
        have HG2 : Hid (GBox w2 w.heap.size x (some ⟨pb, off, none⟩) n cap) := by
          have hne : (Value.slice b L c).ownBlock ≠ some w.heap.size := fun q => absurd (own_lt HO.out q).1 (by omega)
          have e := hk2 w.heap.size (cell_lt g0) hne
          exact ⟨(World.cell?_of_block (a := ⟨w.heap.size, 0, none⟩) e).trans g0, (World.cell?_of_block (a := ⟨w.heap.size, 1, none⟩) e).trans g1⟩
        rw [← HNl.out]
        clear hO2 hb2 hk2
        go_wp2
        go_roundw
        case rel => exact ⟨k + 1, _, _, by omega, by go_num, rfl, HO2, HG2, HB2⟩
        case measure => simp [intOf]; omega
      · have HN : Hid (M.plcL M.pTo l ev (k + 1) = M.plcL M.pTo l ev k) := by show _ = _; rw [hNx, if_neg he]
        have heb : (p1 == ev) = false := by simpa using he
        clear hNx hp
        go_wp2
        go_roundw
        case rel => exact ⟨k + 1, _, _, by omega, by go_num, by rw [HN.out], by rw [HN.out]; exact HO, HG, HB⟩
        case measure => simp [intOf]; omega
    · obtain rfl : k = n := by omega
      go_wp2
      go_ret
      exact ⟨_, _, rfl, HO.out.mono (by omega), HB.out⟩
set_option maxRecDepth 100000 in
set_option maxHeartbeats 2000000 in
theorem sPlacesFrom (x : Int) (a : Option Addr) (n cap : Nat) (l : List M.Pc) (ev : Int) (w : World) (h : Pls w a n l) (hn : n ≤ 30) :
    Calls Try.prog 45 #[.agg #[.int .i64 x, .slice a n cap], .int .i64 ev, .bool false] w fun e w' => ∃ b c, e = .returned (.slice b (M.plcL M.pFrom l ev n).length c) ∧ Own w' w.heap.size (.slice b (M.plcL M.pFrom l ev n).length c) (M.plcL M.pFrom l ev n) ∧ Below w.heap.size w w' := by
  have HI := Lib.hid h
  have hO0 : Hid (Own ((w.alloc (.cells #[.int .i64 x, .slice a n cap] 26)).alloc (.cells #[] 2)) (w.heap.size + 1) (.slice (some ⟨w.heap.size + 1, 0, none⟩) 0 0) (M.plcL M.pFrom l ev 0)) := by
    have := own_lit0 (w.alloc (.cells #[.int .i64 x, .slice a n cap] 26)) (w.heap.size + 1) (by simp)
    show Own _ _ _ []
    simpa using this
  have hB0 : Hid (Below w.heap.size w ((w.alloc (.cells #[.int .i64 x, .slice a n cap] 26)).alloc (.cells #[] 2))) := b_alloc2 w _ _
  have hG0 : Hid (GBox ((w.alloc (.cells #[.int .i64 x, .slice a n cap] 26)).alloc (.cells #[] 2)) w.heap.size x a n cap) := (gBox_new w x a n cap 26).below (b_alloc _ _)
  clear h
  go_enter Try.func45, Try.ntmps45
  go_wp2
  go_loopw [7, 8] (fun lv kv wr => ∃ (k : Nat) (b : Option Addr) (c : Nat), k ≤ n ∧ kv = .int .i64 k ∧ lv = .slice b (M.plcL M.pFrom l ev k).length c ∧ Hid (Own wr (w.heap.size + 1) (.slice b (M.plcL M.pFrom l ev k).length c) (M.plcL M.pFrom l ev k)) ∧ Hid (GBox wr w.heap.size x a n cap) ∧ Hid (Below w.heap.size w wr)) (fun _ kv _ => n - (intOf kv).toNat)
  case atStart => exact ⟨0, _, _, Nat.zero_le _, rfl, rfl, hO0, hG0, hB0⟩
  case round =>
    obtain ⟨k, b, c, hk, rfl, rfl, HO, HG, HB⟩ := hrel
    obtain ⟨wo, rfl⟩ : ∃ x, x = wr := ⟨_, rfl⟩
    clear hO0 hB0 hG0
    obtain ⟨g0, g1⟩ := HG.out
    by_cases hkl : k < n
    · have hki : (k : Int) < (n : Int) := by omega
      obtain ⟨pb, off, p0, p1, p2, p3, rfl, -, hp, c0, c1, c2, c3⟩ := (HI.out.below HB.out).at k hkl
      have hsz := HB.out.size
      have hsz1 : w.heap.size + 1 ≤ wo.heap.size := cell_lt g0
      have hlen : (M.plcL M.pFrom l ev k).length ≤ 30 := by have := M.plcL_len M.pFrom l ev k; omega
      have hNx : M.plcL M.pFrom l ev (k + 1) = if p0 = ev then M.plcL M.pFrom l ev k ++ [(k : Int)] else M.plcL M.pFrom l ev k := by
        have := M.plcL_next M.pFrom l ev k
        rw [hp] at this
        exact this
      by_cases he : p0 = ev
      · have HN : Hid (M.plcL M.pFrom l ev (k + 1) = M.plcL M.pFrom l ev k ++ [(k : Int)]) := by show _ = _; rw [hNx, if_pos he]
        have HNl : Hid ((M.plcL M.pFrom l ev (k + 1)).length = (M.plcL M.pFrom l ev k).length + 1) := by show _ = _; rw [HN.out]; simp
        obtain ⟨L, hL⟩ : ∃ L, L = (M.plcL M.pFrom l ev k).length := ⟨_, rfl⟩
        rw [← hL] at HO HNl hlen ⊢
        have HLl := Lib.hid hL.symm
        have heb : (p0 == ev) = true := by simpa using he
        clear hL hNx hp
        go_wp2_with (at_builtin; refine append1 _ rfl (.tmp 42) (.tmp 44) rfl (w.heap.size + 1) _ _ _ L HLl.out rfl HO.out rfl (by rw [HLl.out]; omega) hsz1 ?_)
        intro b2 c2' w2 hO2 hb2 hk2
        rw [← HN.out, ← HNl.out] at hO2
        have HO2 := Lib.hid hO2
        have HB2 := Lib.hid (HB.out.trans (hb2.mono (by omega)))
        have HG2 : Hid (GBox w2 w.heap.size x (some ⟨pb, off, none⟩) n cap) := by
          have hne : (Value.slice b L c).ownBlock ≠ some w.heap.size := fun q => absurd (own_lt HO.out q).1 (by omega)
          have e := hk2 w.heap.size (cell_lt g0) hne
          exact ⟨(World.cell?_of_block (a := ⟨w.heap.size, 0, none⟩) e).trans g0, (World.cell?_of_block (a := ⟨w.heap.size, 1, none⟩) e).trans g1⟩
        rw [← HNl.out]
        clear hO2 hb2 hk2
        go_wp2
        go_roundw
        case rel => exact ⟨k + 1, _, _, by omega, by go_num, rfl, HO2, HG2, HB2⟩
        case measure => simp [intOf]; omega
      · have HN : Hid (M.plcL M.pFrom l ev (k + 1) = M.plcL M.pFrom l ev k) := by show _ = _; rw [hNx, if_neg he]
        have heb : (p0 == ev) = false := by simpa using he
        clear hNx hp
        go_wp2
        go_roundw
        case rel => exact ⟨k + 1, _, _, by omega, by go_num, by rw [HN.out], by rw [HN.out]; exact HO, HG, HB⟩
        case measure => simp [intOf]; omega
    · obtain rfl : k = n := by omega
      go_wp2
      go_ret
      exact ⟨_, _, rfl, HO.out.mono (by omega), HB.out⟩
set_option maxRecDepth 100000 in
set_option maxHeartbeats 2000000 in
theorem sPlacesIntoX (x : Int) (a : Option Addr) (n cap : Nat) (l : List M.Pc) (ev : Int) (w : World) (h : Pls w a n l) :
    Calls Try.prog 14 #[.agg #[.int .i64 x, .slice a n cap], .int .i64 ev] w (VRes (M.plcRes M.pTo x l ev) w) := by
  have HI := Lib.hid h
  have HL : Hid (l.length = n) := h.1
  have hb0 := b_alloc w (.cells #[.int .i64 x, .slice a n cap] 26)
  have hG := gBox_new w x a n cap 26
  obtain ⟨wb, hwb⟩ : ∃ z, z = w.alloc (.cells #[.int .i64 x, .slice a n cap] 26) := ⟨_, rfl⟩
  rw [← hwb] at hb0 hG
  obtain ⟨cd, hcd⟩ : ∃ c, c = M.evCode x l ev := ⟨_, rfl⟩
  have HS : Hid (Calls Try.prog 44 #[.agg #[.int .i64 x, .slice a n cap], .int .i64 ev] wb fun e w' => e = .returned (.int .i64 cd) ∧ Below wb.heap.size wb w') := by rw [hcd]; exact sEvent x a n cap l ev wb (h.below hb0)
  have HR0 : Hid (cd = 0 → M.plcRes M.pTo x l ev = (M.plcL M.pTo l ev n, 0) ∧ n ≤ 30) := fun q => by
    rw [hcd] at q
    unfold M.evCode at q
    unfold M.plcRes
    cases hg : M.isGr x l with
    | false => rw [hg] at q; simp at q
    | true =>
      rw [hg] at q
      cases he : M.inB ev 0 (x - 1) with
      | false => rw [he] at q; simp at q
      | true => rw [HL.out]; exact ⟨rfl, by rw [← HL.out]; exact (M.isGr_in hg).2⟩
  have HR1 : Hid (cd ≠ 0 → M.plcRes M.pTo x l ev = ([], cd)) := fun q => by
    rw [hcd] at q ⊢
    unfold M.evCode at q ⊢
    unfold M.plcRes
    cases hg : M.isGr x l with
    | false => rfl
    | true =>
      rw [hg] at q
      cases he : M.inB ev 0 (x - 1) with
      | false => rfl
      | true => rw [he] at q; simp at q
  have HG := Lib.hid hG
  have HB0 := Lib.hid hb0
  clear h hG hb0 hcd
  go_enter Try.func14, Try.ntmps14
  go_wp2_with fail
  rw [← hwb]
  clear hwb
  refine (HS.out).mono ?_
  rintro e w1 ⟨rfl, hb1⟩
  have HB1 := Lib.hid (HB0.out.trans (hb1.mono HB0.out.size))
  obtain ⟨g0, g1⟩ := HG.out.below hb1
  clear hb1
  by_cases h0 : cd = 0
  · obtain ⟨hr, hn⟩ := HR0.out h0
    have HR := Lib.hid hr
    subst h0
    clear hr
    go_wp2_with fail
    refine (sPlacesInto x a n cap l ev w1 (HI.out.below HB1.out) hn).mono ?_
    rintro e w2 ⟨b, c, rfl, ho, hb2⟩
    have HO := Lib.hid (ho.mono HB1.out.size)
    have HB2 := Lib.hid (HB1.out.trans (hb2.mono HB1.out.size))
    clear ho hb2
    go_wp2
    go_ret2
    rw [HR.out]
    exact ⟨_, _, _, rfl, HO.out, HB2.out⟩
  · have HR := Lib.hid (HR1.out h0)
    have hb : (cd != 0) = true := by simpa using h0
    go_wp2
    go_ret2
    exact VRes.nil HR.out HB1.out
set_option maxRecDepth 100000 in
set_option maxHeartbeats 400000 in
theorem endInto (p0 p1 p2 p3 : Int) (w : World) : Calls Try.prog 43 #[.agg #[.int .i64 p0, .int .i64 p1, .int .i64 p2, .int .i64 p3]] w fun e w' => e = .returned (.int .i64 p1) ∧ Below w.heap.size w w' := by
  go_enter Try.func43, Try.ntmps43
  go_wp2
  go_ret
  exact ⟨rfl, b_alloc _ _⟩
set_option maxRecDepth 100000 in
set_option maxHeartbeats 4000000 in
theorem placesAtInto (x : Int) (a : Option Addr) (n cap : Nat) (l : List M.Pc) (ev : Int) (w : World) (h : Pls w a n l) :
    Calls Try.prog 42 #[.agg #[.int .i64 x, .slice a n cap], .int .i64 ev, .func (.func 43) #[] #[]] w (VRes (M.plcRes M.pTo x l ev) w) := by
  have HI := Lib.hid h
  have HL : Hid (l.length = n) := h.1
  have hm := h.2.1
  unfold maxLen at hm
  have hb0 := b_alloc w (.cells #[.int .i64 x, .slice a n cap] 26)
  have hG := gBox_new w x a n cap 26
  obtain ⟨wb, hwb⟩ : ∃ z, z = w.alloc (.cells #[.int .i64 x, .slice a n cap] 26) := ⟨_, rfl⟩
  rw [← hwb] at hb0 hG
  obtain ⟨r, hr⟩ : ∃ r, r = M.isGr x l := ⟨_, rfl⟩
  have HS : Hid (Calls Try.prog 28 #[.agg #[.int .i64 x, .slice a n cap]] wb fun e w' => e = .returned (.bool r) ∧ Below wb.heap.size wb w') := by rw [hr]; exact isEventGraph x a n cap l wb (h.below hb0)
  have HG := Lib.hid hG
  have HB0 := Lib.hid hb0
  have HRr := Lib.hid hr
  clear h hG hb0 hr
  go_enter Try.func42, Try.ntmps42
  go_wp2_with fail
  rw [← hwb]
  clear hwb
  refine (HS.out).mono ?_
  rintro e w1 ⟨rfl, hb1⟩
  have HB1 := Lib.hid (HB0.out.trans (hb1.mono HB0.out.size))
  have HG1 := Lib.hid (HG.out.below hb1)
  obtain ⟨g0, g1⟩ := HG1.out
  clear hb1
  cases r with
  | false =>
    have HR : Hid (M.plcRes M.pTo x l ev = ([], 1)) := by show _ = _; unfold M.plcRes; rw [← HRr.out]; rfl
    go_wp2
    go_ret2
    exact VRes.nil HR.out HB1.out
  | true =>
    have hw := ev_wrap (M.isGr_in HRr.out.symm).1
    have hn30 : n ≤ 30 := by have := (M.isGr_in HRr.out.symm).2; rw [HL.out] at this; exact this
    obtain ⟨v, hv⟩ : ∃ v, v = M.inB ev 0 (x - 1) := ⟨_, rfl⟩
    have HH : Hid (∀ w, Calls Try.prog 75 #[.agg #[.int .i64 x, .slice a n cap], .int .i64 ev] w fun e w' => e = .returned (.bool v) ∧ Below w.heap.size w w') := fun w => by rw [hv, ← hw]; exact hasEvent x a n cap ev w
    have HV := Lib.hid hv
    clear hw hv
    go_wp2_with fail
    refine (HH.out w1).mono ?_
    rintro e w2 ⟨rfl, hb2⟩
    have HB2 := Lib.hid (HB1.out.trans (hb2.mono HB1.out.size))
    have HG2 := Lib.hid (HG1.out.below hb2)
    clear hb2 g0 g1
    obtain ⟨g0, g1⟩ := HG2.out
    cases v with
    | false =>
      have HR : Hid (M.plcRes M.pTo x l ev = ([], 2)) := by show _ = _; unfold M.plcRes; rw [← HRr.out, ← HV.out]; rfl
      go_wp2
      go_ret2
      exact VRes.nil HR.out HB2.out
    | true =>
      have HR : Hid (M.plcRes M.pTo x l ev = (M.plcL M.pTo l ev n, 0)) := by show _ = _; unfold M.plcRes; rw [← HRr.out, ← HV.out, HL.out]; rfl
      have HE : Hid (∀ p0 p1 p2 p3 w, Calls Try.prog 43 #[.agg #[.int .i64 p0, .int .i64 p1, .int .i64 p2, .int .i64 p3]] w fun e w' => e = .returned (.int .i64 p1) ∧ Below w.heap.size w w') := endInto
      have hO0 : Hid (Own w2 w2.heap.size (.slice none 0 0) (M.plcL M.pTo l ev 0)) := own_nil _ _
      go_wp2
      go_loopw [8, 21] (fun lv kv wr => ∃ (k : Nat) (b : Option Addr) (c : Nat), k ≤ n ∧ kv = .int .i64 k ∧ lv = .slice b (M.plcL M.pTo l ev k).length c ∧ Hid (Own wr w2.heap.size (.slice b (M.plcL M.pTo l ev k).length c) (M.plcL M.pTo l ev k)) ∧ Hid (Below w2.heap.size w2 wr)) (fun _ kv _ => n - (intOf kv).toNat)
      case atStart => exact ⟨0, _, _, Nat.zero_le _, rfl, rfl, hO0, Below.refl _ _⟩
      case round =>
        obtain ⟨k, b, c, hk, rfl, rfl, HO, HB⟩ := hrel
        obtain ⟨wo, rfl⟩ : ∃ x, x = wr := ⟨_, rfl⟩
        clear hO0
        by_cases hkl : k < n
        · have hki : (k : Int) < (n : Int) := by omega
          obtain ⟨pb, off, p0, p1, p2, p3, rfl, -, hp, c0, c1, c2, c3⟩ := ((HI.out.below HB2.out).below HB.out).at k hkl
          have hsz := HB.out.size
          have hlen : (M.plcL M.pTo l ev k).length ≤ 30 := by have := M.plcL_len M.pTo l ev k; omega
          have hNx : M.plcL M.pTo l ev (k + 1) = if p1 = ev then M.plcL M.pTo l ev k ++ [(k : Int)] else M.plcL M.pTo l ev k := by
            have := M.plcL_next M.pTo l ev k
            rw [hp] at this
            exact this
          have HNx := Lib.hid hNx
          clear hNx hp
          go_wp2_with fail
          refine (HE.out p0 p1 p2 p3 _).mono ?_
          rintro e w3 ⟨rfl, hb3⟩
          have hb3' : Below wo.heap.size wo w3 := (b_alloc wo _).trans (hb3.mono (by simp))
          have HO3 := Lib.hid (HO.out.below hb3')
          have HB3 := Lib.hid (HB.out.trans (hb3'.mono hsz))
          have hsz3 := HB3.out.size
          clear hb3 hb3'
          by_cases he : p1 = ev
          · have HN : Hid (M.plcL M.pTo l ev (k + 1) = M.plcL M.pTo l ev k ++ [(k : Int)]) := by show _ = _; rw [HNx.out, if_pos he]
            have HNl : Hid ((M.plcL M.pTo l ev (k + 1)).length = (M.plcL M.pTo l ev k).length + 1) := by show _ = _; rw [HN.out]; simp
            obtain ⟨L, hL⟩ : ∃ L, L = (M.plcL M.pTo l ev k).length := ⟨_, rfl⟩
            rw [← hL] at HO3 HNl hlen ⊢
            have HLl := Lib.hid hL.symm
            have heb : (p1 == ev) = true := by simpa using he
            clear hL
            go_wp2_with (at_builtin; refine append1 _ rfl (.tmp 31) (.tmp 33) rfl w2.heap.size _ _ _ L HLl.out rfl HO3.out rfl (by rw [HLl.out]; omega) hsz3 ?_)
            intro b2 c2' w4 hO2 hb2 _
            rw [← HN.out, ← HNl.out] at hO2
            have HO4 := Lib.hid hO2
            have HB4 := Lib.hid (HB3.out.trans hb2)
            rw [← HNl.out]
            clear hO2 hb2
            go_wp2
            go_roundw
            case rel => exact ⟨k + 1, _, _, by omega, by go_num, rfl, HO4, HB4⟩
            case measure => simp [intOf]; omega
          · have HN : Hid (M.plcL M.pTo l ev (k + 1) = M.plcL M.pTo l ev k) := by show _ = _; rw [HNx.out, if_neg he]
            have heb : (p1 == ev) = false := by simpa using he
            go_wp2
            go_roundw
            case rel => exact ⟨k + 1, _, _, by omega, by go_num, by rw [HN.out], by rw [HN.out]; exact HO3, HB3⟩
            case measure => simp [intOf]; omega
        · obtain rfl : k = n := by omega
          have HOf := Lib.hid (HO.out.mono HB2.out.size)
          have HBf := Lib.hid (HB2.out.trans (HB.out.mono HB2.out.size))
          go_wp2
          go_ret2
          rw [HR.out]
          exact ⟨_, _, _, rfl, HOf.out, HBf.out⟩
set_option maxRecDepth 100000 in
set_option maxHeartbeats 1000000 in
theorem placesInto (x : Int) (a : Option Addr) (n cap : Nat) (l : List M.Pc) (ev : Int) (w : World) (h : Pls w a n l) :
    Calls Try.prog 13 #[.agg #[.int .i64 x, .slice a n cap], .int .i64 ev] w (VRes (M.plcRes M.pTo x l ev) w) := by
  have HC : Hid (Calls Try.prog 42 #[.agg #[.int .i64 x, .slice a n cap], .int .i64 ev, .func (.func 43) #[] #[]] (w.alloc (.cells #[.int .i64 x, .slice a n cap] 26)) (VRes (M.plcRes M.pTo x l ev) (w.alloc (.cells #[.int .i64 x, .slice a n cap] 26)))) := placesAtInto x a n cap l ev _ (h.below (b_alloc w _))
  obtain ⟨r, hr⟩ : ∃ r, r = M.plcRes M.pTo x l ev := ⟨_, rfl⟩
  rw [← hr] at HC ⊢
  unfold VRes at HC
  clear h hr
  go_enter Try.func13, Try.ntmps13
  go_wp2_with fail
  refine (HC.out).mono ?_
  rintro e w1 ⟨a1, n1, c1, rfl, ho, hb⟩
  have HO := Lib.hid (ho.mono (show w.heap.size ≤ _ by simp))
  have HB := Lib.hid ((b_alloc w (.cells #[.int .i64 x, .slice a n cap] 26)).trans (hb.mono (by simp)))
  clear ho hb
  go_wp2
  go_ret2
  exact ⟨_, _, _, rfl, HO.out, HB.out⟩
set_option maxRecDepth 100000 in
set_option maxHeartbeats 2000000 in
theorem sPlacesFromX (x : Int) (a : Option Addr) (n cap : Nat) (l : List M.Pc) (ev : Int) (w : World) (h : Pls w a n l) :
    Calls Try.prog 16 #[.agg #[.int .i64 x, .slice a n cap], .int .i64 ev] w (VRes (M.plcRes M.pFrom x l ev) w) := by
  have HI := Lib.hid h
  have HL : Hid (l.length = n) := h.1
  have hb0 := b_alloc w (.cells #[.int .i64 x, .slice a n cap] 26)
  have hG := gBox_new w x a n cap 26
  obtain ⟨wb, hwb⟩ : ∃ z, z = w.alloc (.cells #[.int .i64 x, .slice a n cap] 26) := ⟨_, rfl⟩
  rw [← hwb] at hb0 hG
  obtain ⟨cd, hcd⟩ : ∃ c, c = M.evCode x l ev := ⟨_, rfl⟩
  have HS : Hid (Calls Try.prog 44 #[.agg #[.int .i64 x, .slice a n cap], .int .i64 ev] wb fun e w' => e = .returned (.int .i64 cd) ∧ Below wb.heap.size wb w') := by rw [hcd]; exact sEvent x a n cap l ev wb (h.below hb0)
  have HR0 : Hid (cd = 0 → M.plcRes M.pFrom x l ev = (M.plcL M.pFrom l ev n, 0) ∧ n ≤ 30) := fun q => by
    rw [hcd] at q
    unfold M.evCode at q
    unfold M.plcRes
    cases hg : M.isGr x l with
    | false => rw [hg] at q; simp at q
    | true =>
      rw [hg] at q
      cases he : M.inB ev 0 (x - 1) with
      | false => rw [he] at q; simp at q
      | true => rw [HL.out]; exact ⟨rfl, by rw [← HL.out]; exact (M.isGr_in hg).2⟩
  have HR1 : Hid (cd ≠ 0 → M.plcRes M.pFrom x l ev = ([], cd)) := fun q => by
    rw [hcd] at q ⊢
    unfold M.evCode at q ⊢
    unfold M.plcRes
    cases hg : M.isGr x l with
    | false => rfl
    | true =>
      rw [hg] at q
      cases he : M.inB ev 0 (x - 1) with
      | false => rfl
      | true => rw [he] at q; simp at q
  have HG := Lib.hid hG
  have HB0 := Lib.hid hb0
  clear h hG hb0 hcd
  go_enter Try.func16, Try.ntmps16
  go_wp2_with fail
  rw [← hwb]
  clear hwb
  refine (HS.out).mono ?_
  rintro e w1 ⟨rfl, hb1⟩
  have HB1 := Lib.hid (HB0.out.trans (hb1.mono HB0.out.size))
  obtain ⟨g0, g1⟩ := HG.out.below hb1
  clear hb1
  by_cases h0 : cd = 0
  · obtain ⟨hr, hn⟩ := HR0.out h0
    have HR := Lib.hid hr
    subst h0
    clear hr
    go_wp2_with fail
    refine (sPlacesFrom x a n cap l ev w1 (HI.out.below HB1.out) hn).mono ?_
    rintro e w2 ⟨b, c, rfl, ho, hb2⟩
    have HO := Lib.hid (ho.mono HB1.out.size)
    have HB2 := Lib.hid (HB1.out.trans (hb2.mono HB1.out.size))
    clear ho hb2
    go_wp2
    go_ret2
    rw [HR.out]
    exact ⟨_, _, _, rfl, HO.out, HB2.out⟩
  · have HR := Lib.hid (HR1.out h0)
    have hb : (cd != 0) = true := by simpa using h0
    go_wp2
    go_ret2
    exact VRes.nil HR.out HB1.out
set_option maxRecDepth 100000 in
set_option maxHeartbeats 400000 in
theorem endFrom (p0 p1 p2 p3 : Int) (w : World) : Calls Try.prog 46 #[.agg #[.int .i64 p0, .int .i64 p1, .int .i64 p2, .int .i64 p3]] w fun e w' => e = .returned (.int .i64 p0) ∧ Below w.heap.size w w' := by
  go_enter Try.func46, Try.ntmps46
  go_wp2
  go_ret
  exact ⟨rfl, b_alloc _ _⟩
set_option maxRecDepth 100000 in
set_option maxHeartbeats 4000000 in
theorem placesAtFrom (x : Int) (a : Option Addr) (n cap : Nat) (l : List M.Pc) (ev : Int) (w : World) (h : Pls w a n l) :
    Calls Try.prog 42 #[.agg #[.int .i64 x, .slice a n cap], .int .i64 ev, .func (.func 46) #[] #[]] w (VRes (M.plcRes M.pFrom x l ev) w) := by
  have HI := Lib.hid h
  have HL : Hid (l.length = n) := h.1
  have hm := h.2.1
  unfold maxLen at hm
  have hb0 := b_alloc w (.cells #[.int .i64 x, .slice a n cap] 26)
  have hG := gBox_new w x a n cap 26
  obtain ⟨wb, hwb⟩ : ∃ z, z = w.alloc (.cells #[.int .i64 x, .slice a n cap] 26) := ⟨_, rfl⟩
  rw [← hwb] at hb0 hG
  obtain ⟨r, hr⟩ : ∃ r, r = M.isGr x l := ⟨_, rfl⟩
  have HS : Hid (Calls Try.prog 28 #[.agg #[.int .i64 x, .slice a n cap]] wb fun e w' => e = .returned (.bool r) ∧ Below wb.heap.size wb w') := by rw [hr]; exact isEventGraph x a n cap l wb (h.below hb0)
  have HG := Lib.hid hG
  have HB0 := Lib.hid hb0
  have HRr := Lib.hid hr
  clear h hG hb0 hr
  go_enter Try.func42, Try.ntmps42
  go_wp2_with fail
  rw [← hwb]
  clear hwb
  refine (HS.out).mono ?_
  rintro e w1 ⟨rfl, hb1⟩
  have HB1 := Lib.hid (HB0.out.trans (hb1.mono HB0.out.size))
  have HG1 := Lib.hid (HG.out.below hb1)
  obtain ⟨g0, g1⟩ := HG1.out
  clear hb1
  cases r with
  | false =>
    have HR : Hid (M.plcRes M.pFrom x l ev = ([], 1)) := by show _ = _; unfold M.plcRes; rw [← HRr.out]; rfl
    go_wp2
    go_ret2
    exact VRes.nil HR.out HB1.out
  | true =>
    have hw := ev_wrap (M.isGr_in HRr.out.symm).1
    have hn30 : n ≤ 30 := by have := (M.isGr_in HRr.out.symm).2; rw [HL.out] at this; exact this
    obtain ⟨v, hv⟩ : ∃ v, v = M.inB ev 0 (x - 1) := ⟨_, rfl⟩
    have HH : Hid (∀ w, Calls Try.prog 75 #[.agg #[.int .i64 x, .slice a n cap], .int .i64 ev] w fun e w' => e = .returned (.bool v) ∧ Below w.heap.size w w') := fun w => by rw [hv, ← hw]; exact hasEvent x a n cap ev w
    have HV := Lib.hid hv
    clear hw hv
    go_wp2_with fail
    refine (HH.out w1).mono ?_
    rintro e w2 ⟨rfl, hb2⟩
    have HB2 := Lib.hid (HB1.out.trans (hb2.mono HB1.out.size))
    have HG2 := Lib.hid (HG1.out.below hb2)
    clear hb2 g0 g1
    obtain ⟨g0, g1⟩ := HG2.out
    cases v with
    | false =>
      have HR : Hid (M.plcRes M.pFrom x l ev = ([], 2)) := by show _ = _; unfold M.plcRes; rw [← HRr.out, ← HV.out]; rfl
      go_wp2
      go_ret2
      exact VRes.nil HR.out HB2.out
    | true =>
      have HR : Hid (M.plcRes M.pFrom x l ev = (M.plcL M.pFrom l ev n, 0)) := by show _ = _; unfold M.plcRes; rw [← HRr.out, ← HV.out, HL.out]; rfl
      have HE : Hid (∀ p0 p1 p2 p3 w, Calls Try.prog 46 #[.agg #[.int .i64 p0, .int .i64 p1, .int .i64 p2, .int .i64 p3]] w fun e w' => e = .returned (.int .i64 p0) ∧ Below w.heap.size w w') := endFrom
      have hO0 : Hid (Own w2 w2.heap.size (.slice none 0 0) (M.plcL M.pFrom l ev 0)) := own_nil _ _
      go_wp2
      go_loopw [8, 21] (fun lv kv wr => ∃ (k : Nat) (b : Option Addr) (c : Nat), k ≤ n ∧ kv = .int .i64 k ∧ lv = .slice b (M.plcL M.pFrom l ev k).length c ∧ Hid (Own wr w2.heap.size (.slice b (M.plcL M.pFrom l ev k).length c) (M.plcL M.pFrom l ev k)) ∧ Hid (Below w2.heap.size w2 wr)) (fun _ kv _ => n - (intOf kv).toNat)
      case atStart => exact ⟨0, _, _, Nat.zero_le _, rfl, rfl, hO0, Below.refl _ _⟩
      case round =>
        obtain ⟨k, b, c, hk, rfl, rfl, HO, HB⟩ := hrel
        obtain ⟨wo, rfl⟩ : ∃ x, x = wr := ⟨_, rfl⟩
        clear hO0
        by_cases hkl : k < n
        · have hki : (k : Int) < (n : Int) := by omega
          obtain ⟨pb, off, p0, p1, p2, p3, rfl, -, hp, c0, c1, c2, c3⟩ := ((HI.out.below HB2.out).below HB.out).at k hkl
          have hsz := HB.out.size
          have hlen : (M.plcL M.pFrom l ev k).length ≤ 30 := by have := M.plcL_len M.pFrom l ev k; omega
          have hNx : M.plcL M.pFrom l ev (k + 1) = if p0 = ev then M.plcL M.pFrom l ev k ++ [(k : Int)] else M.plcL M.pFrom l ev k := by
            have := M.plcL_next M.pFrom l ev k
            rw [hp] at this
            exact this
          have HNx := Lib.hid hNx
          clear hNx hp
          go_wp2_with fail
          refine (HE.out p0 p1 p2 p3 _).mono ?_
          rintro e w3 ⟨rfl, hb3⟩
          have hb3' : Below wo.heap.size wo w3 := (b_alloc wo _).trans (hb3.mono (by simp))
          have HO3 := Lib.hid (HO.out.below hb3')
          have HB3 := Lib.hid (HB.out.trans (hb3'.mono hsz))
          have hsz3 := HB3.out.size
          clear hb3 hb3'
          by_cases he : p0 = ev
          · have HN : Hid (M.plcL M.pFrom l ev (k + 1) = M.plcL M.pFrom l ev k ++ [(k : Int)]) := by show _ = _; rw [HNx.out, if_pos he]
            have HNl : Hid ((M.plcL M.pFrom l ev (k + 1)).length = (M.plcL M.pFrom l ev k).length + 1) := by show _ = _; rw [HN.out]; simp
            obtain ⟨L, hL⟩ : ∃ L, L = (M.plcL M.pFrom l ev k).length := ⟨_, rfl⟩
            rw [← hL] at HO3 HNl hlen ⊢
            have HLl := Lib.hid hL.symm
            have heb : (p0 == ev) = true := by simpa using he
            clear hL
            go_wp2_with (at_builtin; refine append1 _ rfl (.tmp 31) (.tmp 33) rfl w2.heap.size _ _ _ L HLl.out rfl HO3.out rfl (by rw [HLl.out]; omega) hsz3 ?_)
            intro b2 c2' w4 hO2 hb2 _
            rw [← HN.out, ← HNl.out] at hO2
            have HO4 := Lib.hid hO2
            have HB4 := Lib.hid (HB3.out.trans hb2)
            rw [← HNl.out]
            clear hO2 hb2
            go_wp2
            go_roundw
            case rel => exact ⟨k + 1, _, _, by omega, by go_num, rfl, HO4, HB4⟩
            case measure => simp [intOf]; omega
          · have HN : Hid (M.plcL M.pFrom l ev (k + 1) = M.plcL M.pFrom l ev k) := by show _ = _; rw [HNx.out, if_neg he]
            have heb : (p0 == ev) = false := by simpa using he
            go_wp2
            go_roundw
            case rel => exact ⟨k + 1, _, _, by omega, by go_num, by rw [HN.out], by rw [HN.out]; exact HO3, HB3⟩
            case measure => simp [intOf]; omega
        · obtain rfl : k = n := by omega
          have HOf := Lib.hid (HO.out.mono HB2.out.size)
          have HBf := Lib.hid (HB2.out.trans (HB.out.mono HB2.out.size))
          go_wp2
          go_ret2
          rw [HR.out]
          exact ⟨_, _, _, rfl, HOf.out, HBf.out⟩
set_option maxRecDepth 100000 in
set_option maxHeartbeats 1000000 in
theorem placesFrom (x : Int) (a : Option Addr) (n cap : Nat) (l : List M.Pc) (ev : Int) (w : World) (h : Pls w a n l) :
    Calls Try.prog 15 #[.agg #[.int .i64 x, .slice a n cap], .int .i64 ev] w (VRes (M.plcRes M.pFrom x l ev) w) := by
  have HC : Hid (Calls Try.prog 42 #[.agg #[.int .i64 x, .slice a n cap], .int .i64 ev, .func (.func 46) #[] #[]] (w.alloc (.cells #[.int .i64 x, .slice a n cap] 26)) (VRes (M.plcRes M.pFrom x l ev) (w.alloc (.cells #[.int .i64 x, .slice a n cap] 26)))) := placesAtFrom x a n cap l ev _ (h.below (b_alloc w _))
  obtain ⟨r, hr⟩ : ∃ r, r = M.plcRes M.pFrom x l ev := ⟨_, rfl⟩
  rw [← hr] at HC ⊢
  unfold VRes at HC
  clear h hr
  go_enter Try.func15, Try.ntmps15
  go_wp2_with fail
  refine (HC.out).mono ?_
  rintro e w1 ⟨a1, n1, c1, rfl, ho, hb⟩
  have HO := Lib.hid (ho.mono (show w.heap.size ≤ _ by simp))
  have HB := Lib.hid ((b_alloc w (.cells #[.int .i64 x, .slice a n cap] 26)).trans (hb.mono (by simp)))
  clear ho hb
  go_wp2
  go_ret2
  exact ⟨_, _, _, rfl, HO.out, HB.out⟩
end V
end Go.Proofs.Ytkjcnlihmhcakaa
