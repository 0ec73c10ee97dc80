/- Texts laid together: Pev. -/
import Derived.Test.YtlljnfljcdljaaaQa11
import Derived.RangeFuncNested
import Derived.RangeFuncBound
import Derived.RangeFuncCalls
import Derived.RangeFuncLeaves
import Derived.RangeFuncBox
import Derived.Shelf.Abstract
import Derived.Shelf.RegionOpen
import Derived.OwnWalkIn
import Derived.TacticsInMore
import Derived.LoopNIn
import Derived.LoopIn
import Derived.Deep.LoopGhost
import Derived.Scope
import Derived.WalkMore
set_option linter.unusedSimpArgs false
set_option linter.unusedVariables false
set_option linter.unusedSectionVars false
namespace Go.Proofs.Ytlljnfljcdljaaa
namespace M
/-- An index and a value. -/
abbrev PV := { x : Nat × Int // isVal x.2 = true }
/-- The value while it is reckoned. -/
def hzL (x : Int) (pre : List PV) : Int := pre.foldl (fun s p => max (times s x) p.1.2) (-1000000000000000)
theorem hzL_snoc (x : Int) (pre : List PV) (p : PV) : hzL x (pre ++ [p]) = max (times (hzL x pre) x) p.1.2 := by simp [hzL]
theorem hzL_sm {x : Int} (hx : isVal x = true) (pre : List PV) : Sm (1000000 * (pre.length : Int)) (hzL x pre) := by
  have key : ∀ n (pre : List PV), pre.length = n → Sm (1000000 * (n : Int)) (hzL x pre) := by
    intro n
    induction n with
    | zero => intro pre h; obtain rfl := List.eq_nil_of_length_eq_zero h; exact .inl rfl
    | succ n ih =>
      intro pre h
      obtain ⟨p0, p, rfl⟩ : ∃ p0 p, pre = p0 ++ [p] := ⟨pre.dropLast, pre.getLast (by intro e; rw [e] at h; cases h), (List.dropLast_concat_getLast _).symm⟩
      rw [List.length_append] at h
      have h1 := smt (ih p0 (by simpa using h)) (isVal_sm hx)
      have h2 : Sm (1000000 * (n : Int) + 1000000) p.1.2 := sm_up (isVal_sm p.2) (by omega)
      rw [hzL_snoc]
      exact sm_up (smm h1 h2) (by rw [Int.natCast_add]; omega)
  exact key _ pre rfl
/-- The pairs that slices.Backward hands out. -/
def backF (zs : List Int) (n j : Nat) : PV := if h : isVal (zs.getD (n - 1 - j) 0) = true then ⟨(n - 1 - j, zs.getD (n - 1 - j) 0), h⟩ else ⟨(0, 0), by decide⟩
def upto (zs : List Int) (n k : Nat) : List PV := (List.range k).map (backF zs n)
theorem upto_succ (zs : List Int) (n k : Nat) : upto zs n (k + 1) = upto zs n k ++ [backF zs n k] := by simp [upto, List.range_succ]
theorem upto_len (zs : List Int) (n k : Nat) : (upto zs n k).length = k := by simp [upto]
theorem back_at {zs : List Int} {n j : Nat} (h : isVal (zs.getD (n - 1 - j) 0) = true) : (backF zs n j).1 = (n - 1 - j, zs.getD (n - 1 - j) 0) := by unfold backF; rw [dif_pos h]
theorem hz_horner (x : Int) {zs : List Int} (hv : ∀ i, i < zs.length → isVal (zs.getD i 0) = true) : ∀ k, k ≤ zs.length → hzL x (upto zs zs.length k) = hornerL (zs.drop (zs.length - k)) x := by
  intro k
  induction k with
  | zero => intro _; rw [Nat.sub_zero, List.drop_length]; rfl
  | succ k ih =>
    intro hk
    have hd : zs.drop (zs.length - (k + 1)) = zs.getD (zs.length - (k + 1)) 0 :: zs.drop (zs.length - k) := by
      rw [List.drop_eq_getElem_cons (by omega)]
      congr 1
      · rw [List.getD_eq_getElem?_getD, List.getElem?_eq_getElem (by omega)]; rfl
      · congr 1; omega
    rw [upto_succ, hzL_snoc, ih (by omega), hd, back_at (hv _ (by omega)), show zs.length - 1 - k = zs.length - (k + 1) by omega]
    rfl
end M
namespace V
set_option maxRecDepth 100000
open Go Go.RowKit Go.Shelf
attribute [local go_sem] Oper.semAt_some
/-- What lay below n₀ is as it was, and so is the block Bs. -/
def KeepB (n₀ Bs : Nat) (W W' : World) : Prop := Below n₀ W W' ∧ W'.heap[Bs]? = W.heap[Bs]?
theorem KeepB.trans {n₀ Bs : Nat} {A B C : World} (h : KeepB n₀ Bs A B) (k : KeepB n₀ Bs B C) : KeepB n₀ Bs A C := ⟨h.1.trans k.1, k.2.trans h.2⟩
set_option maxRecDepth 100000 in
set_option maxHeartbeats 2000000 in
theorem back1 (k : Nat) (hk : 1 ≤ k) (l Bs n₀ b off len cap : Nat) (zs : List Int) (hlen : len ≤ 1000) (hv : ∀ i, i < len → M.isVal (zs.getD i 0) = true) (hb : b < n₀) (J Jx : List M.PV → World → Prop)
    (hY : ∀ pre (x : M.PV) W, J pre W → pre.length < len → YieldAt Fence.wide (k - 1) Try.prog l #[.int .i64 (x.1.1 : Int), .int .i64 x.1.2] W fun e W' =>
      (e = .returned (.bool true) ∧ J (pre ++ [x]) W' ∧ KeepB n₀ Bs W W') ∨ (e = .returned (.bool false) ∧ Jx (pre ++ [x]) W'))
    (W : World) (hcs : W.cell? ⟨Bs, 0, none⟩ = some (.slice (some ⟨b, off, none⟩) len cap)) (hc : ∀ j, j < len → W.cell? ⟨b, off + j, none⟩ = some (.int .i64 (zs.getD j 0))) (h0 : J [] W) :
    CallsIn Fence.wide k Try.prog 89 #[.func (.yield l) #[] #[], .pointer (some ⟨Bs, 0, none⟩)] W fun e W' => (∃ v, e = .returned v) ∧
      ((∃ ys, ys = M.upto zs len len ∧ J ys W') ∨ (∃ pre, True ∧ Jx pre W')) := by
  refine callsIn_of_wp Try.func89 rfl trivial ?_ rfl
  simp only [Try.ntmps89, List.size_toArray, List.length_cons, List.length_nil, Nat.reduceAdd, Nat.reduceSub, Array.replicate_succ, Array.replicate_zero, List.push_toArray, List.append_toArray, List.nil_append, List.cons_append]
  gi_wp2
  gi_loopw [3] (fun i wr => ∃ q : Nat, q ≤ len ∧ i = .int .i64 ((q : Int) - 1) ∧ J (M.upto zs len (len - q)) wr ∧ KeepB n₀ Bs W wr)
    (fun i _ => (intOf i + 1).toNat)
  case atStart => exact ⟨len, Nat.le_refl _, rfl, by rw [Nat.sub_self]; exact h0, Below.refl _ _, rfl⟩
  case round =>
    obtain ⟨q, hq, rfl, hJs, hnx⟩ := hrel
    cases q with
    | zero =>
      have e0 : ((0 : Nat) : Int) - 1 = -1 := by omega
      rw [e0] at *
      gi_wp2
      go_end0
      exact ⟨⟨_, rfl⟩, .inl hJs⟩
    | succ r =>
      have e1 : ((r + 1 : Nat) : Int) - 1 = r := by omega
      rw [e1] at *
      have hrl : (r : Int) < (len : Int) := by omega
      have hvr := hv r (by omega)
      have hU : M.upto zs len (len - r) = M.upto zs len (len - (r + 1)) ++ [⟨(r, zs.getD r 0), hvr⟩] := by
        rw [show len - r = (len - (r + 1)) + 1 by omega, M.upto_succ]
        congr 2
        have e2 : len - 1 - (len - (r + 1)) = r := by omega
        exact Subtype.ext (by rw [M.back_at (by rw [e2]; exact hvr), e2])
      have hcr := (hnx.1.cell (p := ⟨b, off + r, none⟩) hb).trans (hc r (by omega))
      have hcs2 := (World.cell?_of_block (a := ⟨Bs, 0, none⟩) hnx.2).trans hcs
      obtain ⟨fn, tmps, assign, body, hy, hR⟩ := hY _ ⟨(r, zs.getD r 0), hvr⟩ wr hJs (by rw [M.upto_len]; omega)
      dsimp only at hy
      rw [← hU] at hR
      generalize zs.getD r 0 = y at *
      clear hc hv hU
      gi_wp2
      refine hR.mono ?_
      rintro e W3 (⟨rfl, hJ3, hk3⟩ | ⟨rfl, hJx3⟩)
      · gi_wp2
        go_roundw
        case rel => exact ⟨r, by omega, by first | rfl | go_num, hJ3, hnx.trans hk3⟩
        case measure => first | (simp [intOf]; done) | (simp [intOf]; omega)
      · gi_wp2
        refine bodyPost_ret (results_none rfl _ _ _) rfl ?_
        exact ⟨⟨_, rfl⟩, .inr ⟨_, trivial, hJx3⟩⟩
theorem back_stops (k : Nat) (hk : 1 ≤ k) (Bs n₀ b off len cap : Nat) (zs : List Int) (hlen : len ≤ 1000) (hv : ∀ i, i < len → M.isVal (zs.getD i 0) = true) (hb : b < n₀) (w : World) (hn₀ : n₀ ≤ w.heap.size) (hBs : Bs < w.heap.size)
    (hcs : w.cell? ⟨Bs, 0, none⟩ = some (.slice (some ⟨b, off, none⟩) len cap)) (hc : ∀ j, j < len → w.cell? ⟨b, off + j, none⟩ = some (.int .i64 (zs.getD j 0))) :
    SeqStopsK Fence.wide k Try.prog 89 #[.pointer (some ⟨Bs, 0, none⟩)] (fun x : M.PV => #[.int .i64 (x.1.1 : Int), .int .i64 x.1.2]) (KeepB n₀ Bs) (fun ys => ys = M.upto zs len len) (fun _ => True) len w := by
  intro l J Jx W hW _ _ hY h0
  exact back1 k hk l Bs n₀ b off len cap zs hlen hv hb J Jx hY W ((hW.cell (p := ⟨Bs, 0, none⟩) hBs).trans hcs) (fun j hj => (hW.cell (p := ⟨b, off + j, none⟩) (by show b < _; omega)).trans (hc j hj)) h0
end V
end Go.Proofs.Ytlljnfljcdljaaa
