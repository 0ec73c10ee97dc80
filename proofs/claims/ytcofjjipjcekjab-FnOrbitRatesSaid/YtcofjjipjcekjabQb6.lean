/- Texts laid together: D3d, Vals, SAdd, Pth3, MatH, Clo1, Clo2. -/
import Derived.Test.YtcofjjipjcekjabQb5
import Derived.Test.YtcofjjipjcekjabRows
import Derived.Test.YtcofjjipjcekjabQb1
import Derived.Test.YtcofjjipjcekjabQb2
import Derived.WalkKit
import Derived.ProofKit
import Derived.WalkSmall
import Derived.Deep.QuietTactic
import Derived.BigQuiet
import Derived.BigRegion
import Derived.Deep.Draws
import Derived.Lib.Hide
import Derived.OpenShut
import Derived.Deep.OwnRows
import Derived.StillTailTactics
import Derived.Deep.RegionWith
import Derived.Deep.RegionHeld3
import Derived.IntWalk
import Derived.Test.YtcofjjipjcekjabQb3
import Derived.Lib.SliceRun
set_option linter.unusedSimpArgs false
set_option linter.unusedVariables false
set_option linter.unusedSectionVars false
namespace Go.Proofs.Ytcofjjipjcekjab.V
open Go.RowKit

end Go.Proofs.Ytcofjjipjcekjab.V

namespace Go.Proofs.Ytcofjjipjcekjab.V
open Go.RowKit

set_option maxRecDepth 100000 in
set_option maxHeartbeats 400000 in
theorem checked (a : Int) (w : World) : Calls Try.prog 84 #[.int .i64 a] w fun e w' => e = .returned (.tuple #[.int .i64 (M.chk a).1, .int .i64 (M.chk a).2]) ∧ w = w' := by
  by_cases h : M.isVal a = true
  · go_enter Try.func84, Try.ntmps84
    go_wp2_with (first | (go_at_call 111; refine (isValid _ _).mono ?_; rintro e w' ⟨rfl, rfl⟩))
    go_ret2
    exact ⟨retP (by simp [M.chk, h]), rfl⟩
  · simp only [Bool.not_eq_true] at h
    go_enter Try.func84, Try.ntmps84
    go_wp2_with (first | (go_at_call 111; refine (isValid _ _).mono ?_; rintro e w' ⟨rfl, rfl⟩))
    go_ret2
    exact ⟨retP (by simp [M.chk, h]), rfl⟩

set_option maxRecDepth 100000 in
set_option maxHeartbeats 400000 in
theorem sValue (a : Int) (w : World) : Calls Try.prog 88 #[.int .i64 a] w fun e w' => e = .returned (.tuple #[.int .i64 (M.chk a).1, .int .i64 (M.chk a).2]) ∧ w = w' := by
  by_cases h : M.isVal a = true
  · go_enter Try.func88, Try.ntmps88
    go_wp2_with (first | (go_at_call 114; refine (sIsValue _ _).mono ?_; rintro e w' ⟨rfl, rfl⟩))
    go_ret2
    exact ⟨retP (by simp [M.chk, h]), rfl⟩
  · simp only [Bool.not_eq_true] at h
    go_enter Try.func88, Try.ntmps88
    go_wp2_with (first | (go_at_call 114; refine (sIsValue _ _).mono ?_; rintro e w' ⟨rfl, rfl⟩))
    go_ret2
    exact ⟨retP (by simp [M.chk, h]), rfl⟩

set_option maxRecDepth 100000 in
set_option maxHeartbeats 400000 in
theorem times (a b : Int) (w : World) (ha : M.isVal a = true) (hb : M.isVal b = true) : Calls Try.prog 83 #[.int .i64 a, .int .i64 b] w fun e w' => e = .returned (.int .i64 (M.times a b)) ∧ w = w' := by
  have ba := M.isVal_bound ha
  have bb := M.isVal_bound hb
  clear ha hb
  obtain ⟨ba1, ba2⟩ := ba
  obtain ⟨bb1, bb2⟩ := bb
  by_cases h : a = -1000000000000000
  · subst h
    go_enter Try.func83, Try.ntmps83
    go_wp2
    all_goals go_ret; exact ⟨retI (by simp [M.times]), rfl⟩
  · have h' : (a == -1000000000000000) = false := by simpa using h
    by_cases h2 : b = -1000000000000000
    · subst h2
      go_enter Try.func83, Try.ntmps83
      go_wp2
      all_goals go_ret; exact ⟨retI (by simp [M.times]), rfl⟩
    · have h2' : (b == -1000000000000000) = false := by simpa using h2
      go_enter Try.func83, Try.ntmps83
      go_wp2
      all_goals go_ret; exact ⟨retI (by simp [M.times, h, h2]), rfl⟩

set_option maxRecDepth 100000 in
set_option maxHeartbeats 400000 in
theorem sTimes (a b : Int) (w : World) (ha : M.isVal a = true) (hb : M.isVal b = true) : Calls Try.prog 89 #[.int .i64 a, .int .i64 b] w fun e w' => e = .returned (.int .i64 (M.times a b)) ∧ w = w' := by
  have ba := M.isVal_bound ha
  have bb := M.isVal_bound hb
  clear ha hb
  obtain ⟨ba1, ba2⟩ := ba
  obtain ⟨bb1, bb2⟩ := bb
  by_cases h : a = -1000000000000000
  · subst h
    go_enter Try.func89, Try.ntmps89
    go_wp2
    all_goals go_ret; exact ⟨retI (by simp [M.times]), rfl⟩
  · have h' : (a == -1000000000000000) = false := by simpa using h
    by_cases h2 : b = -1000000000000000
    · subst h2
      go_enter Try.func89, Try.ntmps89
      go_wp2
      all_goals go_ret; exact ⟨retI (by simp [M.times]), rfl⟩
    · have h2' : (b == -1000000000000000) = false := by simpa using h2
      go_enter Try.func89, Try.ntmps89
      go_wp2
      all_goals go_ret; exact ⟨retI (by simp [M.times, h, h2]), rfl⟩
end Go.Proofs.Ytcofjjipjcekjab.V

namespace Go.Proofs.Ytcofjjipjcekjab.V
open Go.RowKit

theorem ints_cells {w : World} {b off n : Nat} {l : List Int} (hc : ∀ i, i < n → w.cell? ⟨b, off + i, none⟩ = some (.int .i64 (l.getD i 0))) (hl : l.length = n) : ∀ j u, (l.map (Value.int .i64))[j]? = some u → w.cell? ((⟨b, off, none⟩ : Addr).add j) = some u := by
  intro j u hj
  have hjn : j < n := by
    by_cases e : j < n
    · exact e
    · rw [List.getElem?_eq_none (by simp; omega)] at hj; cases hj
  rw [Go.WideShapes.add_plain, hc j hjn]
  rw [← hj]
  simp [show j < l.length by omega]

set_option maxRecDepth 100000 in
set_option maxHeartbeats 1000000 in
theorem sOwn (a : Option Addr) (n cap : Nat) (l : List Int) (w : World) (h : Ints .i64 w a n l) (h0 : 0 < n) (hn : n ≤ 1000) :
    Calls Try.prog 67 #[.slice a n cap] w fun e w' => ∃ b c, e = .returned (.slice b n c) ∧ Own w' w.heap.size (.slice b n c) l ∧ Below w.heap.size w w' := by
  obtain ⟨hl, hm, hr⟩ := h
  rcases hr with hr | ⟨b, off, rfl, hb, hc⟩
  · omega
  have HL := Lib.hid hl
  have HC := Lib.hid hc
  have HO : Hid (Own (w.alloc (.cells #[] 2)) w.heap.size (.slice (some ⟨w.heap.size, 0, none⟩) 0 0) []) := own_lit0 w _ (Nat.le_refl _)
  obtain ⟨i0, hi, hz0, hz1, hz2⟩ := info_parts info64
  clear hl hc hm
  have HI := Lib.hid hi
  clear hi
  go_enter Try.func67, Try.ntmps67
  go_wp2_with (at_builtin; refine wpList_append_own_at (w := w.alloc (.cells #[] 2)) rfl (.tmp 3) (.tmp 4) 25 rfl w.heap.size 2 i0 (.int .i64 0) 1 8 Try.underlying25 HI.out hz0 hz1 hz2 rfl (by decide) (.slice (some ⟨w.heap.size, 0, none⟩) 0 0) 0 [] rfl HO.out ⟨b, off, none⟩ n cap (l.map (Value.int .i64)) rfl ?c0 ?c1 ?c2 ?c3 ?c4 ?c5 ?_)
  case c0 => have := HL.out; simp [this]
  case c1 =>
    refine ints_cells (fun i hi' => ?_) HL.out
    rw [(b_alloc w _).cell (p := ⟨b, off + i, none⟩) hb]; exact HC.out i hi'
  case c2 => intro u hu; obtain ⟨x, _, rfl⟩ := List.mem_map.1 hu; rfl
  case c3 => unfold maxLen; omega
  case c4 => omega
  case c5 => simp
  intro v' w' ho hg hz hv
  have ho' : Own w' w.heap.size v' l := by
    show w'.ownsRow w.heap.size _ 1 v' l.length (l.map (Value.int .i64))
    rw [HL.out]
    simpa using ho
  obtain ⟨b', c', rfl, _⟩ := own_form ho'
  rw [HL.out] at ho' ⊢
  have HB : Hid (Below w.heap.size w w') := (b_alloc w _).grown hg (by simp) (fun k hk => by simp [Value.ownBlock] at hk; omega)
  have HO' := Lib.hid ho'
  clear ho ho' hg hz hv
  go_wp2
  go_ret
  exact ⟨_, _, rfl, HO'.out, HB.out⟩



end Go.Proofs.Ytcofjjipjcekjab.V

namespace Go.Proofs.Ytcofjjipjcekjab.V
open Go.RowKit

theorem caps_own {w : World} {B n cap : Nat} {a : Option Addr} {l : List Int} (h : Own w B (.slice a n cap) l) : n ≤ cap ∧ cap ≤ maxLen := by
  obtain ⟨a', c', hv, h1, h2, _⟩ := own_form h
  injection hv with e1 e2 e3
  subst e2 e3
  exact ⟨h1, h2⟩
theorem has_snoc (l : List Int) (k : Nat) (h : k < l.length) (x : Int) : M.hasB (l.take (k + 1)) x = (M.hasB (l.take k) x || decide (x = l.getD k 0)) := by
  rw [M.take_snoc l k h, Bool.eq_iff_iff]
  simp [M.hasB, List.contains_iff_mem]


theorem ints_take {w : World} {a : Option Addr} {n : Nat} {l : List Int} (h : Ints .i64 w a n l) (k : Nat) (hk : k ≤ n) : Ints .i64 w a k (l.take k) := by
  obtain ⟨h1, h2, h3⟩ := h
  refine ⟨by rw [List.length_take]; omega, by omega, ?_⟩
  rcases h3 with h0 | ⟨b, off, rfl, hb, hc⟩
  · left; omega
  · right
    refine ⟨b, off, rfl, hb, fun i hi => ?_⟩
    rw [hc i (by omega)]
    simp [List.getD_eq_getElem?_getD, List.getElem?_take, hi]
end Go.Proofs.Ytcofjjipjcekjab.V

namespace Go.Proofs.Ytcofjjipjcekjab
namespace M
/-- The least number from k on that fits, within so many. -/
def lv (p : Nat → Bool) : Nat → Nat → Nat
  | 0, k => k
  | f + 1, k => if p k then k else lv p f (k + 1)
theorem lv_is {p : Nat → Bool} {m : Nat} (hm : p m = true) (f : Nat) : ∀ k, k ≤ m → m < k + f → (∀ v, k ≤ v → v < m → p v = false) → lv p f k = m := by
  induction f with
  | zero => intro k h1 h2; omega
  | succ f ih =>
    intro k h1 h2 h3
    by_cases e : k = m
    · subst e; show (if p k then k else _) = _; rw [if_pos hm]
    · show (if p k then k else _) = _
      rw [h3 k (Nat.le_refl _) (by omega), if_neg (by simp)]
      exact ih (k + 1) (by omega) (by omega) fun v h4 h5 => h3 v (by omega) h5
theorem lv_ex {p : Nat → Bool} {n : Nat} (h : ∃ m, m < n ∧ p m = true) : p (lv p n 0) = true ∧ lv p n 0 < n ∧ ∀ v, v < lv p n 0 → p v = false := by
  have key : ∀ n, (∃ m, m < n ∧ p m = true) → ∃ m, m < n ∧ p m = true ∧ ∀ v, v < m → p v = false := by
    intro n
    induction n with
    | zero => rintro ⟨m, hm, _⟩; omega
    | succ n ih =>
      rintro ⟨m, hm, hp⟩
      by_cases e : ∃ m, m < n ∧ p m = true
      · obtain ⟨m, h1, h2, h3⟩ := ih e
        exact ⟨m, by omega, h2, h3⟩
      · refine ⟨m, hm, hp, fun v hv => ?_⟩
        cases h : p v with
        | false => rfl
        | true => exact absurd ⟨v, by omega, h⟩ e
  obtain ⟨m, h1, h2, h3⟩ := key n h
  rw [lv_is h2 n 0 (Nat.zero_le _) (by omega) fun v _ hv => h3 v hv]
  exact ⟨h2, h1, h3⟩
/-- Whether a heaviest path with s + 1 arcs goes on from x by v. -/
def stepB (A : Nat → Nat → Int) (n t s x v : Nat) : Bool := decide (times (cpw A n s t v) (A v x) = cpw A n (s + 1) t x)
def nxt (A : Nat → Nat → Int) (n t s x : Nat) : Nat := lv (stepB A n t s x) n 0
/-- The number of arcs. -/
def arcs (A : Nat → Nat → Int) (n f t : Nat) : Nat := lv (fun s => decide (cpw A n s t f = starF A n t f)) 11 0
/-- The nodes of the path. -/
def xs (A : Nat → Nat → Int) (n t s f : Nat) : Nat → Nat
  | 0 => f
  | k + 1 => nxt A n t (s - 1 - k) (xs A n t s f k)
def hvL (A : Nat → Nat → Int) (n t s f : Nat) (k : Nat) : List Int := (List.range k).map fun i => ((xs A n t s f i : Nat) : Int)
def heavyRes (R : List (List Int)) (f t : Int) : List Int × Int :=
  if sqB R then (if inN R.length f && inN R.length t then (if noPos (ent R) R.length then (if starF (ent R) R.length t.toNat f.toNat = -1000000000000000 then ([], 4)
    else (hvL (ent R) R.length t.toNat (arcs (ent R) R.length f.toNat t.toNat) f.toNat (arcs (ent R) R.length f.toNat t.toNat + 1), 0)) else ([], 5)) else ([], 2)) else ([], 1)
theorem hvL_len (A : Nat → Nat → Int) (n t s f k : Nat) : (hvL A n t s f k).length = k := by simp [hvL]
theorem hvL_succ (A : Nat → Nat → Int) (n t s f k : Nat) : hvL A n t s f (k + 1) = hvL A n t s f k ++ [((xs A n t s f k : Nat) : Int)] := by
  unfold hvL; rw [List.range_succ]; simp
theorem hvL_at (A : Nat → Nat → Int) (n t s f k i : Nat) (h : i < k) : (hvL A n t s f k).getD i 0 = ((xs A n t s f i : Nat) : Int) := by
  simp [hvL, h]
theorem lv_le (p : Nat → Bool) (f : Nat) : ∀ k, lv p f k ≤ k + f := by
  induction f with
  | zero => intro k; exact Nat.le_refl _
  | succ f ih =>
    intro k
    show (if p k then k else _) ≤ _
    split
    · omega
    · have := ih (k + 1); omega
theorem heavyRes_len (R : List (List Int)) (f t : Int) : (heavyRes R f t).1.length ≤ 12 := by
  unfold heavyRes
  split
  · split
    · split
      · split
        · simp
        · rw [hvL_len]
          have := lv_le (fun s => decide (cpw (ent R) R.length s t.toNat f.toNat = starF (ent R) R.length t.toNat f.toNat)) 11 0
          unfold arcs
          omega
      · simp
    · simp
  · simp
section
variable {A : Nat → Nat → Int} {n : Nat} (hn : n ≤ 10) (hA : ∀ i j, i < n → j < n → Sm 1000001000000 (A i j))
include hn hA
/-- There is a number of arcs with which the weight in the star is reached. -/
theorem arcs_is (hp : noPos A n = true) {f t : Nat} (hf : f < n) (ht : t < n) (h : starF A n t f ≠ -1000000000000000) :
    cpw A n (arcs A n f t) t f = starF A n t f ∧ arcs A n f t ≤ 10 ∧ ∀ s, s < arcs A n f t → cpw A n s t f ≠ starF A n t f := by
  have hd := o_diag hn hA hp
  have e1 : o (starF A n t f) = obm (fun i j => o (A i j)) n n t f := by
    unfold starF
    rw [← clo_star hn hA hp ht hf, o_cbm hA n (by omega) t f ht hf]
  obtain ⟨s, hs, hle⟩ := opw_star (f := fun i j => o (A i j)) ht hf (by rw [← e1]; exact fun e => h (o_none.1 e))
  have hge := opw_le hd ht hf s
  have e2 := ole_anti hge hle
  rw [← o_cpw hA s (by omega) t f ht hf, ← e1] at e2
  have e3 := o_inj e2
  obtain ⟨h1, h2, h3⟩ := lv_ex (p := fun s => decide (cpw A n s t f = starF A n t f)) (n := 11) ⟨s, by omega, by simpa using e3⟩
  refine ⟨of_decide_eq_true h1, by unfold arcs; omega, fun s hs => ?_⟩
  have := h3 s hs
  simpa using this
end
section
variable {A : Nat → Nat → Int} {n : Nat} (hA : ∀ i j, i < n → j < n → Sm 1000001000000 (A i j))
include hA
/-- A heaviest path with more than no arcs goes on. -/
theorem nxt_is {t s x : Nat} (hs : s ≤ 10) (ht : t < n) (hx : x < n) (h : cpw A n (s + 1) t x ≠ -1000000000000000) :
    nxt A n t s x < n ∧ times (cpw A n s t (nxt A n t s x)) (A (nxt A n t s x) x) = cpw A n (s + 1) t x ∧ ∀ v, v < nxt A n t s x → times (cpw A n s t v) (A v x) ≠ cpw A n (s + 1) t x := by
  have hex : ∃ v, v < n ∧ stepB A n t s x v = true := by
    have e := o_cpw hA (s + 1) (by omega) t x ht hx
    rcases osum_att n (fun u => omul (opw (fun i j => o (A i j)) n s t u) (o (A u x))) with k | ⟨u, hu, k⟩
    · exact absurd (o_none.1 (e.trans k)) h
    · refine ⟨u, hu, ?_⟩
      unfold stepB
      rw [decide_eq_true_eq]
      refine o_inj ?_
      rw [o_times (cpw_sm hA s t u ht hu) (hA u x hu hx) (by omega) (by omega), o_cpw hA s (by omega) t u ht hu]
      exact (e.trans k).symm
  obtain ⟨h1, h2, h3⟩ := lv_ex hex
  refine ⟨h2, of_decide_eq_true h1, fun v hv => ?_⟩
  have := h3 v hv
  simpa [stepB] using this
theorem nxt_fin {t s x : Nat} (hs : s ≤ 10) (ht : t < n) (hx : x < n) (h : cpw A n (s + 1) t x ≠ -1000000000000000) :
    cpw A n s t (nxt A n t s x) ≠ -1000000000000000 ∧ A (nxt A n t s x) x ≠ -1000000000000000 := by
  obtain ⟨h1, h2, -⟩ := nxt_is hA hs ht hx h
  refine ⟨fun e => h ?_, fun e => h ?_⟩
  · rw [← h2, e, bot_times]
  · rw [← h2, e, times_bot]
/-- Along the path the rest stays a heaviest one. -/
theorem xs_inv {t s f : Nat} (hs : s ≤ 10) (ht : t < n) (hf : f < n) (h : cpw A n s t f ≠ -1000000000000000) (k : Nat) (hk : k ≤ s) :
    xs A n t s f k < n ∧ cpw A n (s - k) t (xs A n t s f k) ≠ -1000000000000000 := by
  induction k with
  | zero => exact ⟨hf, h⟩
  | succ k ih =>
    obtain ⟨h1, h2⟩ := ih (by omega)
    have e : s - k = s - 1 - k + 1 := by omega
    rw [e] at h2
    show nxt A n t (s - 1 - k) (xs A n t s f k) < n ∧ cpw A n (s - (k + 1)) t (nxt A n t (s - 1 - k) (xs A n t s f k)) ≠ _
    rw [show s - (k + 1) = s - 1 - k by omega]
    exact ⟨(nxt_is hA (by omega) ht h1 h2).1, (nxt_fin hA (by omega) ht h1 h2).1⟩
/-- What is left of the weight. -/
theorem xs_need {t s f : Nat} (hs : s ≤ 10) (ht : t < n) (hf : f < n) (h : cpw A n s t f ≠ -1000000000000000) (k : Nat) (hk : k < s) :
    cpw A n (s - (k + 1)) t (xs A n t s f (k + 1)) = cpw A n (s - k) t (xs A n t s f k) - A (xs A n t s f (k + 1)) (xs A n t s f k) := by
  obtain ⟨h1, h2⟩ := xs_inv hA hs ht hf h k (by omega)
  have e : s - k = s - 1 - k + 1 := by omega
  rw [e] at h2
  have h3 := (nxt_is hA (by omega) ht h1 h2).2.1
  have h4 := nxt_fin hA (by omega) ht h1 h2
  rw [show s - (k + 1) = s - 1 - k by omega, e]
  show cpw A n (s - 1 - k) t (nxt A n t (s - 1 - k) (xs A n t s f k)) = _ - A (nxt A n t (s - 1 - k) (xs A n t s f k)) _
  unfold times at h3
  rw [if_neg (by rintro (e | e); exact h4.1 e; exact h4.2 e)] at h3
  omega
theorem xs_end {t s f : Nat} (hs : s ≤ 10) (ht : t < n) (hf : f < n) (h : cpw A n s t f ≠ -1000000000000000) : xs A n t s f s = t := by
  obtain ⟨h1, h2⟩ := xs_inv hA hs ht hf h s (Nat.le_refl _)
  rw [Nat.sub_self] at h2
  have h2 : unit t (xs A n t s f s) ≠ -1000000000000000 := h2
  unfold unit at h2
  split at h2
  · next e => exact e.symm
  · exact absurd rfl h2
end
end M
end Go.Proofs.Ytcofjjipjcekjab

namespace Go.Proofs.Ytcofjjipjcekjab.V
open Go.RowKit

set_option maxRecDepth 100000 in
set_option maxHeartbeats 1000000 in
theorem clone (a : Option Addr) (n cap : Nat) (l : List Int) (w : World) (h : Ints .i64 w a n l) (h0 : 0 < n) (hn : n ≤ 1000) :
    Calls Try.prog 56 #[.slice a n cap] w fun e w' => ∃ b c, e = .returned (.slice b n c) ∧ Own w' w.heap.size (.slice b n c) l ∧ Below w.heap.size w w' := by
  obtain ⟨hl, hm, hr⟩ := h
  rcases hr with hr | ⟨b, off, rfl, hb, hc⟩
  · omega
  have HL := Lib.hid hl
  have HC := Lib.hid hc
  have HO : Hid (Own (w.alloc (.cells #[] 2)) w.heap.size (.slice (some ⟨w.heap.size, 0, none⟩) 0 0) []) := own_lit0 w _ (Nat.le_refl _)
  obtain ⟨i0, hi, hz0, hz1, hz2⟩ := info_parts info64
  clear hl hc hm
  have HI := Lib.hid hi
  clear hi
  have hnil := fun w : World => Lib.run_eql_slice_nil (P := Try.prog) w 25 2 (some (⟨b, off, none⟩ : Addr)) n cap 0 0 Try.underlying25
  go_enter Try.func56, Try.ntmps56
  go_wp2_with (at_builtin; refine wpList_append_own_at (w := w.alloc (.cells #[] 2)) rfl (.tmp 5) (.tmp 6) 25 rfl w.heap.size 2 i0 (.int .i64 0) 1 8 Try.underlying25 HI.out hz0 hz1 hz2 rfl (by decide) (.slice (some ⟨w.heap.size, 0, none⟩) 0 0) 0 [] rfl HO.out ⟨b, off, none⟩ n cap (l.map (Value.int .i64)) rfl ?c0 ?c1 ?c2 ?c3 ?c4 ?c5 ?_)
  case c0 => have := HL.out; simp [this]
  case c1 =>
    refine ints_cells (fun i hi' => ?_) HL.out
    rw [(b_alloc w _).cell (p := ⟨b, off + i, none⟩) hb]; exact HC.out i hi'
  case c2 => intro u hu; obtain ⟨x, _, rfl⟩ := List.mem_map.1 hu; rfl
  case c3 => unfold maxLen; omega
  case c4 => omega
  case c5 => simp
  intro v' w' ho hg hz hv
  have ho' : Own w' w.heap.size v' l := by
    show w'.ownsRow w.heap.size _ 1 v' l.length (l.map (Value.int .i64))
    rw [HL.out]
    simpa using ho
  obtain ⟨b', c', rfl, _⟩ := own_form ho'
  rw [HL.out] at ho' ⊢
  have HB : Hid (Below w.heap.size w w') := (b_alloc w _).grown hg (by simp) (fun k hk => by simp [Value.ownBlock] at hk; omega)
  have HO' := Lib.hid ho'
  clear ho ho' hg hz hv
  go_wp2
  go_ret
  exact ⟨_, _, rfl, HO'.out, HB.out⟩


/-- Three entries of an owned square matrix, of which the first is written. -/
theorem OwnM.tri {w : World} {B n cap : Nat} {a : Option Addr} {R : List (List Int)} (h : OwnM w B (.slice a n cap) R) (hr : Rect R n n) (i j k : Nat) (hi : i < n) (hj : j < n) (hk : k < n) :
    ∃ g q c q' c', a = some ⟨g, 0, none⟩ ∧ B ≤ q ∧ w.cell? ⟨g, i, none⟩ = some (.slice (some ⟨q, 0, none⟩) n c) ∧ w.cell? ⟨q, j, none⟩ = some (.int .i64 (M.ent R i j)) ∧ w.cell? ⟨q, k, none⟩ = some (.int .i64 (M.ent R i k)) ∧
      w.cell? ⟨g, k, none⟩ = some (.slice (some ⟨q', 0, none⟩) n c') ∧ w.cell? ⟨q', j, none⟩ = some (.int .i64 (M.ent R k j)) ∧ w.frozen? ⟨q, j, none⟩ = false ∧
      ∀ y, OwnM (w.setCell ⟨q, j, none⟩ (.int .i64 y)) B (.slice a n cap) (R.set i ((R.getD i []).set j y)) := by
  obtain ⟨g, q, L, c, x, rfl, _, hq, hL, hx, h1, h2, h3, h4⟩ := h.at i j hi (by rw [hr.2 i hi]; exact hj)
  obtain ⟨g2, q2, L2, c2, x2, e, _, _, hL2, hx2, k1, k2, _, _⟩ := h.at i k hi (by rw [hr.2 i hi]; exact hk)
  injection e with e
  injection e with e
  subst e
  rw [h1] at k1
  injection k1 with k1
  injection k1 with k1 _ _
  injection k1 with k1
  injection k1 with k1
  subst k1
  obtain ⟨g3, q3, L3, c3, x3, e, _, _, hL3, hx3, m1, m2, _, _⟩ := h.at k j hk (by rw [hr.2 k hk]; exact hj)
  injection e with e
  injection e with e
  subst e
  rw [hr.2 i hi] at hL
  rw [hr.2 k hk] at hL3
  subst hL hL3 hx hx2 hx3
  exact ⟨g, q, c, q3, c3, rfl, hq, h1, h2, k2, m1, m2, h3, h4⟩
end Go.Proofs.Ytcofjjipjcekjab.V

namespace Go.Proofs.Ytcofjjipjcekjab.V
open Go.RowKit

/-- A matrix and a sign are returned. -/
def CPost (r : List (List Int) × Bool) (w : World) (e : Ending) (w' : World) : Prop :=
  ∃ b n c, e = .returned (.tuple #[.slice b n c, .bool r.2]) ∧ OwnM w' w.heap.size (.slice b n c) r.1 ∧ Below w.heap.size w w'

end Go.Proofs.Ytcofjjipjcekjab.V
