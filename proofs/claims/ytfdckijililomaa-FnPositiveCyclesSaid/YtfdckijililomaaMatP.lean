/- Plain facts: lists of nodes, their weights, paths and cycles. -/
import Derived.Test.YtfdckijililomaaMatL
namespace Go.Proofs.Ytfdckijililomaa
namespace M
def sqB (R : List (List Int)) : Bool := isMat R && decide (R.length = wid R)
theorem sqB_t {R : List (List Int)} (h : sqB R = true) : isMat R = true ∧ R.length = wid R := by
  simpa [sqB] using h
def vx (l : List Int) (k : Nat) : Nat := (l.getD k 0).toNat
def inN (n : Nat) (x : Int) : Bool := decide (0 ≤ x) && decide (x < n)
def nodesB (n : Nat) (l : List Int) : Bool := l.all (inN n)
/-- The product of the weights of the first arcs. -/
def wkc (A : Nat → Nat → Int) (v : Nat → Nat) : Nat → Int
  | 0 => 0
  | t + 1 => times (wkc A v t) (A (v (t + 1)) (v t))
theorem inN_t {n : Nat} {x : Int} (h : inN n x = true) : 0 ≤ x ∧ x < n := by simpa [inN] using h
theorem inN_f {n : Nat} {x : Int} (h : inN n x = false) : ¬(0 ≤ x ∧ x < n) := by
  intro k; simp [inN, k] at h
theorem nodesB_at {n : Nat} {l : List Int} (h : nodesB n l = true) {k : Nat} (hk : k < l.length) : 0 ≤ l.getD k 0 ∧ l.getD k 0 < n := by
  have := List.all_eq_true.1 h l[k] (List.getElem_mem hk)
  have := inN_t this
  simpa [hk] using this
theorem vx_cast {n : Nat} {l : List Int} (h : nodesB n l = true) {k : Nat} (hk : k < l.length) : ((vx l k : Nat) : Int) = l.getD k 0 := by
  have := nodesB_at h hk
  unfold vx; omega
theorem vx_lt {n : Nat} {l : List Int} (h : nodesB n l = true) {k : Nat} (hk : k < l.length) : vx l k < n := by
  have := nodesB_at h hk
  unfold vx; omega
theorem wkc_congr {A : Nat → Nat → Int} {v v' : Nat → Nat} {t : Nat} (h : ∀ u, u ≤ t → v u = v' u) : wkc A v t = wkc A v' t := by
  induction t with
  | zero => rfl
  | succ t ih => show times _ _ = times _ _; rw [ih fun u hu => h u (by omega), h (t + 1) (by omega), h t (by omega)]
theorem wkc_sm {A : Nat → Nat → Int} {v : Nat → Nat} {t : Nat} (h : ∀ u, u < t → Sm 1000001000000 (A (v (u + 1)) (v u))) : Sm (1000001000000 * t) (wkc A v t) := by
  induction t with
  | zero => right; show (_ ≤ (0 : Int)) ∧ (0 : Int) ≤ _; omega
  | succ t ih => exact sm_up (smt (ih fun u hu => h u (by omega)) (h t (by omega))) (by omega)
theorem wkc_bot {A : Nat → Nat → Int} {v : Nat → Nat} {k m : Nat} (h : wkc A v k = -1000000000000000) (hm : k ≤ m) : wkc A v m = -1000000000000000 := by
  induction m with
  | zero => obtain rfl : k = 0 := by omega
            exact h
  | succ m ih =>
    by_cases e : k = m + 1
    · subst e; exact h
    · show times _ _ = _
      rw [ih (by omega), bot_times]
theorem o_wkc {A : Nat → Nat → Int} {v : Nat → Nat} {t : Nat} (ht : t ≤ 99) (h : ∀ u, u < t → Sm 1000001000000 (A (v (u + 1)) (v u))) : o (wkc A v t) = owk (fun i j => o (A i j)) v t := by
  induction t with
  | zero => rfl
  | succ t ih =>
    show o (times _ _) = omul _ _
    rw [o_times (wkc_sm fun u hu => h u (by omega)) (h t (by omega)) (by omega) (by omega), ih (by omega) fun u hu => h u (by omega), omul_comm]
def alongW (R : List (List Int)) (l : List Int) : Int := wkc (ent R) (vx l) (l.length - 1)
def aroundW (R : List (List Int)) (l : List Int) : Int := times (alongW R l) (ent R (vx l 0) (vx l (l.length - 1)))
def hasB (l : List Int) (x : Int) : Bool := l.contains x
theorem hasB_iff {l : List Int} {x : Int} : hasB l x = true ↔ x ∈ l := List.contains_iff_mem
def diffB (l : List Int) : Bool := (List.range l.length).all fun i => !hasB (l.take i) (l.getD i 0)
theorem diffB_of {l : List Int} (h : ∀ i, i < l.length → hasB (l.take i) (l.getD i 0) = false) : diffB l = true :=
  List.all_eq_true.2 fun i hi => by rw [h i (List.mem_range.1 hi)]; rfl
theorem diffB_f {l : List Int} {i : Nat} (hi : i < l.length) (h : hasB (l.take i) (l.getD i 0) = true) : diffB l = false := by
  cases e : diffB l with
  | false => rfl
  | true =>
    have := List.all_eq_true.1 e i (List.mem_range.2 hi)
    rw [h] at this; cases this
theorem diffB_t {l : List Int} (h : diffB l = true) {i : Nat} (hi : i < l.length) : hasB (l.take i) (l.getD i 0) = false := by
  have := List.all_eq_true.1 h i (List.mem_range.2 hi)
  simpa using this
/-- Nodes that are all different are at most as many as there are. -/
theorem diffB_len {n : Nat} {l : List Int} (h : nodesB n l = true) (hd : diffB l = true) : l.length ≤ n := by
  refine Classical.byContradiction fun k => ?_
  obtain ⟨a, b, hab, hb, e⟩ := pigeon n (vx l) (fun t ht => vx_lt h (by omega))
  have h1 := nodesB_at h (k := a) (by omega)
  have h2 := nodesB_at h (k := b) (by omega)
  have e' : l.getD a 0 = l.getD b 0 := by unfold vx at e; omega
  have := diffB_t hd (i := b) (by omega)
  rw [← e'] at this
  have hm : l.getD a 0 ∈ l.take b := by
    have ha : a < l.length := by omega
    simp only [List.getD_eq_getElem?_getD, List.getElem?_eq_getElem ha, Option.getD_some]
    exact List.mem_take_iff_getElem.2 ⟨a, by omega, rfl⟩
  rw [hasB_iff.2 hm] at this
  cases this
def walkR (R : List (List Int)) (l : List Int) : Int × Bool := if alongW R l = -1000000000000000 then (0, false) else (alongW R l, true)
def pathRes (R : List (List Int)) (l : List Int) : Int × Int :=
  if sqB R then (if 1 ≤ l.length ∧ l.length ≤ 100 ∧ nodesB R.length l = true then (if alongW R l = -1000000000000000 then (0, 4) else chk (alongW R l)) else (0, 2)) else (0, 1)
def cycB (R : List (List Int)) (l : List Int) : Bool := decide (1 ≤ l.length) && nodesB R.length l && diffB l && decide (aroundW R l ≠ -1000000000000000)
def isCycB (R : List (List Int)) (l : List Int) : Bool := sqB R && cycB R l
def cycRes (R : List (List Int)) (l : List Int) : Int × Int := if sqB R then (if cycB R l then chk (aroundW R l) else (0, 4)) else (0, 1)
def cycleR (R : List (List Int)) (l : List Int) : Int × Bool := if cycB R l then (aroundW R l, true) else (0, false)
theorem around_snoc (R : List (List Int)) (l : List Int) (h : 1 ≤ l.length) : alongW R (l ++ [l.getD 0 0]) = aroundW R l := by
  unfold alongW aroundW
  have e : (l ++ [l.getD 0 0]).length - 1 = l.length - 1 + 1 := by simp; omega
  have v1 : ∀ k, k < l.length → vx (l ++ [l.getD 0 0]) k = vx l k := fun k hk => by
    unfold vx; simp [List.getD_eq_getElem?_getD, List.getElem?_append_left, hk]
  have v2 : vx (l ++ [l.getD 0 0]) (l.length - 1 + 1) = vx l 0 := by
    unfold vx
    rw [show l.length - 1 + 1 = l.length by omega]
    simp [List.getD_eq_getElem?_getD]
  rw [e]
  show times (wkc _ _ _) _ = times _ _
  rw [v2, v1 (l.length - 1) (by omega), wkc_congr (v' := vx l) (fun u hu => v1 u (by omega))]
  rfl
end M
end Go.Proofs.Ytfdckijililomaa
