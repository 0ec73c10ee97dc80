/- Texts laid together: Cir, Cis, Cit, Ciu, IMul2. -/
import Derived.Test.YtlofnadpgnbmdaaGreatQa19
import Derived.Test.YtlofnadpgnbmdaaGreatRows
import Derived.Test.YtlofnadpgnbmdaaGreatQa1
import Derived.Test.YtlofnadpgnbmdaaGreatQa2
import Derived.WalkKit
import Derived.ProofKit
import Derived.WalkSmall
import Derived.Deep.QuietTactic
import Derived.BigQuiet
import Derived.BigRegion
import Derived.Deep.Draws
import Derived.Lib.Hide
import Derived.OpenShut
import Derived.Deep.OwnRows
import Derived.Test.YtlofnadpgnbmdaaGreatQa3
import Derived.Test.YtlofnadpgnbmdaaGreatQa4
import Derived.Test.YtlofnadpgnbmdaaGreatQa5
import Derived.StillTailTactics
set_option linter.unusedSimpArgs false
set_option linter.unusedVariables false
set_option linter.unusedSectionVars false
namespace Go.Proofs.YtlofnadpgnbmdaaGreat
namespace M
def plz : Int × Int × Int × Int := (0, 0, 0, 0)
def frI (l : List (Int × Int × Int × Int)) (i : Int) : Int := (l.getD i.toNat plz).1
def toI (l : List (Int × Int × Int × Int)) (i : Int) : Int := (l.getD i.toNat plz).2.1
def dlI (l : List (Int × Int × Int × Int)) (i : Int) : Int := (l.getD i.toNat plz).2.2.1
def tkI (l : List (Int × Int × Int × Int)) (i : Int) : Int := (l.getD i.toNat plz).2.2.2
/-- Each place leads to where the next one begins, the last one to the first one. -/
def chnB (l : List (Int × Int × Int × Int)) (c : List Int) : Bool := (List.range c.length).all fun k => decide (toI l (c.getD k 0) = frI l (c.getD ((k + 1) % c.length) 0))
def cirB (l : List (Int × Int × Int × Int)) (c : List Int) : Bool := decide (1 ≤ c.length) && (nodesB l.length c && (chnB l c && diffB (c.map (frI l))))
theorem chn_t {l : List (Int × Int × Int × Int)} {c : List Int} (h : chnB l c = true) {k : Nat} (hk : k < c.length) : toI l (c.getD k 0) = frI l (c.getD ((k + 1) % c.length) 0) := by
  unfold chnB at h
  rw [List.all_eq_true] at h
  simpa using h k (List.mem_range.2 hk)
theorem chn_of {l : List (Int × Int × Int × Int)} {c : List Int} (h : ∀ k, k < c.length → toI l (c.getD k 0) = frI l (c.getD ((k + 1) % c.length) 0)) : chnB l c = true := by
  unfold chnB
  rw [List.all_eq_true]
  intro k hk
  simpa using h k (List.mem_range.1 hk)
theorem chn_no {l : List (Int × Int × Int × Int)} {c : List Int} {k : Nat} (hk : k < c.length) (h : toI l (c.getD k 0) ≠ frI l (c.getD ((k + 1) % c.length) 0)) : chnB l c = false := by
  cases e : chnB l c with
  | false => rfl
  | true => exact absurd (chn_t e hk) h
/-- The place before place k. -/
def prv (n k : Nat) : Nat := if k = 0 then n - 1 else k - 1
theorem prv_step {n k : Nat} (hk : k < n) : prv n k < n ∧ (prv n k + 1) % n = k := by
  unfold prv
  by_cases h : k = 0
  · rw [if_pos h]; subst h; exact ⟨by omega, by rw [show n - 1 + 1 = n by omega, Nat.mod_self]⟩
  · rw [if_neg h]; exact ⟨by omega, by rw [show k - 1 + 1 = k by omega, Nat.mod_eq_of_lt hk]⟩
theorem chn_prv {l : List (Int × Int × Int × Int)} {c : List Int} (h : ∀ k, k < c.length → frI l (c.getD k 0) = toI l (c.getD (prv c.length k) 0)) : chnB l c = true := by
  refine chn_of fun k hk => ?_
  by_cases e : k + 1 = c.length
  · have := h 0 (by omega)
    rw [show prv c.length 0 = k by unfold prv; rw [if_pos rfl]; omega] at this
    rw [e, Nat.mod_self]; exact this.symm
  · have := h (k + 1) (by omega)
    rw [show prv c.length (k + 1) = k by unfold prv; rw [if_neg (by omega)]; omega] at this
    rw [Nat.mod_eq_of_lt (by omega)]; exact this.symm
theorem chn_prv_no {l : List (Int × Int × Int × Int)} {c : List Int} {k : Nat} (hk : k < c.length) (h : frI l (c.getD k 0) ≠ toI l (c.getD (prv c.length k) 0)) : chnB l c = false := by
  obtain ⟨h1, h2⟩ := prv_step hk
  refine chn_no h1 ?_
  rw [h2]; exact fun e => h e.symm
theorem map_getD (f : Int → Int) {c : List Int} {k : Nat} (hk : k < c.length) : (c.map f).getD k 0 = f (c.getD k 0) := by
  rw [List.getD_eq_getElem?_getD, List.getElem?_map, List.getD_eq_getElem?_getD, List.getElem?_eq_getElem hk]; rfl
/-- Events of valid places. -/
def evOk (l : List (Int × Int × Int × Int)) (N : Nat) : Prop := ∀ i, i < l.length → 0 ≤ (l.getD i plz).1 ∧ (l.getD i plz).1 < N ∧ 0 ≤ (l.getD i plz).2.1 ∧ (l.getD i plz).2.1 < N ∧ 0 ≤ (l.getD i plz).2.2.1 ∧ (l.getD i plz).2.2.1 ≤ 1000 ∧ 0 ≤ (l.getD i plz).2.2.2 ∧ (l.getD i plz).2.2.2 ≤ 5
theorem ev_at {l : List (Int × Int × Int × Int)} {N : Nat} (he : evOk l N) {c : List Int} (hc : nodesB l.length c = true) {k : Nat} (hk : k < c.length) :
    0 ≤ frI l (c.getD k 0) ∧ frI l (c.getD k 0) < N ∧ 0 ≤ toI l (c.getD k 0) ∧ toI l (c.getD k 0) < N ∧ 0 ≤ dlI l (c.getD k 0) ∧ dlI l (c.getD k 0) ≤ 1000 ∧ 0 ≤ tkI l (c.getD k 0) ∧ tkI l (c.getD k 0) ≤ 5 := by
  have := nodesB_at hc hk
  exact he _ (by omega)
theorem nodes_map {l : List (Int × Int × Int × Int)} {N : Nat} (he : evOk l N) {c : List Int} (hc : nodesB l.length c = true) : nodesB N (c.map (frI l)) = true := by
  unfold nodesB
  rw [List.all_eq_true]
  intro y hy
  obtain ⟨x, hx, rfl⟩ := List.mem_map.1 hy
  obtain ⟨k, hk, rfl⟩ := List.mem_iff_getElem.1 hx
  have := ev_at he hc hk
  rw [List.getD_eq_getElem?_getD, List.getElem?_eq_getElem hk] at this
  unfold inN
  simp only [Option.getD_some] at this
  simp; omega
theorem nodes_map_to {l : List (Int × Int × Int × Int)} {N : Nat} (he : evOk l N) {c : List Int} (hc : nodesB l.length c = true) : nodesB N (c.map (toI l)) = true := by
  unfold nodesB
  rw [List.all_eq_true]
  intro y hy
  obtain ⟨x, hx, rfl⟩ := List.mem_map.1 hy
  obtain ⟨k, hk, rfl⟩ := List.mem_iff_getElem.1 hx
  have := ev_at he hc hk
  rw [List.getD_eq_getElem?_getD, List.getElem?_eq_getElem hk] at this
  unfold inN
  simp only [Option.getD_some] at this
  simp; omega
theorem cir_t {l : List (Int × Int × Int × Int)} {c : List Int} (h : cirB l c = true) : 1 ≤ c.length ∧ nodesB l.length c = true ∧ chnB l c = true ∧ diffB (c.map (frI l)) = true := by
  unfold cirB at h
  simp only [Bool.and_eq_true, decide_eq_true_eq] at h
  exact h
theorem cir_len {l : List (Int × Int × Int × Int)} {N : Nat} (he : evOk l N) {c : List Int} (h : cirB l c = true) : c.length ≤ N := by
  obtain ⟨h1, h2, h3, h4⟩ := cir_t h
  have := diffB_len (nodes_map he h2) h4
  simpa using this
/-- Sums over the first places of a list. -/
def smK (f : Int → Int) (c : List Int) : Nat → Int
  | 0 => 0
  | k + 1 => smK f c k + f (c.getD k 0)
theorem smK_bd {f : Int → Int} {c : List Int} {m : Int} (h : ∀ k, k < c.length → 0 ≤ f (c.getD k 0) ∧ f (c.getD k 0) ≤ m) (k : Nat) (hk : k ≤ c.length) : 0 ≤ smK f c k ∧ smK f c k ≤ m * k := by
  induction k with
  | zero => simp [smK]
  | succ k ih =>
    have h1 := ih (by omega)
    have h2 := h k (by omega)
    have e : m * ((k + 1 : Nat) : Int) = m * k + m := by rw [show ((k + 1 : Nat) : Int) = (k : Int) + 1 by omega, Int.mul_add, Int.mul_one]
    rw [e]
    show 0 ≤ smK f c k + _ ∧ smK f c k + _ ≤ _
    omega
theorem smK_congr {f : Int → Int} {c c' : List Int} (k : Nat) (h : ∀ u, u < k → c.getD u 0 = c'.getD u 0) : smK f c k = smK f c' k := by
  induction k with
  | zero => rfl
  | succ k ih =>
    show smK f c k + _ = smK f c' k + _
    rw [ih (fun u hu => h u (by omega)), h k (by omega)]
theorem smK_snoc (f : Int → Int) (c : List Int) (x : Int) : smK f (c ++ [x]) (c ++ [x]).length = smK f c c.length + f x := by
  rw [List.length_append]
  show smK f (c ++ [x]) c.length + f ((c ++ [x]).getD c.length 0) = _
  rw [smK_congr (c := c ++ [x]) (c' := c) c.length (fun u hu => by rw [List.getD_eq_getElem?_getD, List.getD_eq_getElem?_getD, List.getElem?_append_left hu])]
  congr 1
  simp
theorem smK_cons (f : Int → Int) (c : List Int) (x : Int) (k : Nat) : smK f (x :: c) (k + 1) = f x + smK f c k := by
  induction k with
  | zero => simp [smK]
  | succ k ih =>
    show smK f (x :: c) (k + 1) + f ((x :: c).getD (k + 1) 0) = f x + (smK f c k + f (c.getD k 0))
    rw [ih]
    simp
    omega
def dlS (l : List (Int × Int × Int × Int)) (c : List Int) : Int := smK (dlI l) c c.length
def tkS (l : List (Int × Int × Int × Int)) (c : List Int) : Int := smK (tkI l) c c.length
theorem sums_bd {l : List (Int × Int × Int × Int)} {N : Nat} (he : evOk l N) (hN : N ≤ 10) {c : List Int} (h : cirB l c = true) : 0 ≤ dlS l c ∧ dlS l c ≤ 10000 ∧ 0 ≤ tkS l c ∧ tkS l c ≤ 50 := by
  have hl := cir_len he h
  obtain ⟨h1, h2, h3, h4⟩ := cir_t h
  have a := smK_bd (f := dlI l) (c := c) (m := 1000) (fun k hk => by have := ev_at he h2 hk; omega) c.length (Nat.le_refl _)
  have b := smK_bd (f := tkI l) (c := c) (m := 5) (fun k hk => by have := ev_at he h2 hk; omega) c.length (Nat.le_refl _)
  unfold dlS tkS
  omega
/-- A circuit's ratio. -/
def cirQ (l : List (Int × Int × Int × Int)) (c : List Int) : Int × Int := (ratN (dlS l c) (tkS l c), ratD (dlS l c) (tkS l c))
/-- A circuit may begin with its next place. -/
theorem cir_turn {l : List (Int × Int × Int × Int)} {x : Int} {t : List Int} (h : cirB l (x :: t) = true) : cirB l (t ++ [x]) = true ∧ dlS l (t ++ [x]) = dlS l (x :: t) ∧ tkS l (t ++ [x]) = tkS l (x :: t) := by
  obtain ⟨h1, h2, h3, h4⟩ := cir_t h
  refine ⟨?_, ?_, ?_⟩
  · unfold cirB
    simp only [Bool.and_eq_true, decide_eq_true_eq]
    refine ⟨by simp, ?_, chn_of fun k hk => ?_, ?_⟩
    · unfold nodesB at h2 ⊢
      rw [List.all_append, Bool.and_comm]
      simpa using h2
    · simp only [List.length_append, List.length_cons, List.length_nil, Nat.zero_add] at hk ⊢
      by_cases e : k = t.length
      · subst e
        have := chn_t h3 (k := 0) (by simp)
        rw [Nat.mod_self]
        cases t with
        | nil => simpa using this
        | cons y t =>
          simp only [List.length_cons] at this ⊢
          rw [Nat.mod_eq_of_lt (by omega)] at this
          simpa [List.getD_eq_getElem?_getD] using this
      · have := chn_t h3 (k := k + 1) (by simp; omega)
        simp only [List.length_cons] at this
        have e1 : (t ++ [x]).getD k 0 = (x :: t).getD (k + 1) 0 := by
          rw [List.getD_eq_getElem?_getD, List.getD_eq_getElem?_getD, List.getElem?_append_left (by omega)]; simp
        rw [e1, this]
        congr 1
        by_cases e2 : k + 1 = t.length
        · rw [show k + 1 + 1 = t.length + 1 by omega, Nat.mod_self, Nat.mod_eq_of_lt (by omega), e2]
          simp
        · rw [Nat.mod_eq_of_lt (by omega), Nat.mod_eq_of_lt (by omega)]
          rw [List.getD_eq_getElem?_getD, List.getD_eq_getElem?_getD, List.getElem?_append_left (by omega)]; simp
    · rw [diffB_iff] at h4 ⊢
      rw [List.map_append]
      rw [List.map_cons, List.nodup_cons] at h4
      rw [List.nodup_append]
      refine ⟨h4.2, by simp, ?_⟩
      intro a ha b hb
      simp at hb
      subst hb
      rintro rfl
      exact h4.1 ha
  · unfold dlS
    rw [smK_snoc]
    show _ = smK (dlI l) (x :: t) (t.length + 1)
    rw [smK_cons]; omega
  · unfold tkS
    rw [smK_snoc]
    show _ = smK (tkI l) (x :: t) (t.length + 1)
    rw [smK_cons]; omega
end M
end Go.Proofs.YtlofnadpgnbmdaaGreat

namespace Go.Proofs.YtlofnadpgnbmdaaGreat
namespace M
/-- A place weighs at most the greatest weight between its events. -/
theorem wtF_ge {f : Int × Int × Int × Int → Int} {l : List (Int × Int × Int × Int)} {k i j : Nat} (hk : k < l.length) (h1 : (l.getD k plz).2.1 = (i : Int)) (h2 : (l.getD k plz).1 = (j : Int)) : f (l.getD k plz) ≤ wtF f l i j := by
  have hg : ∀ (r : List (Int × Int × Int × Int)) (m : Int), m ≤ r.foldl (wtS f i j) m := by
    intro r
    induction r with
    | nil => intro m; exact Int.le_refl _
    | cons p r ih =>
      intro m
      refine Int.le_trans ?_ (ih _)
      unfold wtS
      split <;> omega
  have e : wtF f l i j = (l.drop (k + 1)).foldl (wtS f i j) (wtF f (l.take (k + 1)) i j) := by
    unfold wtF
    rw [← List.foldl_append, List.take_append_drop]
  rw [e]
  refine Int.le_trans ?_ (hg _ _)
  rw [wtF_next f l hk i j]
  show _ ≤ wtS f i j _ (l.getD k plz)
  unfold wtS
  rw [if_pos ⟨h1, h2⟩]
  omega
/-- The events that a circuit passes. -/
def cirV (l : List (Int × Int × Int × Int)) (c : List Int) (u : Nat) : Nat := (frI l (c.getD (u % c.length) 0)).toNat
theorem cir_walk {l : List (Int × Int × Int × Int)} {N : Nat} (he : evOk l N) {c : List Int} (h : cirB l c = true) :
    cirV l c c.length = cirV l c 0 ∧ (∀ u, u ≤ c.length → cirV l c u < N) ∧ ∀ u, u < c.length → toI l (c.getD u 0) = (cirV l c (u + 1) : Int) ∧ frI l (c.getD u 0) = (cirV l c u : Int) := by
  obtain ⟨h1, h2, h3, h4⟩ := cir_t h
  refine ⟨by unfold cirV; rw [Nat.mod_self, Nat.zero_mod], fun u _ => ?_, fun u hu => ?_⟩
  · have := ev_at he h2 (Nat.mod_lt u (by omega : c.length > 0))
    unfold cirV; omega
  · have e := chn_t h3 hu
    have a := ev_at he h2 (Nat.mod_lt (u + 1) (by omega : c.length > 0))
    have b := ev_at he h2 (k := u) hu
    unfold cirV
    rw [Nat.mod_eq_of_lt hu]
    omega
theorem smK_nn {f : Int → Int} {c : List Int} (h : ∀ k, k < c.length → 0 ≤ f (c.getD k 0)) (k : Nat) (hk : k ≤ c.length) : 0 ≤ smK f c k := by
  induction k with
  | zero => exact Int.le_refl _
  | succ k ih => have := ih (by omega); have := h k (by omega); show 0 ≤ smK f c k + _; omega
theorem smK_zero {f : Int → Int} {c : List Int} (h : ∀ k, k < c.length → 0 ≤ f (c.getD k 0)) (k : Nat) (hk : k ≤ c.length) (hz : smK f c k ≤ 0) : ∀ u, u < k → f (c.getD u 0) = 0 := by
  induction k with
  | zero => intro u hu; omega
  | succ k ih =>
    have hz : smK f c k + f (c.getD k 0) ≤ 0 := hz
    have h0 := h k (by omega)
    have h1 := smK_nn h k (by omega)
    intro u hu
    by_cases e : u = k
    · subst e; omega
    · exact ih (by omega) (by omega) u (by omega)
/-- Circuits of a live graph have tokens. -/
theorem cir_live {l : List (Int × Int × Int × Int)} {N : Nat} (he : evOk l N) (hL : liveB (wtF fOne l) N = true) {c : List Int} (h : cirB l c = true) : 1 ≤ tkS l c := by
  obtain ⟨h1, h2, h3, h4⟩ := cir_t h
  obtain ⟨w1, w2, w3⟩ := cir_walk he h
  by_cases hz : tkS l c ≤ 0
  · exfalso
    have hz := smK_zero (f := tkI l) (c := c) (fun k hk => (ev_at he h2 hk).2.2.2.2.2.2.1) c.length (Nat.le_refl _) hz
    have ho := ord_walk (A := wtF fOne l) (n := N) (v := cirV l c) (s := c.length) h1 w1 w2 (fun u hu e => by
      obtain ⟨a1, a2⟩ := w3 u hu
      have hb := nodesB_at h2 hu
      have hg := wtF_ge (f := fOne) (l := l) (k := (c.getD u 0).toNat) (i := cirV l c (u + 1)) (j := cirV l c u) (by omega) a1 a2
      have hz' : (l.getD (c.getD u 0).toNat plz).2.2.2 = 0 := hz u hu
      unfold fOne at hg
      rw [hz', if_neg (by omega)] at hg
      unfold fOne at e
      omega) N 0 (Nat.zero_le _)
    have hl := (ord_nodes (wtF fOne l) N N)
    unfold liveB at hL
    rw [ord_all hl.1 hl.2.1 (of_decide_eq_true hL) (w2 0 (Nat.zero_le _))] at ho
    exact absurd ho (by simp)
  · omega
/-- The last place of a path. -/
def lstI (p : List Int) : Int := p.getD (p.length - 1) 0
/-- Whether a place leads on from a path that has not come back yet. -/
def okC (l : List (Int × Int × Int × Int)) (p : List Int) (i : Nat) : Bool :=
  decide (frI l i = toI l (lstI p)) && (decide (frI l (p.getD 0 0) ≤ toI l i) && !hasB (p.map (toI l)) (toI l i))
/-- The written circuits that begin with a path, the smaller ones first. -/
def extC (l : List (Int × Int × Int × Int)) : Nat → List Int → List (List Int)
  | 0, _ => []
  | f + 1, p => if toI l (lstI p) = frI l (p.getD 0 0) then [p] else (List.range l.length).flatMap fun i : Nat => if okC l p i then extC l f (p ++ [(i : Int)]) else []
def allC (l : List (Int × Int × Int × Int)) (N : Nat) : List (List Int) := (List.range l.length).flatMap fun i : Nat => if frI l i ≤ toI l i then extC l N [(i : Int)] else []
/-- A path of places that can still become a written circuit. -/
def PthC (l : List (Int × Int × Int × Int)) (p : List Int) : Prop :=
  1 ≤ p.length ∧ nodesB l.length p = true ∧ (∀ k, k + 1 < p.length → toI l (p.getD k 0) = frI l (p.getD (k + 1) 0)) ∧ diffB (p.map (toI l)) = true ∧ (∀ k, k < p.length → frI l (p.getD 0 0) ≤ toI l (p.getD k 0)) ∧ (∀ k, k + 1 < p.length → toI l (p.getD k 0) ≠ frI l (p.getD 0 0))
theorem getD_app_l {p : List Int} {x : Int} {k : Nat} (hk : k < p.length) : (p ++ [x]).getD k 0 = p.getD k 0 := by
  rw [List.getD_eq_getElem?_getD, List.getD_eq_getElem?_getD, List.getElem?_append_left hk]
theorem getD_app_e (p : List Int) (x : Int) : (p ++ [x]).getD p.length 0 = x := by simp
theorem lst_snoc (p : List Int) (x : Int) : lstI (p ++ [x]) = x := by unfold lstI; simp
theorem pth_one {l : List (Int × Int × Int × Int)} {i : Nat} (hi : i < l.length) (h : frI l i ≤ toI l i) : PthC l [(i : Int)] := by
  refine ⟨by simp, ?_, fun k hk => ?_, ?_, fun k hk => ?_, fun k hk => ?_⟩
  · simp [nodesB, inN]; omega
  · simp at hk
  · exact diffB_of (fun q hq => by simp at hq; subst hq; rfl)
  · simp at hk; subst hk; exact h
  · simp at hk
theorem pth_snoc {l : List (Int × Int × Int × Int)} {p : List Int} (h : PthC l p) (hne : toI l (lstI p) ≠ frI l (p.getD 0 0)) {i : Nat} (hi : i < l.length) (hok : okC l p i = true) : PthC l (p ++ [(i : Int)]) := by
  obtain ⟨h1, h2, h3, h4, h5, h6⟩ := h
  unfold okC at hok
  simp only [Bool.and_eq_true, decide_eq_true_eq, Bool.not_eq_true'] at hok
  obtain ⟨o1, o2, o3⟩ := hok
  have z : (p ++ [(i : Int)]).getD 0 0 = p.getD 0 0 := getD_app_l (by omega)
  refine ⟨by simp, nodesB_snoc h2 hi, fun k hk => ?_, ?_, fun k hk => ?_, fun k hk => ?_⟩
  · simp at hk
    rw [getD_app_l (by omega)]
    by_cases e : k + 1 = p.length
    · rw [e, getD_app_e, o1]; unfold lstI; rw [← e, Nat.add_sub_cancel]
    · rw [getD_app_l (by omega)]; exact h3 k (by omega)
  · rw [List.map_append]
    exact diffB_snoc h4 o3
  · simp at hk
    rw [z]
    by_cases e : k = p.length
    · rw [e, getD_app_e]; exact o2
    · rw [getD_app_l (by omega)]; exact h5 k (by omega)
  · simp at hk
    rw [z, getD_app_l (by omega)]
    by_cases e : k + 1 = p.length
    · have : lstI p = p.getD k 0 := by unfold lstI; rw [← e, Nat.add_sub_cancel]
      rw [← this]; exact hne
    · exact h6 k (by omega)
theorem pth_len {l : List (Int × Int × Int × Int)} {N : Nat} (he : evOk l N) {p : List Int} (h : PthC l p) : p.length ≤ N := by
  have := diffB_len (nodes_map_to he h.2.1) h.2.2.2.1
  simpa using this
/-- A path that has come back is a circuit, written from its least event on. -/
theorem pth_cir {l : List (Int × Int × Int × Int)} {p : List Int} (h : PthC l p) (he : toI l (lstI p) = frI l (p.getD 0 0)) : cirB l p = true ∧ ∀ k, k < p.length → frI l (p.getD 0 0) ≤ frI l (p.getD k 0) := by
  obtain ⟨h1, h2, h3, h4, h5, h6⟩ := h
  have hc : ∀ k, k < p.length → frI l (p.getD k 0) = toI l (p.getD (prv p.length k) 0) := fun k hk => by
    unfold prv
    by_cases e : k = 0
    · rw [if_pos e]; subst e; exact he.symm
    · rw [if_neg e]
      have := h3 (k - 1) (by omega)
      rw [show k - 1 + 1 = k by omega] at this
      exact this.symm
  refine ⟨?_, fun k hk => ?_⟩
  · unfold cirB
    simp only [Bool.and_eq_true, decide_eq_true_eq]
    refine ⟨h1, h2, chn_prv hc, ?_⟩
    refine diffB_of fun i hi => ?_
    simp at hi
    cases e : hasB ((p.map (frI l)).take i) ((p.map (frI l)).getD i 0) with
    | false => rfl
    | true =>
      exfalso
      rw [hasB_iff] at e
      obtain ⟨a, ha, hx⟩ := List.mem_iff_getElem.1 e
      simp at ha
      rw [List.getElem_take, List.getElem_map, map_getD _ hi] at hx
      have ha' : frI l (p.getD a 0) = frI l (p.getD i 0) := by
        rw [List.getD_eq_getElem?_getD, List.getElem?_eq_getElem (by omega)]; exact hx
      rw [hc a (by omega), hc i hi] at ha'
      have key : ∀ x y, x < y → y < p.length → toI l (p.getD x 0) ≠ toI l (p.getD y 0) := fun x y hxy hy e2 => by
        have := diffB_t h4 (i := y) (by simpa using hy)
        rw [map_getD _ hy, ← e2] at this
        have hm : hasB ((p.map (toI l)).take y) (toI l (p.getD x 0)) = true := by
          rw [hasB_iff, ← map_getD (toI l) (show x < p.length by omega), List.getD_eq_getElem?_getD, List.getElem?_eq_getElem (by simp; omega)]
          exact List.mem_iff_getElem.2 ⟨x, by simp; omega, by rw [List.getElem_take]; rfl⟩
        rw [hm] at this; cases this
      have p1 := (prv_step (n := p.length) (k := a) (by omega))
      have p2 := (prv_step (n := p.length) (k := i) hi)
      have hne : prv p.length a ≠ prv p.length i := fun q => by
        have := p1.2; rw [q, p2.2] at this; omega
      rcases Nat.lt_or_gt_of_ne hne with q | q
      · exact key _ _ q p2.1 ha'
      · exact key _ _ q p1.1 ha'.symm
  · rw [hc k hk]
    exact h5 _ (prv_step hk).1
theorem ext_mem {l : List (Int × Int × Int × Int)} (f : Nat) : ∀ p, PthC l p → ∀ c ∈ extC l f p, cirB l c = true ∧ ∀ k, k < c.length → frI l (c.getD 0 0) ≤ frI l (c.getD k 0) := by
  induction f with
  | zero => intro p _ c hc; cases hc
  | succ f ih =>
    intro p hp c hc
    unfold extC at hc
    by_cases e : toI l (lstI p) = frI l (p.getD 0 0)
    · rw [if_pos e] at hc
      obtain rfl := List.mem_singleton.1 hc
      exact pth_cir hp e
    · rw [if_neg e, List.mem_flatMap] at hc
      obtain ⟨i, hi, hc⟩ := hc
      by_cases ho : okC l p i = true
      · rw [if_pos ho] at hc
        exact ih _ (pth_snoc hp e (List.mem_range.1 hi) ho) c hc
      · rw [if_neg ho] at hc; cases hc
/-- Every list of the search is a written circuit. -/
theorem all_mem {l : List (Int × Int × Int × Int)} {N : Nat} {c : List Int} (hc : c ∈ allC l N) : cirB l c = true ∧ ∀ k, k < c.length → frI l (c.getD 0 0) ≤ frI l (c.getD k 0) := by
  unfold allC at hc
  rw [List.mem_flatMap] at hc
  obtain ⟨i, hi, hc⟩ := hc
  by_cases ho : frI l i ≤ toI l i
  · rw [if_pos ho] at hc
    exact ext_mem N _ (pth_one (List.mem_range.1 hi) ho) c hc
  · rw [if_neg ho] at hc; cases hc
end M
end Go.Proofs.YtlofnadpgnbmdaaGreat

namespace Go.Proofs.YtlofnadpgnbmdaaGreat
namespace M
theorem getD_take {c : List Int} {m k : Nat} (h : k < m) : (c.take m).getD k 0 = c.getD k 0 := by
  rw [List.getD_eq_getElem?_getD, List.getD_eq_getElem?_getD, List.getElem?_take_of_lt h]
theorem nodup_from {l : List (Int × Int × Int × Int)} {c : List Int} (h : cirB l c = true) {a b : Nat} (ha : a < c.length) (hb : b < c.length) (e : frI l (c.getD a 0) = frI l (c.getD b 0)) : a = b := by
  obtain ⟨h1, h2, h3, h4⟩ := cir_t h
  have key : ∀ x y, x < y → y < c.length → frI l (c.getD x 0) ≠ frI l (c.getD y 0) := fun x y hxy hy e2 => by
    have := diffB_t h4 (i := y) (by simpa using hy)
    rw [map_getD _ hy, ← e2] at this
    have hm : hasB ((c.map (frI l)).take y) (frI l (c.getD x 0)) = true := by
      rw [hasB_iff, ← map_getD (frI l) (show x < c.length by omega), List.getD_eq_getElem?_getD, List.getElem?_eq_getElem (by simp; omega)]
      exact List.mem_iff_getElem.2 ⟨x, by simp; omega, by rw [List.getElem_take]; rfl⟩
    rw [hm] at this; cases this
  rcases Nat.lt_trichotomy a b with q | q | q
  · exact absurd e (key a b q hb)
  · exact q
  · exact absurd e.symm (key b a q ha)
theorem ext_all {l : List (Int × Int × Int × Int)} {c : List Int} (h : cirB l c = true) (hw : ∀ k, k < c.length → frI l (c.getD 0 0) ≤ frI l (c.getD k 0)) (d : Nat) : ∀ k f, 1 ≤ k → k + d = c.length → d < f → c ∈ extC l f (c.take k) := by
  obtain ⟨h1, h2, h3, h4⟩ := cir_t h
  induction d with
  | zero =>
    intro k f hk hd hf
    obtain ⟨f, rfl⟩ : ∃ g, f = g + 1 := ⟨f - 1, by omega⟩
    have hkl : k = c.length := by omega
    have e1 : c.take k = c := List.take_of_length_le (by omega)
    rw [e1]
    unfold extC
    have e2 : toI l (lstI c) = frI l (c.getD 0 0) := by
      have := chn_t h3 (k := c.length - 1) (by omega)
      rw [show c.length - 1 + 1 = c.length by omega, Nat.mod_self] at this
      exact this
    rw [if_pos e2]
    exact List.mem_singleton.2 rfl
  | succ d ih =>
    intro k f hk hd hf
    obtain ⟨f, rfl⟩ : ∃ g, f = g + 1 := ⟨f - 1, by omega⟩
    have hlen : (c.take k).length = k := by simp; omega
    have e0 : (c.take k).getD 0 0 = c.getD 0 0 := getD_take (by omega)
    have el : lstI (c.take k) = c.getD (k - 1) 0 := by unfold lstI; rw [hlen]; exact getD_take (by omega)
    have hto : toI l (c.getD (k - 1) 0) = frI l (c.getD k 0) := by
      have := chn_t h3 (k := k - 1) (by omega)
      rw [show k - 1 + 1 = k by omega, Nat.mod_eq_of_lt (by omega)] at this
      exact this
    unfold extC
    rw [e0, el, hto, if_neg (fun e => by have := nodup_from h (a := k) (b := 0) (by omega) (by omega) e; omega)]
    rw [List.mem_flatMap]
    have hb := nodesB_at h2 (k := k) (by omega)
    refine ⟨(c.getD k 0).toNat, List.mem_range.2 (by omega), ?_⟩
    have hc : (((c.getD k 0).toNat : Nat) : Int) = c.getD k 0 := by omega
    have hok : okC l (c.take k) (c.getD k 0).toNat = true := by
      unfold okC
      simp only [Bool.and_eq_true, decide_eq_true_eq, Bool.not_eq_true']
      rw [hc, el, e0]
      refine ⟨hto.symm, ?_, ?_⟩
      · have := chn_t h3 (k := k) (by omega)
        rw [this]
        exact hw _ (Nat.mod_lt _ (by omega))
      · cases e : hasB ((c.take k).map (toI l)) (toI l (c.getD k 0)) with
        | false => rfl
        | true =>
          exfalso
          rw [hasB_iff] at e
          obtain ⟨a, ha, hx⟩ := List.mem_iff_getElem.1 e
          simp at ha
          rw [List.getElem_map, List.getElem_take] at hx
          have hx : toI l (c.getD a 0) = toI l (c.getD k 0) := by
            rw [List.getD_eq_getElem?_getD, List.getElem?_eq_getElem (by omega)]; exact hx
          have a1 := chn_t h3 (k := a) (by omega)
          have a2 := chn_t h3 (k := k) (by omega)
          rw [a1, a2] at hx
          have := nodup_from h (Nat.mod_lt _ (by omega)) (Nat.mod_lt _ (by omega)) hx
          rw [Nat.mod_eq_of_lt (show a + 1 < c.length by omega)] at this
          by_cases q : k + 1 = c.length
          · rw [q, Nat.mod_self] at this; omega
          · rw [Nat.mod_eq_of_lt (by omega)] at this; omega
    rw [if_pos hok, hc]
    have e3 : c.take k ++ [c.getD k 0] = c.take (k + 1) := (take_snoc c k (by omega)).symm
    rw [e3]
    exact ih (k + 1) f (by omega) (by omega) (by omega)
/-- Each written circuit is found. -/
theorem all_has {l : List (Int × Int × Int × Int)} {N : Nat} (he : evOk l N) {c : List Int} (h : cirB l c = true) (hw : ∀ k, k < c.length → frI l (c.getD 0 0) ≤ frI l (c.getD k 0)) : c ∈ allC l N := by
  have hl := cir_len he h
  obtain ⟨h1, h2, h3, h4⟩ := cir_t h
  unfold allC
  rw [List.mem_flatMap]
  have hb := nodesB_at h2 (k := 0) (by omega)
  have hc : (((c.getD 0 0).toNat : Nat) : Int) = c.getD 0 0 := by omega
  refine ⟨(c.getD 0 0).toNat, List.mem_range.2 (by omega), ?_⟩
  have hle : frI l (c.getD 0 0) ≤ toI l (c.getD 0 0) := by
    rw [chn_t h3 (k := 0) (by omega)]
    exact hw _ (Nat.mod_lt _ (by omega))
  rw [hc, if_pos hle]
  have e : [c.getD 0 0] = c.take 1 := by
    have := take_snoc c 0 (by omega)
    simpa using this.symm
  rw [e]
  exact ext_all h hw (c.length - 1) 1 N (Nat.le_refl _) (by omega) (by omega)
/-- A circuit may begin anywhere. -/
theorem cir_rot {l : List (Int × Int × Int × Int)} {c : List Int} (h : cirB l c = true) (m : Nat) (hm : m ≤ c.length) : cirB l (c.drop m ++ c.take m) = true ∧ dlS l (c.drop m ++ c.take m) = dlS l c ∧ tkS l (c.drop m ++ c.take m) = tkS l c := by
  induction m with
  | zero => simp [h]
  | succ m ih =>
    obtain ⟨h1, h2, h3⟩ := ih (by omega)
    have hm' : m < c.length := by omega
    have e1 : c.drop m ++ c.take m = c.getD m 0 :: (c.drop (m + 1) ++ c.take m) := by
      rw [List.drop_eq_getElem_cons hm', List.getD_eq_getElem?_getD, List.getElem?_eq_getElem hm']; rfl
    have e2 : c.drop (m + 1) ++ c.take (m + 1) = (c.drop (m + 1) ++ c.take m) ++ [c.getD m 0] := by
      rw [take_snoc c m hm', List.append_assoc]
    rw [e1] at h1 h2 h3
    rw [e2]
    obtain ⟨g1, g2, g3⟩ := cir_turn h1
    exact ⟨g1, g2.trans h2, g3.trans h3⟩
theorem exists_least {f : Nat → Int} (n : Nat) (hn : 0 < n) : ∃ m, m < n ∧ ∀ k, k < n → f m ≤ f k := by
  induction n with
  | zero => omega
  | succ n ih =>
    by_cases h0 : n = 0
    · subst h0
      exact ⟨0, by omega, fun k hk => by have : k = 0 := by omega
                                         subst this; exact Int.le_refl _⟩
    · obtain ⟨m, h1, h2⟩ := ih (by omega)
      by_cases q : f m ≤ f n
      · refine ⟨m, by omega, fun k hk => ?_⟩
        by_cases e : k = n
        · subst e; exact q
        · exact h2 k (by omega)
      · refine ⟨n, by omega, fun k hk => ?_⟩
        by_cases e : k = n
        · subst e; exact Int.le_refl _
        · have := h2 k (by omega); omega
/-- Each circuit has a written one with the same sums. -/
theorem cir_written {l : List (Int × Int × Int × Int)} {N : Nat} (he : evOk l N) {c : List Int} (h : cirB l c = true) : ∃ c', c' ∈ allC l N ∧ dlS l c' = dlS l c ∧ tkS l c' = tkS l c := by
  have h1 := (cir_t h).1
  obtain ⟨m, hm, hl⟩ := exists_least (f := fun k => frI l (c.getD k 0)) c.length h1
  obtain ⟨g1, g2, g3⟩ := cir_rot h m (by omega)
  refine ⟨_, all_has he g1 (fun k hk => ?_), g2, g3⟩
  have e0 : (c.drop m ++ c.take m).getD 0 0 = c.getD m 0 := by
    rw [List.getD_eq_getElem?_getD, List.getD_eq_getElem?_getD, List.getElem?_append_left (by simp; omega), List.getElem?_drop]; rfl
  rw [e0]
  have hk' : k < c.length := by simp at hk; omega
  by_cases q : k < (c.drop m).length
  · have : (c.drop m ++ c.take m).getD k 0 = c.getD (m + k) 0 := by
      rw [List.getD_eq_getElem?_getD, List.getD_eq_getElem?_getD, List.getElem?_append_left q, List.getElem?_drop]
    rw [this]
    simp at q
    exact hl _ (by omega)
  · have : (c.drop m ++ c.take m).getD k 0 = c.getD (k - (c.drop m).length) 0 := by
      rw [List.getD_eq_getElem?_getD, List.getD_eq_getElem?_getD, List.getElem?_append_right (by omega), List.getElem?_take_of_lt (by simp at q ⊢; omega)]
    rw [this]
    exact hl _ (by simp at q ⊢; omega)
end M
end Go.Proofs.YtlofnadpgnbmdaaGreat

namespace Go.Proofs.YtlofnadpgnbmdaaGreat
namespace M
/-- a / x < b / y. -/
theorem q_lt_le {a b c x y z : Int} (hx : 0 < x) (hy : 0 < y) (hz : 0 < z) (h1 : a * y < b * x) (h2 : b * z ≤ c * y) : a * z < c * x := by
  by_cases h : c * x ≤ a * z
  · exfalso
    have e1 : c * x * y ≤ a * z * y := Int.mul_le_mul_of_nonneg_right h (by omega)
    have e2 : a * y * z < b * x * z := Int.mul_lt_mul_of_pos_right h1 hz
    have e3 : b * z * x ≤ c * y * x := Int.mul_le_mul_of_nonneg_right h2 (by omega)
    rw [Int.mul_right_comm a z y] at e1
    rw [Int.mul_right_comm b z x, Int.mul_right_comm c y x] at e3
    omega
  · omega
theorem q_le_lt {a b c x y z : Int} (hx : 0 < x) (hy : 0 < y) (hz : 0 < z) (h1 : a * y ≤ b * x) (h2 : b * z < c * y) : a * z < c * x := by
  by_cases h : c * x ≤ a * z
  · exfalso
    have e1 : c * x * y ≤ a * z * y := Int.mul_le_mul_of_nonneg_right h (by omega)
    have e2 : a * y * z ≤ b * x * z := Int.mul_le_mul_of_nonneg_right h1 (by omega)
    have e3 : b * z * x < c * y * x := Int.mul_lt_mul_of_pos_right h2 hx
    rw [Int.mul_right_comm a z y] at e1
    rw [Int.mul_right_comm b z x, Int.mul_right_comm c y x] at e3
    omega
  · omega
theorem q_le_le {a b c x y z : Int} (hx : 0 < x) (hy : 0 < y) (hz : 0 < z) (h1 : a * y ≤ b * x) (h2 : b * z ≤ c * y) : a * z ≤ c * x := by
  by_cases h : c * x < a * z
  · exfalso
    have e1 : c * x * y < a * z * y := Int.mul_lt_mul_of_pos_right h hy
    have e2 : a * y * z ≤ b * x * z := Int.mul_le_mul_of_nonneg_right h1 (by omega)
    have e3 : b * z * x ≤ c * y * x := Int.mul_le_mul_of_nonneg_right h2 (by omega)
    rw [Int.mul_right_comm a z y] at e1
    rw [Int.mul_right_comm b z x, Int.mul_right_comm c y x] at e3
    omega
  · omega
/-- Whether a circuit has a greater ratio than another. -/
def gtC (l : List (Int × Int × Int × Int)) (c b : List Int) : Bool := decide (dlS l b * tkS l c < dlS l c * tkS l b)
/-- What a circuit has more than a ratio allows. -/
def exC (l : List (Int × Int × Int × Int)) (r : Int × Int) (c : List Int) : Int := r.2 * dlS l c - r.1 * tkS l c
theorem mul_lt_iff {a b p : Int} (hp : 0 < p) : a * p < b * p ↔ a < b := by
  constructor
  · intro h
    by_cases q : a < b
    · exact q
    · have := Int.mul_le_mul_of_nonneg_right (show b ≤ a by omega) (show 0 ≤ p by omega)
      omega
  · intro h
    exact Int.mul_lt_mul_of_pos_right h hp
/-- Comparing reduced ratios is comparing by products. -/
theorem gt_rat {d m e n : Int} (hm : 0 < m) (hn : 0 < n) : ratN d m * ratD e n > ratN e n * ratD d m ↔ e * m < d * n := by
  have b1 := rat_back (n := d) (d := m) (by omega)
  have b2 := rat_back (n := e) (d := n) (by omega)
  have p1 := rat_pos (n := d) (d := m) (by omega)
  have p2 := rat_pos (n := e) (d := n) (by omega)
  generalize ratN d m = N1 at *
  generalize ratD d m = D1 at *
  generalize ratN e n = N2 at *
  generalize ratD e n = D2 at *
  have hmn : 0 < m * n := Int.mul_pos hm hn
  have hD : 0 < D1 * D2 := Int.mul_pos (by omega) (by omega)
  rw [gt_iff_lt, ← mul_lt_iff hmn, ← mul_lt_iff (a := e * m) hD]
  have e1 : N2 * D1 * (m * n) = e * m * (D1 * D2) := by
    calc N2 * D1 * (m * n) = (N2 * n) * (m * D1) := by ac_rfl
      _ = (e * D2) * (m * D1) := by rw [b2]
      _ = e * m * (D1 * D2) := by ac_rfl
  have e2 : N1 * D2 * (m * n) = d * n * (D1 * D2) := by
    calc N1 * D2 * (m * n) = (N1 * m) * (n * D2) := by ac_rfl
      _ = (d * D1) * (n * D2) := by rw [b1]
      _ = d * n * (D1 * D2) := by ac_rfl
  rw [e1, e2]
theorem ex_rat {d m e n : Int} (hm : 0 < m) : (0 < ratD d m * e - ratN d m * n ↔ d * n < e * m) ∧ (-1 < ratD d m * e - ratN d m * n ↔ d * n ≤ e * m) := by
  have b1 := rat_back (n := d) (d := m) (by omega)
  have p1 := rat_pos (n := d) (d := m) (by omega)
  generalize ratN d m = N1 at *
  generalize ratD d m = D1 at *
  have e1 : N1 * n * m = d * n * D1 := by
    calc N1 * n * m = (N1 * m) * n := by ac_rfl
      _ = (d * D1) * n := by rw [b1]
      _ = d * n * D1 := by ac_rfl
  have e2 : D1 * e * m = e * m * D1 := by ac_rfl
  have k1 : N1 * n < D1 * e ↔ d * n < e * m := by rw [← mul_lt_iff hm, e1, e2, mul_lt_iff (by omega)]
  have k2 : D1 * e < N1 * n ↔ e * m < d * n := by rw [← mul_lt_iff hm, e1, e2, mul_lt_iff (by omega)]
  omega
/-- One more circuit: the better one of both, the older one if they are as good. -/
def bstS (l : List (Int × Int × Int × Int)) (b c : List Int) : List Int := if b = [] then c else if gtC l c b then c else b
def bstL (l : List (Int × Int × Int × Int)) (cs : List (List Int)) : List Int := cs.foldl (bstS l) []
theorem bst_snoc (l : List (Int × Int × Int × Int)) (cs : List (List Int)) (c : List Int) : bstL l (cs ++ [c]) = bstS l (bstL l cs) c := by unfold bstL; rw [List.foldl_append]; rfl
/-- Lists that the search may give. -/
def Posi (l : List (Int × Int × Int × Int)) (L : List (List Int)) : Prop := ∀ c ∈ L, c ≠ [] ∧ 0 < tkS l c ∧ 0 ≤ dlS l c
theorem bst_spec {l : List (Int × Int × Int × Int)} (L : List (List Int)) (hL : Posi l L) (hne : L ≠ []) :
    ∃ pre post, L = pre ++ bstL l L :: post ∧ (∀ c ∈ pre, dlS l c * tkS l (bstL l L) < dlS l (bstL l L) * tkS l c) ∧ ∀ c ∈ post, dlS l c * tkS l (bstL l L) ≤ dlS l (bstL l L) * tkS l c := by
  suffices H : ∀ (R P : List (List Int)), L = P ++ R → P ≠ [] → (∃ pre post, P = pre ++ bstL l P :: post ∧ (∀ c ∈ pre, dlS l c * tkS l (bstL l P) < dlS l (bstL l P) * tkS l c) ∧ ∀ c ∈ post, dlS l c * tkS l (bstL l P) ≤ dlS l (bstL l P) * tkS l c) →
      ∃ pre post, L = pre ++ bstL l L :: post ∧ (∀ c ∈ pre, dlS l c * tkS l (bstL l L) < dlS l (bstL l L) * tkS l c) ∧ ∀ c ∈ post, dlS l c * tkS l (bstL l L) ≤ dlS l (bstL l L) * tkS l c by
    cases L with
    | nil => exact absurd rfl hne
    | cons c R =>
      refine H R [c] rfl (by simp) ⟨[], [], ?_, ?_, ?_⟩
      · rfl
      · intro c hc; cases hc
      · intro c hc; cases hc
  intro R
  induction R with
  | nil => intro P hP _ h; rw [List.append_nil] at hP; subst hP; exact h
  | cons x R ih =>
    intro P hP hPn h
    refine ih (P ++ [x]) (by rw [hP, List.append_assoc]; rfl) (by simp) ?_
    obtain ⟨pre, post, h1, h2, h3⟩ := h
    rw [bst_snoc]
    obtain ⟨b, hb⟩ : ∃ b, b = bstL l P := ⟨_, rfl⟩
    rw [← hb] at h1 h2 h3 ⊢
    have hin : ∀ c ∈ P, c ≠ [] ∧ 0 < tkS l c ∧ 0 ≤ dlS l c := fun c hc => hL c (by rw [hP]; exact List.mem_append_left _ hc)
    have hbP : b ∈ P := by rw [h1]; simp
    have hx := hL x (by rw [hP]; simp)
    have hbb := hin b hbP
    unfold bstS
    rw [if_neg hbb.1]
    cases e : gtC l x b with
    | true =>
      unfold gtC at e
      simp only [decide_eq_true_eq] at e
      rw [if_pos rfl]
      refine ⟨P, [], rfl, fun c hc => ?_, fun c hc => by cases hc⟩
      have hcc := hin c hc
      rw [h1, List.mem_append, List.mem_cons] at hc
      rcases hc with hc | rfl | hc
      · exact q_lt_le hcc.2.1 hbb.2.1 hx.2.1 (h2 c hc) (Int.le_of_lt e)
      · exact e
      · exact q_le_lt hcc.2.1 hbb.2.1 hx.2.1 (h3 c hc) e
    | false =>
      unfold gtC at e
      simp only [decide_eq_false_iff_not, Int.not_lt] at e
      rw [if_neg (by simp)]
      refine ⟨pre, post ++ [x], by rw [h1]; simp, h2, fun c hc => ?_⟩
      rcases List.mem_append.1 hc with hc | hc
      · exact h3 c hc
      · rw [List.mem_singleton.1 hc]; exact e
/-- The first list of a kind, or none. -/
def fndC (P : List Int → Bool) (L : List (List Int)) : List Int := (L.find? P).getD []
theorem fnd_none {P : List Int → Bool} {L : List (List Int)} (hL : ∀ c ∈ L, c ≠ []) (h : fndC P L = []) : ∀ c ∈ L, P c = false := by
  intro c hc
  cases e : L.find? P with
  | none => simpa using (List.find?_eq_none.1 e) c hc
  | some x =>
    unfold fndC at h
    rw [e] at h
    exact absurd h (hL x (List.mem_of_find?_eq_some e))
theorem fnd_some {P : List Int → Bool} {L : List (List Int)} (h : fndC P L ≠ []) : fndC P L ∈ L ∧ P (fndC P L) = true := by
  unfold fndC at h ⊢
  cases e : L.find? P with
  | none => rw [e] at h; exact absurd rfl h
  | some x => exact ⟨List.mem_of_find?_eq_some e, List.find?_some e⟩
theorem fnd_flat {P : List Int → Bool} {h : Nat → List (List Int)} (hL : ∀ i, ∀ c ∈ h i, c ≠ []) (n : Nat) : ∀ k, fndC P ((List.range' k n).flatMap h) = pick (fun i => fndC P (h i)) n k := by
  induction n with
  | zero => intro k; rfl
  | succ n ih =>
    intro k
    rw [List.range'_succ, List.flatMap_cons]
    show (List.find? P _).getD [] = if (fndC P (h k)).length = 0 then pick (fun i => fndC P (h i)) n (k + 1) else fndC P (h k)
    rw [List.find?_append]
    cases e : (h k).find? P with
    | none =>
      have e2 : fndC P (h k) = [] := by unfold fndC; rw [e]; rfl
      rw [e2, if_pos (show ([] : List Int).length = 0 from rfl), ← ih (k + 1)]
      rfl
    | some x =>
      have e2 : fndC P (h k) = x := by unfold fndC; rw [e]; rfl
      rw [e2, if_neg (fun q => hL k x (List.mem_of_find?_eq_some e) (List.eq_nil_of_length_eq_zero q))]
      rfl
/-- How many circuits have a greater ratio. -/
def muC (l : List (Int × Int × Int × Int)) (L : List (List Int)) (q : List Int) : Nat := (L.filter fun c => gtC l c q).length
theorem filter_lt {P Q : List Int → Bool} {L : List (List Int)} (h : ∀ c ∈ L, P c = true → Q c = true) {p : List Int} (hp : p ∈ L) (h1 : Q p = true) (h2 : P p = false) : (L.filter P).length < (L.filter Q).length := by
  have hle : ∀ (R : List (List Int)), (∀ c ∈ R, P c = true → Q c = true) → (R.filter P).length ≤ (R.filter Q).length := by
    intro R
    induction R with
    | nil => intro _; exact Nat.le_refl _
    | cons x R ih =>
      intro h
      have := ih (fun c hc => h c (List.mem_cons_of_mem _ hc))
      have hx := h x List.mem_cons_self
      rw [List.filter_cons, List.filter_cons]
      cases e : P x with
      | true => rw [hx e]; simp; exact this
      | false => cases Q x <;> simp <;> omega
  induction L with
  | nil => cases hp
  | cons x L ih =>
    have hx := h x List.mem_cons_self
    have hr := fun c hc => h c (List.mem_cons_of_mem _ hc)
    rw [List.filter_cons, List.filter_cons]
    rcases List.mem_cons.1 hp with rfl | hp
    · rw [h1, h2]
      have := hle L hr
      simp; omega
    · have := ih hr hp
      cases e : P x with
      | true => rw [hx e]; simp; exact this
      | false => cases Q x <;> simp <;> omega
theorem mu_ltC {l : List (Int × Int × Int × Int)} {L : List (List Int)} (hL : Posi l L) {p q : List Int} (hp : p ∈ L) (hq : q ∈ L) (h : gtC l p q = true) : muC l L p < muC l L q := by
  unfold muC
  refine filter_lt (fun c hc hg => ?_) hp h ?_
  · unfold gtC at h hg ⊢
    simp only [decide_eq_true_eq] at h hg ⊢
    exact q_lt_le (hL q hq).2.1 (hL p hp).2.1 (hL c hc).2.1 h (Int.le_of_lt hg)
  · unfold gtC; simp
/-- A circuit that none is greater than tells the best one. -/
theorem bst_final {l : List (Int × Int × Int × Int)} {L : List (List Int)} (hL : Posi l L) {q : List Int} (hq : q ∈ L) (h : ∀ c ∈ L, gtC l c q = false) : fndC (fun c => decide (dlS l q * tkS l c ≤ dlS l c * tkS l q)) L = bstL l L := by
  obtain ⟨pre, post, h1, h2, h3⟩ := bst_spec L hL (by rintro rfl; cases hq)
  obtain ⟨b, hb⟩ : ∃ b, b = bstL l L := ⟨_, rfl⟩
  rw [← hb] at h1 h2 h3 ⊢
  have hbL : b ∈ L := by rw [h1]; simp
  have hb1 := hL b hbL
  have hq1 := hL q hq
  have hg := h b hbL
  unfold gtC at hg
  simp only [decide_eq_false_iff_not, Int.not_lt] at hg
  have hqb : dlS l q * tkS l b ≤ dlS l b * tkS l q := by
    rw [h1, List.mem_append, List.mem_cons] at hq
    rcases hq with hq | rfl | hq
    · exact Int.le_of_lt (h2 q hq)
    · exact Int.le_refl _
    · exact h3 q hq
  unfold fndC
  rw [h1, List.find?_append]
  have hn : pre.find? (fun c => decide (dlS l q * tkS l c ≤ dlS l c * tkS l q)) = none := by
    rw [List.find?_eq_none]
    intro c hc
    simp only [decide_eq_true_eq, Int.not_le]
    have hc1 := hL c (by rw [h1]; exact List.mem_append_left _ hc)
    exact q_lt_le hc1.2.1 hb1.2.1 hq1.2.1 (h2 c hc) hg
  rw [hn, List.find?_cons, decide_eq_true hqb]
  rfl
/-- The best one of all is at least as great as each. -/
theorem bst_ge {l : List (Int × Int × Int × Int)} {L : List (List Int)} (hL : Posi l L) {c : List Int} (hc : c ∈ L) : bstL l L ∈ L ∧ dlS l c * tkS l (bstL l L) ≤ dlS l (bstL l L) * tkS l c := by
  obtain ⟨pre, post, h1, h2, h3⟩ := bst_spec L hL (by rintro rfl; cases hc)
  obtain ⟨b, hb⟩ : ∃ b, b = bstL l L := ⟨_, rfl⟩
  rw [← hb] at h1 h2 h3 ⊢
  refine ⟨by rw [h1]; simp, ?_⟩
  rw [h1, List.mem_append, List.mem_cons] at hc
  rcases hc with hc | rfl | hc
  · exact Int.le_of_lt (h2 c hc)
  · exact Int.le_refl _
  · exact h3 c hc
end M
end Go.Proofs.YtlofnadpgnbmdaaGreat

namespace Go.Proofs.YtlofnadpgnbmdaaGreat.V
open Go.RowKit

set_option maxRecDepth 100000 in
set_option maxHeartbeats 1000000 in
theorem multiplyMatrices (a : Option Addr) (n cap : Nat) (R : List (List Int)) (a' : Option Addr) (n' cap' : Nat) (R' : List (List Int)) (w : World) (h : Mat w a n R) (h' : Mat w a' n' R') :
    Calls Tryz.prog 17 #[.slice a n cap, .slice a' n' cap'] w (MRes (M.mulRes R R') w) := by
  have HA := Lib.hid h
  have HA' := Lib.hid h'
  have HL := Lib.hid h.1
  have HL' := Lib.hid h'.1
  by_cases hR : M.isMat R = true
  · have HR := Lib.hid hR
    by_cases hR' : M.isMat R' = true
    · have HR' := Lib.hid hR'
      obtain ⟨m1, m2, c1, c2, -, -⟩ := M.isMat_t hR
      obtain ⟨m1', m2', c1', c2', -, -⟩ := M.isMat_t hR'
      have HT : Hid (Rect R n (M.wid R)) := by show Rect _ _ _; rw [← HL.out]; exact rect_mat hR
      have HT' : Hid (Rect R' n' (M.wid R')) := by show Rect _ _ _; rw [← HL'.out]; exact rect_mat hR'
      rw [HL.out] at m1 m2
      rw [HL'.out] at m1' m2'
      have HF : Hid (M.mulM R R' = M.mk n (M.wid R') (fun i j => M.dot R R' i j n')) := by show _ = _; unfold M.mulM; rw [HL.out, HL'.out]
      obtain ⟨b, off, ra, rc, rfl, -, hc⟩ := h.rect_first HT.out (by omega)
      by_cases hl : M.wid R = n'
      · have HE : Hid (M.mulRes R R' = if M.isMat (M.mulM R R') then (M.mulM R R', 0) else ([], 3)) := by
          show _ = _; unfold M.mulRes; rw [hR, hR', if_pos (by rfl), if_pos (by rw [hl, HL'.out])]
        rw [hl] at HT hc c1 c2
        generalize M.wid R' = L at c1' c2' HT' HF
        clear h h' hR hR' hl
        by_cases hM : M.isMat (M.mulM R R') = true
        · have HE2 : Hid (M.mulRes R R' = (M.mulM R R', 0)) := by show _ = _; rw [HE.out, if_pos hM]
          have HM := Lib.hid hM
          clear hM HE
          go_enter Tryz.func17, Tryz.ntmps17
          go_wp2_with fail
          refine (isMatrix_b _ _ _ R _ true HR.out HA.out).mono ?_
          rintro e w' ⟨rfl, rfl⟩
          go_wp2_with fail
          refine (isMatrix_b _ _ _ R' _ true HR'.out HA'.out).mono ?_
          rintro e w' ⟨rfl, rfl⟩
          go_wp2_with fail
          refine (maxPlus _).mono ?_
          rintro e w1 ⟨rfl, hb1⟩
          have HB1 := Lib.hid hb1
          clear hb1
          go_wp2_with fail
          refine (multiplied _ _ _ n' R _ _ L R' _ (HA.out.below HB1.out) (HA'.out.below HB1.out) HT.out HT'.out HR.out HR'.out m1 m2 c1 c2 c1' c2').mono ?_
          rintro e w2 ⟨a2, cap2, rfl, ho, hb2⟩
          have hO2 : OwnM w2 w1.heap.size (.slice a2 n cap2) (M.mulM R R') := by rw [HF.out]; exact ho
          have HO2 := Lib.hid (hO2.mono HB1.out.size)
          have HB2 := Lib.hid (bnext HB1.out hb2)
          clear ho hb2 hO2
          go_wp2_with fail
          refine (checkedMatrix_t _ _ _ (M.mulM R R') _ HM.out HO2.out.mat).mono ?_
          rintro e w' ⟨rfl, rfl⟩
          go_wp2
          go_ret2
          rw [HE2.out]
          exact ⟨_, _, _, rfl, HO2.out, HB2.out⟩
        · simp only [Bool.not_eq_true] at hM
          have HE2 : Hid (M.mulRes R R' = ([], 3)) := by show _ = _; rw [HE.out, hM, if_neg (by simp)]
          have HM := Lib.hid hM
          clear hM HE
          go_enter Tryz.func17, Tryz.ntmps17
          go_wp2_with fail
          refine (isMatrix_b _ _ _ R _ true HR.out HA.out).mono ?_
          rintro e w' ⟨rfl, rfl⟩
          go_wp2_with fail
          refine (isMatrix_b _ _ _ R' _ true HR'.out HA'.out).mono ?_
          rintro e w' ⟨rfl, rfl⟩
          go_wp2_with fail
          refine (maxPlus _).mono ?_
          rintro e w1 ⟨rfl, hb1⟩
          have HB1 := Lib.hid hb1
          clear hb1
          go_wp2_with fail
          refine (multiplied _ _ _ n' R _ _ L R' _ (HA.out.below HB1.out) (HA'.out.below HB1.out) HT.out HT'.out HR.out HR'.out m1 m2 c1 c2 c1' c2').mono ?_
          rintro e w2 ⟨a2, cap2, rfl, ho, hb2⟩
          have hO2 : OwnM w2 w1.heap.size (.slice a2 n cap2) (M.mulM R R') := by rw [HF.out]; exact ho
          have HO2 := Lib.hid hO2
          have HB2 := Lib.hid (bnext HB1.out hb2)
          clear ho hb2 hO2
          go_wp2_with fail
          refine (checkedMatrix_f _ _ _ (M.mulM R R') _ HM.out HO2.out.mat).mono ?_
          rintro e w' ⟨rfl, rfl⟩
          go_wp2
          go_ret2
          exact MRes.nil HE2.out HB2.out
      · have HE : Hid (M.mulRes R R' = ([], 5)) := by
          show _ = _; unfold M.mulRes; rw [hR, hR', if_pos (by rfl), if_neg (by rw [HL'.out]; exact hl)]
        generalize M.wid R = L at hl hc
        have hne : (L == n') = false := by simpa using hl
        have hne2 : (L != n') = true := by simpa using hl
        have hne3 : ((L : Int) != (n' : Int)) = true := by simp; omega
        clear h h' hR hR'
        go_enter Tryz.func17, Tryz.ntmps17
        go_wp2_with fail
        refine (isMatrix_b _ _ _ R _ true HR.out HA.out).mono ?_
        rintro e w' ⟨rfl, rfl⟩
        go_wp2_with fail
        refine (isMatrix_b _ _ _ R' _ true HR'.out HA'.out).mono ?_
        rintro e w' ⟨rfl, rfl⟩
        go_wp2
        go_ret2
        exact MRes.nil HE.out (Below.refl _ _)
    · simp only [Bool.not_eq_true] at hR'
      have HE : Hid (M.mulRes R R' = ([], 1)) := by
        show _ = _; unfold M.mulRes; rw [hR, hR', if_neg (by simp)]
      have HR' := Lib.hid hR'
      clear h h' hR hR'
      go_enter Tryz.func17, Tryz.ntmps17
      go_wp2_with fail
      refine (isMatrix_b _ _ _ R _ true HR.out HA.out).mono ?_
      rintro e w' ⟨rfl, rfl⟩
      go_wp2_with fail
      refine (isMatrix_b _ _ _ R' _ false HR'.out HA'.out).mono ?_
      rintro e w' ⟨rfl, rfl⟩
      go_wp2
      go_ret2
      exact MRes.nil HE.out (Below.refl _ _)
  · simp only [Bool.not_eq_true] at hR
    have HE : Hid (M.mulRes R R' = ([], 1)) := by
      show _ = _; unfold M.mulRes; rw [hR, if_neg (by simp)]
    have HR := Lib.hid hR
    clear h h' hR
    go_enter Tryz.func17, Tryz.ntmps17
    go_wp2_with fail
    refine (isMatrix_b _ _ _ R _ false HR.out HA.out).mono ?_
    rintro e w' ⟨rfl, rfl⟩
    go_wp2
    go_ret2
    exact MRes.nil HE.out (Below.refl _ _)
end Go.Proofs.YtlofnadpgnbmdaaGreat.V
