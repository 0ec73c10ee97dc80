/- Texts laid together: Lvb, Lvp, Lvq, Draw1, Draw2, DrawM. -/
import Derived.Test.YtlofnadpgnbmdaaGreatQa18
import Derived.Test.YtlofnadpgnbmdaaGreatQa14
import Derived.Test.YtlofnadpgnbmdaaGreatRows
import Derived.Test.YtlofnadpgnbmdaaGreatQa1
import Derived.Test.YtlofnadpgnbmdaaGreatQa2
import Derived.WalkKit
import Derived.ProofKit
import Derived.WalkSmall
import Derived.Deep.QuietTactic
import Derived.BigQuiet
import Derived.BigRegion
import Derived.Deep.Draws
import Derived.Deep.OwnRows
import Derived.Lib.Hide
import Derived.OpenShut
import Derived.Test.YtlofnadpgnbmdaaGreatQa3
import Derived.Test.YtlofnadpgnbmdaaGreatQa4
import Derived.Deep.RegionHeld3
set_option linter.unusedSimpArgs false
set_option linter.unusedVariables false
set_option linter.unusedSectionVars false
namespace Go.Proofs.YtlofnadpgnbmdaaGreat
namespace M
/-- The greatest weight of the places from j to i. -/
def wtS (f : Int × Int × Int × Int → Int) (i j : Nat) (m : Int) (p : Int × Int × Int × Int) : Int := if p.2.1 = (i : Int) ∧ p.1 = (j : Int) then max m (f p) else m
def wtF (f : Int × Int × Int × Int → Int) (l : List (Int × Int × Int × Int)) (i j : Nat) : Int := l.foldl (wtS f i j) (-1000000000000000)
def wtM (f : Int × Int × Int × Int → Int) (n : Nat) (l : List (Int × Int × Int × Int)) : List (List Int) := mk n n (wtF f l)
theorem wtF_next (f : Int × Int × Int × Int → Int) (l : List (Int × Int × Int × Int)) {k : Nat} (hk : k < l.length) (i j : Nat) : wtF f (l.take (k + 1)) i j = wtS f i j (wtF f (l.take k) i j) (l.getD k (0, 0, 0, 0)) := by
  unfold wtF
  rw [List.take_add_one, List.foldl_append, List.getD_eq_getElem?_getD, List.getElem?_eq_getElem hk]
  rfl
/-- One place more. -/
theorem wtM_next (f : Int × Int × Int × Int → Int) (n : Nat) (l : List (Int × Int × Int × Int)) {k : Nat} (hk : k < l.length) {p0 p1 p2 p3 : Int} (hp : l.getD k (0, 0, 0, 0) = (p0, p1, p2, p3)) {i j : Nat} (hi : i < n) (h1 : p1 = (i : Int)) (h0 : p0 = (j : Int)) :
    (wtM f n (l.take k)).set i (((wtM f n (l.take k)).getD i []).set j (max (wtF f (l.take k) i j) (f (p0, p1, p2, p3)))) = wtM f n (l.take (k + 1)) := by
  unfold wtM
  rw [mk_set _ _ _ _ _ _ hi]
  refine mk_congr fun s hs t ht => ?_
  rw [wtF_next f l hk, hp]
  unfold wtS
  by_cases e : s = i
  · subst e
    rw [if_pos rfl]
    by_cases e2 : t = j
    · subst e2
      rw [if_pos rfl]
      exact (if_pos ⟨h1, h0⟩).symm
    · rw [if_neg e2]
      refine (if_neg ?_).symm
      rintro ⟨q1, q2⟩
      have q2 : p0 = (t : Int) := q2
      omega
  · rw [if_neg e]
    refine (if_neg ?_).symm
    rintro ⟨q1, q2⟩
    have q1 : p1 = (s : Int) := q1
    omega
/-- What all weights are, the greatest ones are as well, or Bottom. -/
theorem wtF_of {P : Int → Prop} {f : Int × Int × Int × Int → Int} {l : List (Int × Int × Int × Int)} (h : ∀ p ∈ l, P (f p)) (hb : P (-1000000000000000)) (i j : Nat) : P (wtF f l i j) := by
  unfold wtF
  suffices H : ∀ m, P m → P (l.foldl (wtS f i j) m) from H _ hb
  induction l with
  | nil => intro m hm; exact hm
  | cons p l ih =>
    intro m hm
    refine ih (fun q hq => h q (List.mem_cons_of_mem _ hq)) _ ?_
    unfold wtS
    split
    · rcases Int.le_total m (f p) with q | q
      · rw [Int.max_eq_right q]; exact h p List.mem_cons_self
      · rw [Int.max_eq_left q]; exact hm
    · exact hm
/-- Two weights of the same places. -/
theorem wtF_two {P : Int → Int → Prop} {f g : Int × Int × Int × Int → Int} {l : List (Int × Int × Int × Int)} (h : ∀ p ∈ l, ∀ a b, P a b → P (max a (f p)) (max b (g p))) (hb : P (-1000000000000000) (-1000000000000000)) (i j : Nat) : P (wtF f l i j) (wtF g l i j) := by
  unfold wtF
  suffices H : ∀ a b, P a b → P (l.foldl (wtS f i j) a) (l.foldl (wtS g i j) b) from H _ _ hb
  induction l with
  | nil => intro a b hm; exact hm
  | cons p l ih =>
    intro a b hm
    refine ih (fun q hq => h q (List.mem_cons_of_mem _ hq)) _ _ ?_
    unfold wtS
    split
    · exact h p List.mem_cons_self a b hm
    · exact hm
/-- The weights of this chapter: arcs of places without tokens, tokens, and places alone. -/
def fOne (p : Int × Int × Int × Int) : Int := if p.2.2.2 > 0 then -1000000000000000 else 1
def fNil (p : Int × Int × Int × Int) : Int := if p.2.2.2 > 0 then -1000000000000000 else 0
def fTok (p : Int × Int × Int × Int) : Int := - p.2.2.2
def fArc (_ : Int × Int × Int × Int) : Int := 0
theorem uz_graph (l : List (Int × Int × Int × Int)) : UZ (wtF fOne l) (wtF fNil l) := fun i j => by
  refine wtF_two (P := fun a b => (a = -1000000000000000 ∧ b = -1000000000000000) ∨ (a = 1 ∧ b = 0)) (fun p _ a b h => ?_) (.inl ⟨rfl, rfl⟩) i j
  unfold fOne fNil
  split
  · rcases h with ⟨rfl, rfl⟩ | ⟨rfl, rfl⟩
    · left; omega
    · right; omega
  · rcases h with ⟨rfl, rfl⟩ | ⟨rfl, rfl⟩
    · right; omega
    · right; omega
theorem wt_isMat {f : Int × Int × Int × Int → Int} {n : Nat} {l : List (Int × Int × Int × Int)} (h1 : 1 ≤ n) (h2 : n ≤ 10) (h : ∀ p ∈ l, isVal (f p) = true) : sqB (wtM f n l) = true := by
  unfold sqB wtM
  rw [isMat_mk h1 h2 h1 h2 fun i _ j _ => wtF_of (P := fun x => isVal x = true) h (by decide) i j, mk_length, mk_wid _ _ _ h1]
  simp
end M
end Go.Proofs.YtlofnadpgnbmdaaGreat

namespace Go.Proofs.YtlofnadpgnbmdaaGreat
namespace M
theorem owk_neg {f : Nat → Nat → Option Int} {v : Nat → Nat} {s : Nat} (h : ∀ u, u < s → ole (f (v (u + 1)) (v u)) (some 0)) : ole (owk f v s) (some 0) := by
  induction s with
  | zero => exact ole_rfl _
  | succ s ih =>
    show ole (omul (f (v (s + 1)) (v s)) (owk f v s)) _
    exact ole_trans (omul_le_l (ih fun u hu => h u (by omega))) (h s (by omega))
theorem noPos_neg {A : Nat → Nat → Int} {n : Nat} (hn : n ≤ 10) (hA : ∀ i j, i < n → j < n → Sm 1000001000000 (A i j)) (h : ∀ i j, i < n → j < n → A i j ≤ 0) : noPos A n = true := by
  cases e : noPos A n with
  | true => rfl
  | false =>
    obtain ⟨v, s, g1, g2, g3, g4⟩ := gain_of hn hA e
    refine absurd (owk_neg fun u hu => ?_) g4
    have := h (v (u + 1)) (v u) (g3 _ (by omega)) (g3 _ (by omega))
    show ole (o (A _ _)) (some 0)
    unfold o
    split
    · exact ole_none _
    · exact this
theorem rch_supp {A B : Nat → Nat → Int} {n : Nat} (h : ∀ i j, i < n → j < n → A i j ≠ -1000000000000000 → B i j ≠ -1000000000000000) {v i : Nat} (hr : Rch A n v i) : Rch B n v i := by
  obtain ⟨t, x, h1, h2, h3, h4⟩ := hr
  exact ⟨t, x, h1, h2, h3, fun u hu => h _ _ (h3 _ (by omega)) (h3 _ (by omega)) (h4 u hu)⟩
theorem relB_supp {A B : Nat → Nat → Int} {n : Nat} (h : ∀ i j, i < n → j < n → (A i j = -1000000000000000 ↔ B i j = -1000000000000000)) (v w : Nat) : relB A n v w = relB B n v w := by
  have h1 : ∀ v w, Rch A n v w ↔ Rch B n v w := fun v w => ⟨rch_supp fun i j hi hj k q => k ((h i j hi hj).2 q), rch_supp fun i j hi hj k q => k ((h i j hi hj).1 q)⟩
  rw [Bool.eq_iff_iff, relB_t, relB_t, h1, h1]
theorem compL_supp {A B : Nat → Nat → Int} {n : Nat} (h : ∀ i j, i < n → j < n → (A i j = -1000000000000000 ↔ B i j = -1000000000000000)) (v : Nat) : compL A n v = compL B n v := by
  unfold compL compP
  rw [show relB A n v = relB B n v from funext fun w => relB_supp h v w]
section
variable {l : List (Int × Int × Int × Int)} {N : Nat}
theorem wt_ent (f : Int × Int × Int × Int → Int) {i j : Nat} (hi : i < N) (hj : j < N) : ent (wtM f N l) i j = wtF f l i j := ent_mk _ _ _ _ _ hi hj
theorem wt_noPos (f : Int × Int × Int × Int → Int) : noPos (ent (wtM f N l)) N = noPos (wtF f l) N := noPos_congr fun _ _ hi hj => wt_ent f hi hj
theorem wt_star (f : Int × Int × Int × Int → Int) {i j : Nat} (hi : i < N) (hj : j < N) : ent (starM (wtM f N l) N) i j = starF (wtF f l) N i j := by
  unfold starM
  rw [ent_mk _ _ _ _ _ hi hj]
  exact starF_congr (fun _ _ hi hj => wt_ent f hi hj) hi hj
/-- The dead cycle. -/
def deadQ (l : List (Int × Int × Int × Int)) (N : Nat) : List Int := overL (wtF fNil l) N (-1)
theorem nil_sm (i j : Nat) : Sm 1000001000000 (wtF fNil l i j) := by
  have h : Sm 1000001000000 (wtF fNil l i j) := by
    rcases uz_graph l i j with ⟨-, e⟩ | ⟨-, e⟩ <;> rw [e] <;> unfold Sm <;> omega
  exact h
theorem over_one (hn : N ≤ 10) : overL (ent (wtM fOne N l)) N 0 = deadQ l N := by
  rw [over_congr hn (fun i j _ _ => uz_sm (uz_graph l) i j) fun i j hi hj => wt_ent fOne hi hj]
  exact over_uz (uz_graph l) N
theorem over_nil (hn : N ≤ 10) : overL (ent (wtM fNil N l)) N (-1) = deadQ l N :=
  over_congr hn (fun i j _ _ => nil_sm i j) fun i j hi hj => wt_ent fNil hi hj
theorem dead_is (hn : N ≤ 10) : decide ((deadQ l N).length = 0) = liveB (wtF fOne l) N := dead_live (uz_graph l) hn
theorem one_val (p : Int × Int × Int × Int) : isVal (fOne p) = true := by unfold fOne; split <;> decide
theorem nil_val (p : Int × Int × Int × Int) : isVal (fNil p) = true := by unfold fNil; split <;> decide
theorem pos_one (n1 : 1 ≤ N) (n2 : N ≤ 10) : posRes (wtM fOne N l) = if (deadQ l N).length = 0 then ([], 4) else (deadQ l N, 0) := by
  have hs : sqB (wtM fOne N l) = true := wt_isMat n1 n2 fun p _ => one_val p
  have hl : (wtM fOne N l).length = N := mk_length _ _ _
  unfold posRes
  rw [if_pos hs, hl, over_one n2]
theorem dead_len (n2 : N ≤ 10) : (deadQ l N).length ≤ 11 := by
  have := grow_nodes (wtF fNil l) N (-1) N
  unfold deadQ overL
  have key : ∀ c v, (pick (fun v => grow (wtF fNil l) N (-1) N [(v : Int)] 0) c v).length ≤ 1 + N := by
    intro c
    induction c with
    | zero => intro v; show 0 ≤ _; omega
    | succ c ih =>
      intro v
      show (if _ then _ else _ : List Int).length ≤ _
      split
      · exact ih _
      · exact this [(v : Int)] 0
  have := key N 0
  omega
/-- The greatest weight of minus the tokens. -/
def tdF (l : List (Int × Int × Int × Int)) (N i j : Nat) : Int := starF (wtF fTok l) N i j
theorem tok_le (h : ∀ p ∈ l, 0 ≤ p.2.2.2 ∧ p.2.2.2 ≤ 5) (i j : Nat) : wtF fTok l i j ≤ 0 ∧ (wtF fTok l i j = -1000000000000000 ∨ -5 ≤ wtF fTok l i j) :=
  wtF_of (P := fun x => x ≤ 0 ∧ (x = -1000000000000000 ∨ -5 ≤ x)) (fun p hp => by unfold fTok; have := h p hp; omega) (by omega) i j
theorem tok_sm (h : ∀ p ∈ l, 0 ≤ p.2.2.2 ∧ p.2.2.2 ≤ 5) (i j : Nat) : Sm 1000001000000 (wtF fTok l i j) := by
  have := tok_le h i j
  unfold Sm; omega
theorem tok_noPos (hn : N ≤ 10) (h : ∀ p ∈ l, 0 ≤ p.2.2.2 ∧ p.2.2.2 ≤ 5) : noPos (wtF fTok l) N = true := noPos_neg hn (fun i j _ _ => tok_sm h i j) fun i j _ _ => (tok_le h i j).1
theorem td_sm (hn : N ≤ 10) (h : ∀ p ∈ l, 0 ≤ p.2.2.2 ∧ p.2.2.2 ≤ 5) {i j : Nat} (hi : i < N) (hj : j < N) : Sm 11000011000000 (tdF l N i j) := star_sm hn (fun i j _ _ => tok_sm h i j) (tok_noPos hn h) hi hj
theorem tok_val (h : ∀ p ∈ l, 0 ≤ p.2.2.2 ∧ p.2.2.2 ≤ 5) : ∀ p ∈ l, isVal (fTok p) = true := fun p hp => by
  have := h p hp
  unfold fTok isVal isFin
  simp; omega
/-- Whether a graph is strong. -/
def strB (l : List (Int × Int × Int × Int)) (N : Nat) : Bool := decide ((compL (wtF fArc l) N 0).length = N)
theorem arc_tok (h : ∀ p ∈ l, 0 ≤ p.2.2.2 ∧ p.2.2.2 ≤ 5) (i j : Nat) : (wtF fArc l i j = -1000000000000000 ↔ wtF fTok l i j = -1000000000000000) :=
  wtF_two (P := fun a b => (a = -1000000000000000 ↔ b = -1000000000000000)) (fun p hp a b _ => by unfold fArc fTok; have := h p hp; omega) Iff.rfl i j
theorem str_one (n1 : 1 ≤ N) (n2 : N ≤ 10) : sqB (wtM fArc N l) = true ∧ decide ((compL (ent (wtM fArc N l)) N 0).length = N) = strB l N := by
  refine ⟨wt_isMat n1 n2 fun p _ => by unfold fArc; decide, ?_⟩
  unfold strB
  rw [compL_supp (fun i j hi hj => by rw [wt_ent fArc hi hj]) 0]
theorem str_two (n1 : 1 ≤ N) (h : ∀ p ∈ l, 0 ≤ p.2.2.2 ∧ p.2.2.2 ≤ 5) : decide ((compsL (ent (wtM fTok N l)) N).length = 1) = strB l N := by
  rw [← irr_eq n1]
  unfold strB
  rw [compL_supp (B := wtF fArc l) (fun i j hi hj => by rw [wt_ent fTok hi hj, ← arc_tok h i j]) 0]
end
end M
end Go.Proofs.YtlofnadpgnbmdaaGreat

namespace Go.Proofs.YtlofnadpgnbmdaaGreat
namespace M
/-- The list of levels in the making: those of the nodes that have been passed. -/
def outS (A : Nat → Nat → Int) (N t : Nat) : List Int := (List.range N).map fun x : Nat => if hasB (ordL A N t) (x : Int) then lev A N x else 0
/-- .. and one of them being computed. -/
def midO (A : Nat → Nat → Int) (N t e k : Nat) : List Int := (List.range N).map fun x : Nat => if x = e then lvP A N e k else if hasB (ordL A N t) (x : Int) then lev A N x else 0
theorem map_at {N x : Nat} (f : Nat → Int) (hx : x < N) : ((List.range N).map f).getD x 0 = f x := by
  rw [List.getD_eq_getElem?_getD, List.getElem?_map, List.getElem?_range hx]; rfl
theorem outS_zero (A : Nat → Nat → Int) (N : Nat) : outS A N 0 = (List.range N).map fun _ => 0 := by
  unfold outS
  refine List.map_congr_left fun x _ => ?_
  rw [if_neg]
  intro h
  cases h
theorem midO_at_e (A : Nat → Nat → Int) {N t e k : Nat} (he : e < N) : (midO A N t e k).getD e 0 = lvP A N e k := by
  unfold midO
  rw [map_at _ he, if_pos rfl]
theorem midO_at (A : Nat → Nat → Int) {N t e k x : Nat} (hx : x < N) (hne : x ≠ e) (h : hasB (ordL A N t) (x : Int) = true) : (midO A N t e k).getD x 0 = lev A N x := by
  unfold midO
  rw [map_at _ hx, if_neg hne, if_pos h]
theorem midO_start {A : Nat → Nat → Int} {N t e : Nat} (h : hasB (ordL A N t) (e : Int) = false) : midO A N t e 0 = outS A N t := by
  unfold midO outS
  refine List.map_congr_left fun x _ => ?_
  by_cases q : x = e
  · subst q; rw [if_pos rfl, h]; rfl
  · rw [if_neg q]
theorem midO_skip {A : Nat → Nat → Int} {N t e k : Nat} (h : A e k = -1000000000000000) : midO A N t e (k + 1) = midO A N t e k := by
  unfold midO
  refine List.map_congr_left fun x _ => ?_
  rw [show lvP A N e (k + 1) = lvP A N e k from if_pos h]
theorem midO_set {A : Nat → Nat → Int} {N t e k : Nat} (he : e < N) (h : A e k ≠ -1000000000000000) : (midO A N t e k).set e (max (lvP A N e k) (lev A N k + 1)) = midO A N t e (k + 1) := by
  apply List.ext_getElem?
  intro x
  by_cases q : x = e
  · subst q
    rw [List.getElem?_set_self (by simp [midO]; exact he)]
    unfold midO
    rw [List.getElem?_map, List.getElem?_range he, Option.map_some, if_pos rfl]
    exact congrArg some (show lvP A N x (k + 1) = _ from if_neg h).symm
  · rw [List.getElem?_set_ne (Ne.symm q)]
    unfold midO
    rw [List.getElem?_map, List.getElem?_map]
    by_cases hx : x < N
    · rw [List.getElem?_range hx, Option.map_some, Option.map_some, if_neg q, if_neg q]
    · rw [List.getElem?_eq_none (by simp; omega)]; rfl
theorem midO_end {A B : Nat → Nat → Int} {N t e : Nat} (hU : UZ A B) (hn : N ≤ 10) (hp : noPos A N = true) (he : e < N) (ho : ordL A N (t + 1) = ordL A N t ++ [(e : Int)]) : midO A N t e N = outS A N (t + 1) := by
  unfold midO outS
  refine List.map_congr_left fun x _ => ?_
  rw [ho, has_snoc]
  by_cases q : x = e
  · subst q
    rw [if_pos rfl, lvP_end hU hn hp he]
    simp
  · rw [if_neg q, decide_eq_false (show ¬ (x : Int) = (e : Int) by omega), Bool.or_false]
theorem outS_end {A B : Nat → Nat → Int} {N : Nat} (hU : UZ A B) (hn : N ≤ 10) (hp : noPos A N = true) : outS A N N = levL A N := by
  unfold outS levL
  refine List.map_congr_left fun x hx => ?_
  have hx := List.mem_range.1 hx
  rw [if_pos (ord_all (ord_nodes A N N).1 (ord_nodes A N N).2.1 (ord_full hU hn hp (Nat.le_refl _)) hx)]
/-- What is taken at a place of the order. -/
theorem ord_pre {A B : Nat → Nat → Int} {N t : Nat} (hU : UZ A B) (hn : N ≤ 10) (hp : noPos A N = true) {e : Nat} (ho : ordL A N (t + 1) = ordL A N t ++ [(e : Int)]) (ht : t < N) : ∀ d, t + 1 + d ≤ N → (ordL A N (t + 1 + d)).getD t 0 = (e : Int) := by
  intro d
  induction d with
  | zero =>
    intro _
    show (ordL A N (t + 1)).getD t 0 = _
    rw [ho, List.getD_eq_getElem?_getD, List.getElem?_append_right (by rw [ord_full hU hn hp (by omega)]; exact Nat.le_refl _), ord_full hU hn hp (by omega)]
    simp
  | succ d ih =>
    intro hd
    have hl := ord_full hU hn hp (t := t + 1 + d) (by omega)
    obtain ⟨x, hx⟩ := ord_goes hU hn hp (t := t + 1 + d) (by omega) hl
    have e1 : ordL A N (t + 1 + (d + 1)) = ordL A N (t + 1 + d) ++ [(x : Int)] := by
      show stepO A N (ordL A N (t + 1 + d)) = _
      exact step_some hx
    rw [e1, List.getD_eq_getElem?_getD, List.getElem?_append_left (by rw [hl]; omega), ← List.getD_eq_getElem?_getD]
    exact ih (by omega)
theorem ord_at {A B : Nat → Nat → Int} {N t : Nat} (hU : UZ A B) (hn : N ≤ 10) (hp : noPos A N = true) (ht : t < N) : ∃ e : Nat, e < N ∧ (ordL A N N).getD t 0 = (e : Int) ∧ ordL A N (t + 1) = ordL A N t ++ [(e : Int)] ∧ hasB (ordL A N t) (e : Int) = false ∧ ∀ k, k < N → A e k ≠ -1000000000000000 → hasB (ordL A N t) (k : Int) = true := by
  obtain ⟨e, he⟩ := ord_goes hU hn hp ht (ord_full hU hn hp (Nat.le_of_lt ht))
  obtain ⟨h1, h2⟩ := nxtO_some he
  obtain ⟨h3, h4⟩ := rdy_t.1 h2
  have ho : ordL A N (t + 1) = ordL A N t ++ [(e : Int)] := step_some he
  refine ⟨e, h1, ?_, ho, h3, h4⟩
  have := ord_pre hU hn hp ho ht (N - (t + 1)) (by omega)
  rw [show t + 1 + (N - (t + 1)) = N by omega] at this
  exact this
def levK (A : Nat → Nat → Int) (n k : Nat) : List Int := (List.range k).map (lev A n)
theorem levK_next (A : Nat → Nat → Int) (n k : Nat) : levK A n (k + 1) = levK A n k ++ [lev A n k] := by
  unfold levK
  rw [List.range_succ, List.map_append]; rfl
theorem levK_len (A : Nat → Nat → Int) (n k : Nat) : (levK A n k).length = k := by simp [levK]
end M
end Go.Proofs.YtlofnadpgnbmdaaGreat

namespace Go.Proofs.YtlofnadpgnbmdaaGreat.V
open Go.RowKit

/-- The three cells of a source: the code, the place, the seed. -/
def srcF (a : Option Addr) (n cap t : Nat) (s : Int) : Nat → Value
  | 0 => .slice a n cap
  | 1 => .int .i64 t
  | _ => .int .i64 s

/-- The code of a source: bytes that lie below block g. -/
def CodeAt (w : World) (g : Nat) (a : Option Addr) (n : Nat) : Prop :=
  n ≤ maxLen ∧ (n = 0 ∨ ∃ b off, a = some ⟨b, off, none⟩ ∧ b < g ∧ ∀ i, i < n → ∃ x : Int, 0 ≤ x ∧ x ≤ 255 ∧ w.cell? ⟨b, off + i, none⟩ = some (.int .u8 x))

/-- Block g is a source. -/
def Src (w : World) (g : Nat) : Prop := ∃ (a : Option Addr) (n cap t : Nat) (s : Int),
  w.rowIs g 123 3 (srcF a n cap t s) ∧ CodeAt w g a n ∧ t ≤ n ∧ 0 ≤ s ∧ s < 2147483647

/-- Only block g may have changed; blocks may have been added. -/
structure Thr (g : Nat) (w w' : World) : Prop where
  below : Below g w w'
  other : ∀ k, g < k → k < w.heap.size → w'.heap[k]? = w.heap[k]?

theorem Thr.refl (g : Nat) (w : World) : Thr g w w := ⟨Below.refl _ _, fun _ _ _ => rfl⟩
theorem Thr.trans {g : Nat} {a b c : World} (h : Thr g a b) (k : Thr g b c) : Thr g a c :=
  ⟨h.below.trans k.below, fun i h1 h2 => (k.other i h1 (Nat.lt_of_lt_of_le h2 h.below.size)).trans (h.other i h1 h2)⟩
theorem Thr.drew {g : Nat} {a b : World} (h : Thr g a b) : Thr g a b.drew := ⟨h.below.drew, h.other⟩
theorem Thr.drewN {g : Nat} {a b : World} (h : Thr g a b) (n : Nat) : Thr g a (b.drewN n) := ⟨below_drewN h.below n, h.other⟩
theorem Thr.setCell {g : Nat} {a b : World} (h : Thr g a b) {i : Nat} (v : Value) : Thr g a (b.setCell ⟨g, i, none⟩ v) :=
  ⟨h.below.setCell (Nat.le_refl _) v, fun k h1 h2 => (Below.heap_setCell _ _ _ _ (by show k ≠ g; omega)).trans (h.other k h1 h2)⟩
theorem Thr.cell {g : Nat} {w w' : World} (h : Thr g w w') {p : Addr} (hp : p.block < w.heap.size) (hne : p.block ≠ g) : w'.cell? p = w.cell? p := by
  by_cases hlt : p.block < g
  · exact h.below.cell hlt
  · exact World.cell?_of_block (w := w) (h.other _ (by omega) hp)

theorem CodeAt.below {w w' : World} {g : Nat} {a : Option Addr} {n : Nat} (h : CodeAt w g a n) (hb : Below g w w') : CodeAt w' g a n := by
  obtain ⟨h1, h2⟩ := h
  refine ⟨h1, ?_⟩
  rcases h2 with h2 | ⟨b, off, rfl, hlt, hc⟩
  · exact .inl h2
  · refine .inr ⟨b, off, rfl, hlt, fun i hi => ?_⟩
    obtain ⟨x, x1, x2, hx⟩ := hc i hi
    exact ⟨x, x1, x2, by rw [hb.cell (p := ⟨b, off + i, none⟩) hlt]; exact hx⟩

theorem Src.below {w w' : World} {g : Nat} (h : Src w g) (hb : Below (g + 1) w w') : Src w' g := by
  obtain ⟨a, n, cap, t, s, h1, h2, h3⟩ := h
  exact ⟨a, n, cap, t, s, h1.of_block (hb.block g (by omega)), h2.below (hb.mono (by omega)), h3⟩
theorem Src.lt {w : World} {g : Nat} (h : Src w g) : g < w.heap.size := by
  obtain ⟨a, n, cap, t, s, h1, h2, h3⟩ := h
  exact h1.lt
theorem Src.drew {w : World} {g : Nat} (h : Src w g) : Src w.drew g := h

/-- What a drawn number is. -/
def NextPost (g : Nat) (n : Int) (w : World) (e : Ending) (w' : World) : Prop :=
  ∃ x : Int, e = .returned (.int .i64 x) ∧ 0 ≤ x ∧ (x < n ∨ x = 0) ∧ Src w' g ∧ Thr g w w'

theorem mod_lt (x n : Int) (hx : 0 ≤ x) (hn : 1 < n) : 0 ≤ x % n ∧ (x % n < n ∨ x % n = 0) :=
  ⟨Int.emod_nonneg _ (by omega), .inl (Int.emod_lt_of_pos _ (by omega))⟩

theorem rowIs_seed {w : World} {g T : Nat} {a : Option Addr} {n cap t : Nat} {s : Int} (h : w.rowIs g T 3 (srcF a n cap t s)) (s' : Int) : (w.setCell ⟨g, 2, none⟩ (.int .i64 s')).rowIs g T 3 (srcF a n cap t s') :=
  (h.set 2 _).congr (fun i hi => by
    match i, hi with
    | 0, _ => rfl
    | 1, _ => rfl
    | 2, _ => rfl)
theorem rowIs_at {w : World} {g T : Nat} {a : Option Addr} {n cap t : Nat} {s : Int} (h : w.rowIs g T 3 (srcF a n cap t s)) (t' : Nat) (v : Int) (hv : v = (t' : Int)) : (w.setCell ⟨g, 1, none⟩ (.int .i64 v)).rowIs g T 3 (srcF a n cap t' s) :=
  (h.set 1 _).congr (fun i hi => by
    subst hv
    match i, hi with
    | 0, _ => rfl
    | 1, _ => rfl
    | 2, _ => rfl)

theorem next_fin {g : Nat} {n : Int} {w w2 : World} {a : Option Addr} {m cap t : Nat} {s x : Int} (hn : 1 < n) (hx : 0 ≤ x) (hrow : w2.rowIs g 123 3 (srcF a m cap t s)) (hc : CodeAt w g a m) (ht : t ≤ m) (s1 : 0 ≤ s) (s2 : s < 2147483647)
    (hthr : Thr g w w2) : NextPost g n w (.returned (.int .i64 (x % n))) w2 :=
  ⟨_, rfl, (mod_lt x n hx hn).1, (mod_lt x n hx hn).2, ⟨a, m, cap, t, s, hrow, hc.below hthr.below, ht, s1, s2⟩, hthr⟩

set_option maxRecDepth 100000 in
set_option maxHeartbeats 1000000 in
theorem next (g : Nat) (n : Int) (w : World) (wn : (Lit.int .i64 n).wf = true) (h : Src w g) :
    Calls Tryz.prog 52 #[.pointer (some ⟨g, 0, none⟩), .int .i64 n] w (NextPost g n w) := by
  by_cases hn : n ≤ 1
  · go_enter Tryz.func52, Tryz.ntmps52
    go_wp2
    go_ret
    exact ⟨0, rfl, by omega, .inr rfl, h, Thr.refl _ _⟩
  · obtain ⟨a, m, cap, t, s, hrow, hcode, ht, s1, s2⟩ := h
    have c0 : w.cell? ⟨g, 0, none⟩ = some (.slice a m cap) := hrow.cell (i := 0) (by omega)
    have c1 : w.cell? ⟨g, 1, none⟩ = some (.int .i64 t) := hrow.cell (i := 1) (by omega)
    have c2 : w.cell? ⟨g, 2, none⟩ = some (.int .i64 s) := hrow.cell (i := 2) (by omega)
    have f0 := hrow.frozen 0
    have f1 := hrow.frozen 1
    have f2 := hrow.frozen 2
    have HCODE := Lib.hid hcode
    obtain ⟨hm, hcode⟩ := hcode
    unfold maxLen at hm
    have HR := Lib.hid hrow
    clear hrow
    have hn' : 1 < n := by omega
    have r1 : 0 ≤ (s * 48271 + 59) % 2147483647 := Int.emod_nonneg _ (by omega)
    have r2 : (s * 48271 + 59) % 2147483647 < 2147483647 := Int.emod_lt_of_pos _ (by omega)
    by_cases htm : t < m
    · rcases hcode with h0 | ⟨b, off, rfl, hbg, hc⟩
      · omega
      obtain ⟨x, x1, x2, hcx⟩ := hc t htm
      clear hc
      have hne : ¬ b = g := by omega
      have hti : (t : Int) < (m : Int) := by omega
      have ht0 : 0 ≤ (t : Int) + 1 := by omega
      have hq : 0 ≤ (s * 48271 + 59) % 2147483647 / 31 := Int.ediv_nonneg r1 (by omega)
      have HC : Hid (CodeAt w g (some ⟨b, off, none⟩) m) := HCODE
      clear HCODE
      by_cases h256 : n ≤ 256
      · by_cases hev : ((t : Int) + 1) % 2 = 0
        · have hev' : (((t : Int) + 1) % 2 == 0) = true := by simpa using hev
          clear hev
          go_enter Tryz.func52, Tryz.ntmps52
          go_wp2
          go_quiet (fail)
          go_wp2
          go_quiet (fail)
          go_wp2
          go_quiet (fail)
          go_wp2
          go_ret
          exact next_fin hn' x1 (rowIs_at (w := (w.setCell ⟨g, 2, none⟩ (.int .i64 ((s * 48271 + 59) % 2147483647))).drewN _) (rowIs_seed HR.out _) (t + 1) _ (by omega)) HC.out (by omega) r1 r2 (((((Thr.refl g w).setCell _).drewN _).setCell _).drewN _)
        · have hev' : (((t : Int) + 1) % 2 == 0) = false := by simpa using hev
          clear hev
          go_enter Tryz.func52, Tryz.ntmps52
          go_wp2
          go_quiet (fail)
          go_wp2
          go_quiet (fail)
          go_wp2
          go_ret
          exact next_fin hn' (by omega) (rowIs_at (w := (w.setCell ⟨g, 2, none⟩ (.int .i64 ((s * 48271 + 59) % 2147483647))).drewN _) (rowIs_seed HR.out _) (t + 1) _ (by omega)) HC.out (by omega) r1 r2 ((((Thr.refl g w).setCell _).drewN _).setCell _)
      · go_enter Tryz.func52, Tryz.ntmps52
        go_wp2
        go_quiet (fail)
        go_wp2
        go_quiet (fail)
        go_wp2
        go_ret
        exact next_fin hn' (by omega) (rowIs_at (w := (w.setCell ⟨g, 2, none⟩ (.int .i64 ((s * 48271 + 59) % 2147483647))).drewN _) (rowIs_seed HR.out _) (t + 1) _ (by omega)) HC.out (by omega) r1 r2 ((((Thr.refl g w).setCell _).drewN _).setCell _)
    · obtain rfl : t = m := by omega
      have hq : 0 ≤ (s * 48271 + 59) % 2147483647 / 31 := Int.ediv_nonneg r1 (by omega)
      have HC : Hid (CodeAt w g a t) := HCODE
      clear HCODE hcode
      go_enter Tryz.func52, Tryz.ntmps52
      go_wp2
      go_quiet (fail)
      go_wp2
      go_ret
      exact next_fin hn' (by omega) (rowIs_seed HR.out _) HC.out (by omega) r1 r2 (((Thr.refl g w).setCell _).drewN _)
end Go.Proofs.YtlofnadpgnbmdaaGreat.V

namespace Go.Proofs.YtlofnadpgnbmdaaGreat.V
open Go.RowKit

theorem wf_small (n : Int) (a : -1000000000000000000 ≤ n) (b : n ≤ 1000000000000000000) : (Lit.int .i64 n).wf = true := by
  show (decide (IntKind.i64.min ≤ n) && decide (n ≤ IntKind.i64.max)) = true
  rw [Bool.and_eq_true]
  constructor <;> apply decide_eq_true
  · show (-9223372036854775808 : Int) ≤ n
    omega
  · show n ≤ (9223372036854775807 : Int)
    omega

/-- A slice of bytes that came in. -/
def Bytes (w : World) (a : Option Addr) (n : Nat) : Prop := CodeAt w w.heap.size a n

theorem IsRow.bytes {w : World} {a : Option Addr} {len cap : Nat} {zs : List Int} (h : IsRow .u8 w a len cap zs) : Bytes w a len := by
  rcases h with ⟨rfl, rfl, rfl, rfl⟩ | ⟨x, rfl, hl, hm, hz, hcell, hwf⟩
  · exact ⟨Nat.zero_le _, .inl rfl⟩
  · refine ⟨by omega, ?_⟩
    by_cases h0 : len = 0
    · exact .inl h0
    · obtain ⟨b, off, rfl, hc⟩ := ints_at hcell (by omega)
      refine .inr ⟨b, off, rfl, cell_lt (hc 0 (by omega)), fun i hi => ?_⟩
      have hx : zs.getD i 0 ∈ zs := by
        rw [List.getD_eq_getElem?_getD, List.getElem?_eq_getElem (by omega)]
        simp
      have := bounds_u8 (hwf _ hx)
      exact ⟨_, this.1, this.2, hc i (by omega)⟩

theorem Bytes.below {w w' : World} {a : Option Addr} {n : Nat} (h : Bytes w a n) (hb : Below w.heap.size w w') : Bytes w' a n := by
  have h2 := CodeAt.below h hb
  obtain ⟨h1, h3⟩ := h2
  refine ⟨h1, ?_⟩
  rcases h3 with h3 | ⟨b, off, rfl, hlt, hc⟩
  · exact .inl h3
  · exact .inr ⟨b, off, rfl, by have := hb.size; omega, hc⟩

set_option maxRecDepth 100000 in
set_option maxHeartbeats 1000000 in
theorem from_ (a : Option Addr) (n cap : Nat) (w : World) (h : Bytes w a n) :
    Calls Tryz.prog 44 #[.slice a n cap] w fun e w' => e = .returned (.pointer (some ⟨w.heap.size, 0, none⟩)) ∧ Src w' w.heap.size ∧ Below w.heap.size w w' := by
  have HB := Lib.hid h
  obtain ⟨hm, hcode⟩ := h
  unfold maxLen at hm
  go_enter Tryz.func44, Tryz.ntmps44
  go_wp2
  have hst : (w.alloc (.cells #[.slice a n cap, .int .i64 0, .int .i64 61403] 123)).rowIs w.heap.size 123 3 (srcF a n cap 0 61403) :=
    World.rowIs_alloc w _ _ _ (fun i hi => by
      match i, hi with
      | 0, _ => rfl
      | 1, _ => rfl
      | 2, _ => rfl)
  have HST := Lib.hid hst
  clear hst
  go_loopw [4] (fun i wr => ∃ k : Nat, ∃ s : Int, k ≤ n ∧ i = .int .i64 k ∧ 0 ≤ s ∧ s < 2147483647 ∧ wr.rowIs w.heap.size 123 3 (srcF a n cap 0 s) ∧ Below w.heap.size w wr) (fun i _ => n - (intOf i).toNat)
  case atStart => exact ⟨0, 61403, Nat.zero_le _, rfl, by omega, by omega, HST.out, b_alloc _ _⟩
  case round =>
    obtain ⟨k, s, hk, rfl, s1, s2, hrow, hb⟩ := hrel
    clear HST
    by_cases hlt : k < n ∧ k < 64
    · obtain ⟨hlt, h64⟩ := hlt
      rcases hcode with h0 | ⟨b, off, rfl, hbl, hc⟩
      · omega
      obtain ⟨x, x1, x2, hx⟩ := hc k hlt
      have hx' : wr.cell? ⟨b, off + k, none⟩ = some (.int .u8 x) := by rw [hb.cell (p := ⟨b, off + k, none⟩) hbl]; exact hx
      have c2 : wr.cell? ⟨w.heap.size, 2, none⟩ = some (.int .i64 s) := hrow.cell (i := 2) (by omega)
      have f2 := hrow.frozen 2
      have HR := Lib.hid hrow
      have HBW := Lib.hid hb
      clear hc hx hrow hb
      have r1 : 0 ≤ (s * 67 + x) % 2147483647 := Int.emod_nonneg _ (by omega)
      have r2 : (s * 67 + x) % 2147483647 < 2147483647 := Int.emod_lt_of_pos _ (by omega)
      have hki : (k : Int) < (n : Int) := by omega
      have hkj : (k : Int) < 64 := by omega
      go_wp2
      go_region
      go_wp2
      go_roundw
      case rel => exact ⟨k + 1, (s * 67 + x) % 2147483647, by omega, by go_num, r1, r2, rowIs_seed HR.out _, (HBW.out.setCell (Nat.le_refl _) _).drew⟩
      case measure => simp [intOf]; omega
    · have HR := Lib.hid hrow
      have HBW := Lib.hid hb
      clear hrow hb hcode
      by_cases hlt2 : k < n
      · have h64 : ¬ ((k : Int) < 64) := by omega
        have h64' : decide ((k : Int) < 64) = false := by simpa using h64
        clear hlt h64
        go_wp2
        go_ret
        exact ⟨rfl, ⟨a, n, cap, 0, s, HR.out, (CodeAt.below HB.out HBW.out), Nat.zero_le _, s1, s2⟩, HBW.out⟩
      · have hkn : k = n := by omega
        subst hkn
        clear hlt hlt2
        go_wp2
        go_ret
        exact ⟨rfl, ⟨a, k, cap, 0, s, HR.out, (CodeAt.below HB.out HBW.out), Nat.zero_le _, s1, s2⟩, HBW.out⟩

/-- What a picked number is: one of the list. -/
def PickPost (g : Nat) (w : World) (e : Ending) (w' : World) : Prop :=
  ∃ x : Int, e = .returned (.int .i64 x) ∧ (Lit.int .i64 x).wf = true ∧ Src w' g ∧ Thr g w w'

set_option maxRecDepth 100000 in
set_option maxHeartbeats 1000000 in
theorem pick (g b off n cap : Nat) (w : World) (h : Src w g) (hn : 0 < n) (hm : n ≤ 100) (hbg : g < b) (hc : ∀ i, i < n → ∃ x : Int, (Lit.int .i64 x).wf = true ∧ w.cell? ⟨b, off + i, none⟩ = some (.int .i64 x)) :
    Calls Tryz.prog 94 #[.pointer (some ⟨g, 0, none⟩), .slice (some ⟨b, off, none⟩) n cap] w (PickPost g w) := by
  have hbl : b < w.heap.size := by obtain ⟨x, _, hx⟩ := hc 0 hn; exact cell_lt hx
  have hwf : (Lit.int .i64 (n : Int)).wf = true := wf_small _ (by omega) (by omega)
  go_enter Tryz.func94, Tryz.ntmps94
  go_wp2_with fail
  refine (next _ _ _ hwf h).mono ?_
  rintro e w1 ⟨x, rfl, hx1, hx2, hs, ht⟩
  obtain ⟨k, rfl⟩ := Int.eq_ofNat_of_zero_le hx1
  have hk : k < n := by omega
  obtain ⟨y, hy, hcy⟩ := hc k hk
  have hcy' : w1.cell? ⟨b, off + k, none⟩ = some (.int .i64 y) := by rw [ht.cell (p := ⟨b, off + k, none⟩) hbl (by show b ≠ g; omega)]; exact hcy
  have hki : (k : Int) < (n : Int) := by omega
  have HT := Lib.hid ht
  have HS := Lib.hid hs
  clear hc hcy ht hs hx2
  go_wp2
  go_ret
  exact ⟨y, rfl, hy, HS.out, HT.out⟩

theorem litCells (w : World) (l : List Int) (vs : Array Value) (T : Nat) (hv : vs = (l.map (Value.int .i64)).toArray) (hw : l.all (fun x => (Lit.int .i64 x).wf) = true) :
    ∀ i, i < l.length → ∃ x : Int, (Lit.int .i64 x).wf = true ∧ (w.alloc (.cells vs T)).cell? ⟨w.heap.size, 0 + i, none⟩ = some (.int .i64 x) := by
  intro i hi
  refine ⟨l[i], ?_, ?_⟩
  · exact List.all_eq_true.1 hw _ (List.getElem_mem hi)
  · subst hv
    have e : (w.alloc (.cells (l.map (Value.int .i64)).toArray T)).heap[w.heap.size]? = some (.cells (l.map (Value.int .i64)).toArray T (0, 0)) := by
      show (w.heap.push _)[w.heap.size]? = _
      simp
    simp only [World.cell?, e]
    simp [hi]
theorem Thr.alloc {g : Nat} {a b : World} (h : Thr g a b) (hg : g ≤ b.heap.size) (o : Obj) : Thr g a (b.alloc o) :=
  ⟨h.below.alloc hg o, fun k h1 h2 => (Below.heap_alloc _ _ _ (by have := h.below.size; omega)).trans (h.other k h1 h2)⟩
theorem Src.alloc {w : World} {g : Nat} (h : Src w g) (o : Obj) : Src (w.alloc o) g := h.below ((Below.refl _ _).alloc (by have := h.lt; omega) _)

/-- What a drawn value is: an integer. -/
def ValPost (g : Nat) (w : World) (e : Ending) (w' : World) : Prop :=
  ∃ x : Int, e = .returned (.int .i64 x) ∧ (Lit.int .i64 x).wf = true ∧ Src w' g ∧ Thr g w w'

set_option maxRecDepth 100000 in
set_option maxHeartbeats 1000000 in
theorem drawValue (g : Nat) (w : World) (h : Src w g) :
    Calls Tryz.prog 127 #[.pointer (some ⟨g, 0, none⟩)] w (ValPost g w) := by
  go_enter Tryz.func127, Tryz.ntmps127
  go_wp2_with fail
  refine (next _ _ _ (by decide) h).mono ?_
  rintro e w1 ⟨x, rfl, hx1, hx2, hs, ht⟩
  have HT := Lib.hid ht
  have HS := Lib.hid hs
  clear ht hs hx2
  by_cases h0 : x = 0 ∨ x = 1 ∨ x = 2
  · rcases h0 with rfl | rfl | rfl
    all_goals
      go_wp2
      go_ret
      exact ⟨_, rfl, by decide, HS.out, HT.out⟩
  · have e0 : (x == 0) = false := by simp; omega
    have e1 : (x == 1) = false := by simp; omega
    have e2 : (x == 2) = false := by simp; omega
    clear h0
    by_cases h3 : x = 3
    · subst h3
      go_wp2_with fail
      refine (pick g _ 0 7 7 _ (HS.out.alloc _) (by omega) (by omega) HS.out.lt (litCells _ [1000000, 1000001, -1000000, -1000001, -999999999999999, -1000000000000001, 9223372036854775807] _ _ rfl (by decide))).mono ?_
      rintro e w2 ⟨y, rfl, hy, hs2, ht2⟩
      have HT2 := Lib.hid ((HT.out.alloc (Nat.le_of_lt HS.out.lt) _).trans ht2)
      have HS2 := Lib.hid hs2
      clear ht2 hs2
      go_wp2
      go_ret
      exact ⟨_, rfl, hy, HS2.out, HT2.out⟩
    · have e3 : (x == 3) = false := by simp; omega
      clear h3
      by_cases h4 : x = 4
      · subst h4
        go_wp2_with fail
        refine (next _ _ _ (by decide) HS.out).mono ?_
        rintro e w2 ⟨y, rfl, hy1, hy2, hs2, ht2⟩
        have hy3 : y < 2000 := by omega
        have HT2 := Lib.hid (HT.out.trans ht2)
        have HS2 := Lib.hid hs2
        clear ht2 hs2 hy2
        go_wp2
        go_ret
        exact ⟨_, rfl, wf_small _ (by omega) (by omega), HS2.out, HT2.out⟩
      · have e4 : (x == 4) = false := by simp; omega
        clear h4
        go_wp2_with fail
        refine (next _ _ _ (by decide) HS.out).mono ?_
        rintro e w2 ⟨y, rfl, hy1, hy2, hs2, ht2⟩
        have hy3 : y < 41 := by omega
        have HT2 := Lib.hid (HT.out.trans ht2)
        have HS2 := Lib.hid hs2
        clear ht2 hs2 hy2
        go_wp2
        go_ret
        exact ⟨_, rfl, wf_small _ (by omega) (by omega), HS2.out, HT2.out⟩
end Go.Proofs.YtlofnadpgnbmdaaGreat.V

namespace Go.Proofs.YtlofnadpgnbmdaaGreat.V
open Go.RowKit

theorem Own.thr {w w' : World} {B g : Nat} {v : Value} {l : List Int} (h : Own w B v l) (ht : Thr g w w') (hB : g < B) : Own w' B v l := h.keep (fun k h1 h2 => ht.other k (by omega) h2)
theorem OwnM.thr {w w' : World} {B g : Nat} {v : Value} {R : List (List Int)} (h : OwnM w B v R) (ht : Thr g w w') (hB : g < B) : OwnM w' B v R := h.keep (fun k h1 h2 => ht.other k (by omega) h2)
theorem Thr.of_below {g : Nat} {w w' : World} (h : Below w.heap.size w w') (hg : g ≤ w.heap.size) : Thr g w w' := ⟨h.mono hg, fun k _ h2 => h.block k h2⟩
theorem Thr.frozen {g : Nat} {w w' : World} (h : Thr g w w') {p : Addr} (hp : p.block < w.heap.size) (hne : g < p.block) : w'.frozen? p = w.frozen? p := World.frozen?_of_block (w := w) (h.other _ hne hp)

/-- A matrix that is being drawn: the source is block g, the matrix lies in blocks from B on; only these have changed since w0. -/
def DJ (g B : Nat) (v : Value) (R : List (List Int)) (w0 w : World) : Prop := OwnM w B v R ∧ Src w g ∧ Thr g w0 w
theorem DJ.next {g B : Nat} {v : Value} {R : List (List Int)} {w0 w w' : World} (h : DJ g B v R w0 w) (hB : g < B) (hs : Src w' g) (ht : Thr g w w') : DJ g B v R w0 w' :=
  ⟨h.1.thr ht hB, hs, h.2.2.trans ht⟩

/-- A store into an entry whose row is known. -/
theorem OwnM.put {w : World} {B n cap o k t q L c : Nat} {R : List (List Int)} (h : OwnM w B (.slice (some ⟨o, 0, none⟩) n cap) R) (hi : k < n) (hj : t < (R.getD k []).length) (hc : w.cell? ⟨o, k, none⟩ = some (.slice (some ⟨q, 0, none⟩) L c)) (y : Int) :
    OwnM (w.setCell ⟨q, t, none⟩ (.int .i64 y)) B (.slice (some ⟨o, 0, none⟩) n cap) (R.set k ((R.getD k []).set t y)) := by
  obtain ⟨g, q', L', c', x, hg, -, -, -, -, h1, -, -, h2⟩ := h.at k t hi hj
  injection hg with hg
  injection hg with hg
  subst hg
  rw [hc] at h1
  injection h1 with h1
  injection h1 with h1
  injection h1 with h1
  injection h1 with h1
  subst h1
  exact h2 y

theorem Rect.set {R : List (List Int)} {n L : Nat} (h : Rect R n L) (i j : Nat) (y : Int) (hi : i < n) : Rect (R.set i ((R.getD i []).set j y)) n L := by
  refine ⟨by simpa using h.1, fun k hk => ?_⟩
  rw [getD_set _ _ _ _ _ (by rw [h.1]; exact hi)]
  by_cases e : k = i
  · rw [if_pos e]; simpa using h.2 i hi
  · rw [if_neg e]; exact h.2 k hk

/-- A store into a matrix that is being drawn. -/
theorem DJ.store {g B q t n cap : Nat} {a : Option Addr} {R R' : List (List Int)} {w0 w : World} {x : Int} (h : DJ g B (.slice a n cap) R w0 w) (hB : w0.heap.size ≤ B) (hg : g < B) (hq : B ≤ q)
    (ho : OwnM (w.setCell ⟨q, t, none⟩ (.int .i64 x)) B (.slice a n cap) R') : DJ g B (.slice a n cap) R' w0 (w.setCell ⟨q, t, none⟩ (.int .i64 x)) := by
  refine ⟨ho, h.2.1.below ?_, ?_⟩
  · exact (Below.refl _ _).setCell (p := ⟨q, t, none⟩) (by show g + 1 ≤ q; omega) _
  · refine ⟨h.2.2.below.setCell (p := ⟨q, t, none⟩) (by show g ≤ q; omega) _, fun k h1 h2 => ?_⟩
    rw [Below.heap_setCell _ _ _ _ (by show k ≠ q; omega)]
    exact h.2.2.other k h1 h2

theorem DJ.drew {g B : Nat} {v : Value} {R : List (List Int)} {w0 w : World} (h : DJ g B v R w0 w) : DJ g B v R w0 w.drew := ⟨h.1.keep (fun _ _ _ => rfl), h.2.1, h.2.2.drew⟩
theorem dj_keep {g B a k q t : Nat} {u v val : Value} {R : List (List Int)} {w0 w' wx : World} (h : w'.cell? ⟨a, k, none⟩ = some u ∧ w'.cell? ⟨q, t, none⟩ = some v ∧ w'.frozen? ⟨q, t, none⟩ = false ∧ DJ g B val R w0 w') (hB : g < B) (ha : B ≤ a) (hq : B ≤ q) (hs : Src wx g) (ht : Thr g w' wx) :
    wx.cell? ⟨a, k, none⟩ = some u ∧ wx.cell? ⟨q, t, none⟩ = some v ∧ wx.frozen? ⟨q, t, none⟩ = false ∧ DJ g B val R w0 wx := by
  obtain ⟨h1, h2, h3, h4⟩ := h
  have l1 := cell_lt h1
  have l2 := cell_lt h2
  refine ⟨?_, ?_, ?_, h4.next hB hs ht⟩
  · rw [ht.cell (p := ⟨a, k, none⟩) l1 (by show a ≠ g; omega)]; exact h1
  · rw [ht.cell (p := ⟨q, t, none⟩) l2 (by show q ≠ g; omega)]; exact h2
  · rw [ht.frozen (p := ⟨q, t, none⟩) l2 (by show g < q; omega)]; exact h3

/-- What a drawn matrix is: some list of lists of integers, in new memory. -/
def DrawM (g : Nat) (w : World) (e : Ending) (w' : World) : Prop :=
  ∃ (a : Option Addr) (n cap : Nat) (R : List (List Int)), e = .returned (.slice a n cap) ∧ OwnM w' w.heap.size (.slice a n cap) R ∧ Src w' g ∧ Thr g w w'

/-- .. with few rows. -/
def DrawMB (g : Nat) (w : World) (e : Ending) (w' : World) : Prop :=
  ∃ (a : Option Addr) (n cap : Nat) (R : List (List Int)), e = .returned (.slice a n cap) ∧ n ≤ 200 ∧ OwnM w' w.heap.size (.slice a n cap) R ∧ Src w' g ∧ Thr g w w'
theorem DrawMB.less {g : Nat} {w w' : World} {e : Ending} (h : DrawMB g w e w') : DrawM g w e w' := by
  obtain ⟨a, n, cap, R, h1, -, h2⟩ := h
  exact ⟨a, n, cap, R, h1, h2⟩

end Go.Proofs.YtlofnadpgnbmdaaGreat.V
