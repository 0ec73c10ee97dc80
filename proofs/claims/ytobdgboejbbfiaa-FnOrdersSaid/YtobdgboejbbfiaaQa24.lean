/- Texts laid together: Lvp. -/
import Derived.Test.YtobdgboejbbfiaaQa3
import Derived.Test.YtobdgboejbbfiaaQa9
set_option linter.unusedSimpArgs false
set_option linter.unusedVariables false
set_option linter.unusedSectionVars false
namespace Go.Proofs.Ytobdgboejbbfiaa
namespace M
theorem owk_neg {f : Nat → Nat → Option Int} {v : Nat → Nat} {s : Nat} (h : ∀ u, u < s → ole (f (v (u + 1)) (v u)) (some 0)) : ole (owk f v s) (some 0) := by
  induction s with
  | zero => exact ole_rfl _
  | succ s ih =>
    show ole (omul (f (v (s + 1)) (v s)) (owk f v s)) _
    exact ole_trans (omul_le_l (ih fun u hu => h u (by omega))) (h s (by omega))
theorem noPos_neg {A : Nat → Nat → Int} {n : Nat} (hn : n ≤ 10) (hA : ∀ i j, i < n → j < n → Sm 1000001000000 (A i j)) (h : ∀ i j, i < n → j < n → A i j ≤ 0) : noPos A n = true := by
  cases e : noPos A n with
  | true => rfl
  | false =>
    obtain ⟨v, s, g1, g2, g3, g4⟩ := gain_of hn hA e
    refine absurd (owk_neg fun u hu => ?_) g4
    have := h (v (u + 1)) (v u) (g3 _ (by omega)) (g3 _ (by omega))
    show ole (o (A _ _)) (some 0)
    unfold o
    split
    · exact ole_none _
    · exact this
theorem rch_supp {A B : Nat → Nat → Int} {n : Nat} (h : ∀ i j, i < n → j < n → A i j ≠ -1000000000000000 → B i j ≠ -1000000000000000) {v i : Nat} (hr : Rch A n v i) : Rch B n v i := by
  obtain ⟨t, x, h1, h2, h3, h4⟩ := hr
  exact ⟨t, x, h1, h2, h3, fun u hu => h _ _ (h3 _ (by omega)) (h3 _ (by omega)) (h4 u hu)⟩
theorem relB_supp {A B : Nat → Nat → Int} {n : Nat} (h : ∀ i j, i < n → j < n → (A i j = -1000000000000000 ↔ B i j = -1000000000000000)) (v w : Nat) : relB A n v w = relB B n v w := by
  have h1 : ∀ v w, Rch A n v w ↔ Rch B n v w := fun v w => ⟨rch_supp fun i j hi hj k q => k ((h i j hi hj).2 q), rch_supp fun i j hi hj k q => k ((h i j hi hj).1 q)⟩
  rw [Bool.eq_iff_iff, relB_t, relB_t, h1, h1]
theorem compL_supp {A B : Nat → Nat → Int} {n : Nat} (h : ∀ i j, i < n → j < n → (A i j = -1000000000000000 ↔ B i j = -1000000000000000)) (v : Nat) : compL A n v = compL B n v := by
  unfold compL compP
  rw [show relB A n v = relB B n v from funext fun w => relB_supp h v w]
section
variable {l : List (Int × Int × Int × Int)} {N : Nat}
theorem wt_ent (f : Int × Int × Int × Int → Int) {i j : Nat} (hi : i < N) (hj : j < N) : ent (wtM f N l) i j = wtF f l i j := ent_mk _ _ _ _ _ hi hj
theorem wt_noPos (f : Int × Int × Int × Int → Int) : noPos (ent (wtM f N l)) N = noPos (wtF f l) N := noPos_congr fun _ _ hi hj => wt_ent f hi hj
theorem wt_star (f : Int × Int × Int × Int → Int) {i j : Nat} (hi : i < N) (hj : j < N) : ent (starM (wtM f N l) N) i j = starF (wtF f l) N i j := by
  unfold starM
  rw [ent_mk _ _ _ _ _ hi hj]
  exact starF_congr (fun _ _ hi hj => wt_ent f hi hj) hi hj
/-- The dead cycle. -/
def deadQ (l : List (Int × Int × Int × Int)) (N : Nat) : List Int := overL (wtF fNil l) N (-1)
theorem nil_sm (i j : Nat) : Sm 1000001000000 (wtF fNil l i j) := by
  have h : Sm 1000001000000 (wtF fNil l i j) := by
    rcases uz_graph l i j with ⟨-, e⟩ | ⟨-, e⟩ <;> rw [e] <;> unfold Sm <;> omega
  exact h
theorem over_one (hn : N ≤ 10) : overL (ent (wtM fOne N l)) N 0 = deadQ l N := by
  rw [over_congr hn (fun i j _ _ => uz_sm (uz_graph l) i j) fun i j hi hj => wt_ent fOne hi hj]
  exact over_uz (uz_graph l) N
theorem over_nil (hn : N ≤ 10) : overL (ent (wtM fNil N l)) N (-1) = deadQ l N :=
  over_congr hn (fun i j _ _ => nil_sm i j) fun i j hi hj => wt_ent fNil hi hj
theorem dead_is (hn : N ≤ 10) : decide ((deadQ l N).length = 0) = liveB (wtF fOne l) N := dead_live (uz_graph l) hn
theorem one_val (p : Int × Int × Int × Int) : isVal (fOne p) = true := by unfold fOne; split <;> decide
theorem nil_val (p : Int × Int × Int × Int) : isVal (fNil p) = true := by unfold fNil; split <;> decide
theorem pos_one (n1 : 1 ≤ N) (n2 : N ≤ 10) : posRes (wtM fOne N l) = if (deadQ l N).length = 0 then ([], 4) else (deadQ l N, 0) := by
  have hs : sqB (wtM fOne N l) = true := wt_isMat n1 n2 fun p _ => one_val p
  have hl : (wtM fOne N l).length = N := mk_length _ _ _
  unfold posRes
  rw [if_pos hs, hl, over_one n2]
theorem dead_len (n2 : N ≤ 10) : (deadQ l N).length ≤ 11 := by
  have := grow_nodes (wtF fNil l) N (-1) N
  unfold deadQ overL
  have key : ∀ c v, (pick (fun v => grow (wtF fNil l) N (-1) N [(v : Int)] 0) c v).length ≤ 1 + N := by
    intro c
    induction c with
    | zero => intro v; show 0 ≤ _; omega
    | succ c ih =>
      intro v
      show (if _ then _ else _ : List Int).length ≤ _
      split
      · exact ih _
      · exact this [(v : Int)] 0
  have := key N 0
  omega
/-- The greatest weight of minus the tokens. -/
def tdF (l : List (Int × Int × Int × Int)) (N i j : Nat) : Int := starF (wtF fTok l) N i j
theorem tok_le (h : ∀ p ∈ l, 0 ≤ p.2.2.2 ∧ p.2.2.2 ≤ 5) (i j : Nat) : wtF fTok l i j ≤ 0 ∧ (wtF fTok l i j = -1000000000000000 ∨ -5 ≤ wtF fTok l i j) :=
  wtF_of (P := fun x => x ≤ 0 ∧ (x = -1000000000000000 ∨ -5 ≤ x)) (fun p hp => by unfold fTok; have := h p hp; omega) (by omega) i j
theorem tok_sm (h : ∀ p ∈ l, 0 ≤ p.2.2.2 ∧ p.2.2.2 ≤ 5) (i j : Nat) : Sm 1000001000000 (wtF fTok l i j) := by
  have := tok_le h i j
  unfold Sm; omega
theorem tok_noPos (hn : N ≤ 10) (h : ∀ p ∈ l, 0 ≤ p.2.2.2 ∧ p.2.2.2 ≤ 5) : noPos (wtF fTok l) N = true := noPos_neg hn (fun i j _ _ => tok_sm h i j) fun i j _ _ => (tok_le h i j).1
theorem td_sm (hn : N ≤ 10) (h : ∀ p ∈ l, 0 ≤ p.2.2.2 ∧ p.2.2.2 ≤ 5) {i j : Nat} (hi : i < N) (hj : j < N) : Sm 11000011000000 (tdF l N i j) := star_sm hn (fun i j _ _ => tok_sm h i j) (tok_noPos hn h) hi hj
theorem tok_val (h : ∀ p ∈ l, 0 ≤ p.2.2.2 ∧ p.2.2.2 ≤ 5) : ∀ p ∈ l, isVal (fTok p) = true := fun p hp => by
  have := h p hp
  unfold fTok isVal isFin
  simp; omega
/-- Whether a graph is strong. -/
def strB (l : List (Int × Int × Int × Int)) (N : Nat) : Bool := decide ((compL (wtF fArc l) N 0).length = N)
theorem arc_tok (h : ∀ p ∈ l, 0 ≤ p.2.2.2 ∧ p.2.2.2 ≤ 5) (i j : Nat) : (wtF fArc l i j = -1000000000000000 ↔ wtF fTok l i j = -1000000000000000) :=
  wtF_two (P := fun a b => (a = -1000000000000000 ↔ b = -1000000000000000)) (fun p hp a b _ => by unfold fArc fTok; have := h p hp; omega) Iff.rfl i j
theorem str_one (n1 : 1 ≤ N) (n2 : N ≤ 10) : sqB (wtM fArc N l) = true ∧ decide ((compL (ent (wtM fArc N l)) N 0).length = N) = strB l N := by
  refine ⟨wt_isMat n1 n2 fun p _ => by unfold fArc; decide, ?_⟩
  unfold strB
  rw [compL_supp (fun i j hi hj => by rw [wt_ent fArc hi hj]) 0]
theorem str_two (n1 : 1 ≤ N) (h : ∀ p ∈ l, 0 ≤ p.2.2.2 ∧ p.2.2.2 ≤ 5) : decide ((compsL (ent (wtM fTok N l)) N).length = 1) = strB l N := by
  rw [← irr_eq n1]
  unfold strB
  rw [compL_supp (B := wtF fArc l) (fun i j hi hj => by rw [wt_ent fTok hi hj, ← arc_tok h i j]) 0]
end
end M
end Go.Proofs.Ytobdgboejbbfiaa
