/- Texts laid together: It5, Clo3, Lva, Lvb, Lvp, Lvq, Draw1, Draw2, DrawM. -/
import Derived.Test.YtphobmddkphofaaQa10
import Derived.Test.YtphobmddkphofaaQa6
import Derived.Test.YtphobmddkphofaaQa1
import Derived.WalkMore
import Derived.Deep.LoopGhost
import Derived.Scope
import Derived.Test.YtphobmddkphofaaQa7
import Derived.Test.YtphobmddkphofaaQa8
import Derived.Test.YtphobmddkphofaaRows
import Derived.Test.YtphobmddkphofaaQa2
import Derived.WalkKit
import Derived.ProofKit
import Derived.WalkSmall
import Derived.Deep.QuietTactic
import Derived.BigQuiet
import Derived.BigRegion
import Derived.Deep.Draws
import Derived.Deep.OwnRows
import Derived.Lib.Hide
import Derived.OpenShut
import Derived.Test.YtphobmddkphofaaQa3
import Derived.Deep.RegionHeld3
set_option linter.unusedSimpArgs false
set_option linter.unusedVariables false
set_option linter.unusedSectionVars false
namespace Go.Proofs.Ytphobmddkphofaa.V
open Go Go.RowKit Go.Shelf
attribute [local go_sem] Oper.semAt_some

theorem own_head {w : World} {B n c : Nat} {b : Option Addr} {p : List Int} (h : Own w B (.slice b n c) p) (hn : 0 < p.length) : ∃ g, b = some ⟨g, 0, none⟩ ∧ B ≤ g := by
  obtain ⟨a', c', hv, -, -, hg⟩ := own_form h
  injection hv with e1 e2 e3
  obtain ⟨g, h1, h2, -⟩ := hg hn
  exact ⟨g, by rw [e1]; exact h1, h2⟩

end Go.Proofs.Ytphobmddkphofaa.V
namespace Go.Proofs.Ytphobmddkphofaa.M
theorem pick_len {g : Nat → List Int} {m : Nat} (h : ∀ v, (g v).length ≤ m) : ∀ c k, (pick g c k).length ≤ m := by
  intro c
  induction c with
  | zero => intro k; exact Nat.zero_le _
  | succ c ih =>
    intro k
    show (if _ then _ else _ : List Int).length ≤ m
    split
    · exact ih _
    · exact h k
theorem posRes_len (R : List (List Int)) : (posRes R).1.length ≤ 11 := by
  unfold posRes
  split
  · next h =>
    obtain ⟨m1, m2, -⟩ := isMat_t (sqB_t h).1
    split
    · simp
    · have := pick_len (g := fun v => grow (ent R) R.length 0 R.length [(v : Int)] 0) (m := 11) (fun v => by
        have := grow_nodes (ent R) R.length 0 R.length [(v : Int)] 0
        simp at this; omega) R.length 0
      exact this
  · simp
end Go.Proofs.Ytphobmddkphofaa.M

namespace Go.Proofs.Ytphobmddkphofaa.V
open Go.RowKit

/-- The matrix whose diagonal is 0 before row k. -/
def M.diaF (A : Nat → Nat → Int) (n k i j : Nat) : Int := if i = j ∧ i < k then 0 else M.cfw A n i j
set_option maxRecDepth 100000 in
set_option maxHeartbeats 1000000 in
theorem starOf (a : Option Addr) (n cap : Nat) (R : List (List Int)) (w : World) (h : Sq w a n R) :
    Calls Try.prog 154 #[.slice a n cap] w (CPost (M.starL R n) w) := by
  have HS := Lib.hid h
  obtain ⟨n1, n2⟩ := h.2.2.2
  clear h
  obtain ⟨r, hr⟩ : ∃ r, r = M.plusL R n := ⟨_, rfl⟩
  have HC : Calls Try.prog 172 #[.slice a n cap] w (CPost r w) := by rw [hr]; exact plusOf _ _ _ _ _ HS.out
  by_cases hp : M.noPos (M.ent R) n = true
  · have hr2 : r = (M.plusM R n, true) := by rw [hr]; unfold M.plusL; rw [hp]; rfl
    have HF : Hid (M.starL R n = (M.starM R n, true)) := by show _ = _; unfold M.starL; rw [hp]; rfl
    clear hr hp
    subst hr2
    go_enter Try.func154, Try.ntmps154
    go_wp2_with fail
    refine HC.mono ?_
    rintro e w1 ⟨a2, m, cap2, rfl, hO, hb⟩
    obtain rfl : m = n := by have := hO.len; simpa [M.plusM] using this
    have HO0 : Hid (OwnM w1 w.heap.size (.slice a2 m cap2) (M.mk m m (M.diaF (M.ent R) m 0))) :=
      (congrArg (OwnM _ _ _) (M.mk_congr fun i _ j _ => by unfold M.diaF; rw [if_neg (by omega)])).mp hO
    have HB0 := Lib.hid hb
    clear hO hb HC
    go_wp2
    go_loopw [6, 14] (fun _ i wr => ∃ k : Nat, k ≤ m ∧ i = .int .i64 k ∧ OwnM wr w.heap.size (.slice a2 m cap2) (M.mk m m (M.diaF (M.ent R) m k)) ∧ Below w.heap.size w wr) (fun _ i _ => m - (intOf i).toNat)
    case atStart => exact ⟨0, Nat.zero_le _, rfl, HO0.out, HB0.out⟩
    case round =>
      obtain ⟨k, hk, rfl, hO, hb⟩ := hrel
      have HO := Lib.hid hO
      have HB := Lib.hid hb
      clear hO hb HO0 HB0
      by_cases hlt : k < m
      · obtain ⟨g, q, L, c, x, rfl, hg, hq, hL, hx, h1, h2, h3, h4⟩ := HO.out.at k k hlt (by rw [M.mk_rowlen _ _ _ _ hlt]; exact hlt)
        rw [M.mk_rowlen _ _ _ _ hlt] at hL
        obtain rfl : m = L := hL.symm
        have hN := h4 0
        rw [M.mk_set _ _ _ _ _ _ hlt] at hN
        have HN := Lib.hid hN
        have hki : (k : Int) < (m : Int) := by omega
        clear hx h4 hN
        go_wp2
        go_roundw
        case rel =>
          refine ⟨k + 1, by omega, by go_num, (congrArg (OwnM _ _ _) (M.mk_congr fun i _ j _ => ?_)).mp HN.out, HB.out.setCell hq _⟩
          unfold M.diaF
          by_cases e : i = k
          · subst e
            by_cases e2 : j = i
            · subst e2; simp
            · rw [if_pos rfl, if_neg e2, if_neg (by omega), if_neg (by omega)]
          · rw [if_neg e]
            by_cases e2 : i = j ∧ i < k
            · rw [if_pos e2, if_pos (by omega)]
            · rw [if_neg e2, if_neg (by omega)]
        case measure => simp [intOf]; omega
      · obtain rfl : k = m := by omega
        go_wp2
        go_ret2
        rw [HF.out]
        refine ⟨_, _, _, rfl, (congrArg (OwnM _ _ _) (M.mk_congr fun i hi j _ => ?_)).mp HO.out, HB.out⟩
        unfold M.diaF M.starF
        by_cases e : i = j
        · rw [if_pos ⟨e, hi⟩, if_pos e]
        · rw [if_neg (by omega), if_neg e]
  · simp only [Bool.not_eq_true] at hp
    have hr2 : r = ([], false) := by rw [hr]; unfold M.plusL; rw [hp]; rfl
    have HF : Hid (M.starL R n = ([], false)) := by show _ = _; unfold M.starL; rw [hp]; rfl
    clear hr hp
    subst hr2
    go_enter Try.func154, Try.ntmps154
    go_wp2_with fail
    refine HC.mono ?_
    rintro e w1 ⟨a2, m, cap2, rfl, hO, hb⟩
    obtain rfl : m = 0 := by have := hO.len; simpa using this
    have HB0 := Lib.hid hb
    have HO0 := Lib.hid hO
    clear hO hb HC
    go_wp2
    go_loop [14] (fun i => i = .int .i64 0) (fun _ => 0)
    case atStart => rfl
    case round =>
      subst hrel
      go_wp2
      go_ret2
      rw [HF.out]
      exact ⟨_, _, _, rfl, HO0.out, HB0.out⟩



end Go.Proofs.Ytphobmddkphofaa.V

namespace Go.Proofs.Ytphobmddkphofaa
namespace M
/-- Two weights on the same arcs: 1 in the one, 0 in the other. -/
def UZ (A B : Nat → Nat → Int) : Prop := ∀ i j, (A i j = -1000000000000000 ∧ B i j = -1000000000000000) ∨ (A i j = 1 ∧ B i j = 0)
theorem clB_uz {A B : Nat → Nat → Int} (h : UZ A B) {p : List Int} {wt : Int} (hw : 0 ≤ wt) : clB A 0 p wt = clB B (-1) p 0 := by
  unfold clB
  rcases h (vx p 0) (lastV p) with ⟨h1, h2⟩ | ⟨h1, h2⟩
  · rw [h1, h2]; rfl
  · rw [h1, h2]
    rw [decide_eq_true (show (0 : Int) < wt + 1 by omega)]
    simp
theorem grow_uz {A B : Nat → Nat → Int} (h : UZ A B) (n f : Nat) : ∀ p wt, 0 ≤ wt → grow A n 0 f p wt = grow B n (-1) f p 0 := by
  induction f with
  | zero => intro p wt _; rfl
  | succ f ih =>
    intro p wt hw
    by_cases hc : clB A 0 p wt = true
    · rw [grow_yes hc, grow_yes (by rw [← clB_uz h hw]; exact hc)]
    · simp only [Bool.not_eq_true] at hc
      rw [grow_no hc, grow_no (by rw [← clB_uz h hw]; exact hc)]
      refine congrFun (congrFun (congrArg pick (funext fun v => ?_)) _) _
      rcases h v (lastV p) with ⟨h1, h2⟩ | ⟨h1, h2⟩
      · unfold stepG
        rw [if_pos (.inl h1), if_pos (.inl h2)]
      · by_cases hh : hasB p (v : Int) = true
        · unfold stepG
          rw [if_pos (.inr hh), if_pos (.inr hh)]
        · simp only [Bool.not_eq_true] at hh
          rw [step_go (by rw [h1]; omega) hh, step_go (by rw [h2]; omega) hh, h1, h2]
          exact ih _ _ (by omega)
theorem over_uz {A B : Nat → Nat → Int} (h : UZ A B) (n : Nat) : overL A n 0 = overL B n (-1) :=
  congrFun (congrFun (congrArg pick (funext fun _ => grow_uz h n n _ _ (Int.le_refl 0))) _) _
theorem uz_sm {A B : Nat → Nat → Int} (h : UZ A B) (i j : Nat) : Sm 1000001000000 (A i j) := by
  unfold Sm
  rcases h i j with ⟨h1, -⟩ | ⟨h1, -⟩ <;> omega
/-- Whether a node can be next. -/
def rdy (A : Nat → Nat → Int) (n : Nat) (o : List Int) (e : Nat) : Bool := !hasB o (e : Int) && (List.range n).all fun k => decide (A e k = -1000000000000000) || hasB o (k : Int)
theorem rdy_t {A : Nat → Nat → Int} {n e : Nat} {o : List Int} : rdy A n o e = true ↔ hasB o (e : Int) = false ∧ ∀ k, k < n → A e k ≠ -1000000000000000 → hasB o (k : Int) = true := by
  unfold rdy
  rw [Bool.and_eq_true, List.all_eq_true]
  constructor
  · rintro ⟨h1, h2⟩
    refine ⟨by simpa using h1, fun k hk ha => ?_⟩
    have := h2 k (List.mem_range.2 hk)
    simpa [ha] using this
  · rintro ⟨h1, h2⟩
    refine ⟨by simp [h1], fun k hk => ?_⟩
    by_cases ha : A e k = -1000000000000000
    · simp [ha]
    · simp [ha, h2 k (List.mem_range.1 hk) ha]
/-- The least node that can be next. -/
def nxtO (A : Nat → Nat → Int) (n : Nat) (o : List Int) : Option Nat := (List.range n).find? (rdy A n o)
def stepO (A : Nat → Nat → Int) (n : Nat) (o : List Int) : List Int := match nxtO A n o with
  | some e => o ++ [(e : Int)]
  | none => o
def ordL (A : Nat → Nat → Int) (n : Nat) : Nat → List Int
  | 0 => []
  | t + 1 => stepO A n (ordL A n t)
theorem nxtO_some {A : Nat → Nat → Int} {n : Nat} {o : List Int} {e : Nat} (h : nxtO A n o = some e) : e < n ∧ rdy A n o e = true :=
  ⟨List.mem_range.1 (List.mem_of_find?_eq_some h), List.find?_some h⟩
theorem nxtO_is {A : Nat → Nat → Int} {n : Nat} {o : List Int} {e : Nat} (he : e < n) (hr : rdy A n o e = true) (hl : ∀ k, k < e → rdy A n o k = false) : nxtO A n o = some e := by
  unfold nxtO
  rw [show n = e + (n - e) by omega, List.range_add, List.find?_append]
  have h1 : (List.range e).find? (rdy A (e + (n - e)) o) = none := by
    rw [List.find?_eq_none]
    intro k hk
    rw [show e + (n - e) = n by omega, hl k (List.mem_range.1 hk)]
    simp
  rw [h1, show n - e = (n - e - 1) + 1 by omega, List.range_succ_eq_map]
  simp only [List.map_cons, List.find?_cons, Nat.add_zero, Option.none_or]
  rw [show e + (n - e - 1 + 1) = n by omega, hr]
theorem nxtO_none {A : Nat → Nat → Int} {n : Nat} {o : List Int} (hl : ∀ k, k < n → rdy A n o k = false) : nxtO A n o = none := by
  unfold nxtO
  rw [List.find?_eq_none]
  intro k hk
  rw [hl k (List.mem_range.1 hk)]
  simp
theorem step_some {A : Nat → Nat → Int} {n : Nat} {o : List Int} {e : Nat} (h : nxtO A n o = some e) : stepO A n o = o ++ [(e : Int)] := by unfold stepO; rw [h]
theorem step_none {A : Nat → Nat → Int} {n : Nat} {o : List Int} (h : nxtO A n o = none) : stepO A n o = o := by unfold stepO; rw [h]
theorem ord_nodes (A : Nat → Nat → Int) (n t : Nat) : nodesB n (ordL A n t) = true ∧ diffB (ordL A n t) = true ∧ (ordL A n t).length ≤ t := by
  induction t with
  | zero => exact ⟨rfl, rfl, Nat.le_refl _⟩
  | succ t ih =>
    obtain ⟨h1, h2, h3⟩ := ih
    show nodesB n (stepO A n _) = true ∧ diffB (stepO A n _) = true ∧ (stepO A n _).length ≤ _
    cases e : nxtO A n (ordL A n t) with
    | none => rw [step_none e]; exact ⟨h1, h2, by omega⟩
    | some x =>
      obtain ⟨k1, k2⟩ := nxtO_some e
      rw [step_some e]
      exact ⟨nodesB_snoc h1 k1, diffB_snoc h2 (rdy_t.1 k2).1, by simp; omega⟩
theorem ord_len (A : Nat → Nat → Int) (n t : Nat) : (ordL A n t).length ≤ n := diffB_len (ord_nodes A n t).1 (ord_nodes A n t).2.1
def liveB (A : Nat → Nat → Int) (n : Nat) : Bool := decide ((ordL A n n).length = n)
/-- Once nothing can be next, nothing ever can. -/
theorem ord_short {A : Nat → Nat → Int} {n t : Nat} (h : (ordL A n t).length < t) : ∃ s, s < t ∧ nxtO A n (ordL A n s) = none ∧ ordL A n t = ordL A n s := by
  induction t with
  | zero => omega
  | succ t ih =>
    have hs : ordL A n (t + 1) = stepO A n (ordL A n t) := rfl
    by_cases q : (ordL A n t).length < t
    · obtain ⟨s, h1, h2, h3⟩ := ih q
      refine ⟨s, by omega, h2, ?_⟩
      rw [hs, h3, step_none h2]
    · cases e : nxtO A n (ordL A n t) with
      | none => exact ⟨t, by omega, e, by rw [hs, step_none e]⟩
      | some x => rw [hs, step_some e] at h; simp at h; omega
/-- All nodes are in an order of full length. -/
theorem ord_all {n : Nat} {o : List Int} (h1 : nodesB n o = true) (h2 : diffB o = true) (h3 : o.length = n) {x : Nat} (hx : x < n) : hasB o (x : Int) = true := by
  cases e : hasB o (x : Int) with
  | true => rfl
  | false =>
    have := diffB_len (nodesB_snoc h1 hx) (diffB_snoc h2 e)
    simp at this; omega
theorem has_snoc {o : List Int} {e x : Int} : hasB (o ++ [e]) x = (hasB o x || decide (x = e)) := by
  rw [Bool.eq_iff_iff, hasB_iff, Bool.or_eq_true, hasB_iff, decide_eq_true_eq, List.mem_append, List.mem_singleton]
/-- No closed walk meets what has been taken. -/
theorem ord_walk {A : Nat → Nat → Int} {n : Nat} {v : Nat → Nat} {s : Nat} (hs : 1 ≤ s) (hc : v s = v 0) (hv : ∀ u, u ≤ s → v u < n) (ha : ∀ u, u < s → A (v (u + 1)) (v u) ≠ -1000000000000000) (t : Nat) : ∀ u, u ≤ s → hasB (ordL A n t) (v u : Int) = false := by
  induction t with
  | zero => intro u _; rfl
  | succ t ih =>
    intro u hu
    show hasB (stepO A n (ordL A n t)) _ = false
    cases e : nxtO A n (ordL A n t) with
    | none => rw [step_none e]; exact ih u hu
    | some x =>
      rw [step_some e, has_snoc, ih u hu, Bool.false_or]
      refine decide_eq_false fun hx => ?_
      obtain ⟨-, h2⟩ := nxtO_some e
      have hr := (rdy_t.1 h2).2
      have hx' : v u = x := by omega
      obtain ⟨u', hu', hx''⟩ : ∃ u', u' < s ∧ v (u' + 1) = x := by
        by_cases h0 : u = 0
        · subst h0; exact ⟨s - 1, by omega, by rw [show s - 1 + 1 = s by omega, hc]; exact hx'⟩
        · exact ⟨u - 1, by omega, by rw [show u - 1 + 1 = u by omega]; exact hx'⟩
      have := hr (v u') (hv _ (by omega)) (by rw [← hx'']; exact ha u' hu')
      rw [ih u' (by omega)] at this
      exact absurd this (by simp)
theorem owk_arcs {f : Nat → Nat → Option Int} {v : Nat → Nat} {s : Nat} (h : owk f v s ≠ none) : ∀ u, u < s → f (v (u + 1)) (v u) ≠ none := by
  induction s with
  | zero => intro u hu; omega
  | succ s ih =>
    intro u hu e
    have h : omul (f (v (s + 1)) (v s)) (owk f v s) ≠ none := h
    by_cases q : u = s
    · subst q; rw [e, none_omul] at h; exact h rfl
    · refine ih (fun e2 => h ?_) u (by omega) e
      rw [e2, omul_none]
theorem live_noPos {A B : Nat → Nat → Int} {n : Nat} (hU : UZ A B) (hn : n ≤ 10) (h : liveB A n = true) : noPos A n = true := by
  cases e : noPos A n with
  | true => rfl
  | false =>
    obtain ⟨v, s, g1, g2, g3, g4⟩ := gain_of hn (fun i j _ _ => uz_sm hU i j) e
    have ha : ∀ u, u < s → A (v (u + 1)) (v u) ≠ -1000000000000000 := fun u hu hx => by
      refine owk_arcs (f := fun i j => o (A i j)) (v := v) (s := s) (fun hy => g4 (by rw [hy]; exact ole_none _)) u hu ?_
      show o (A _ _) = none
      rw [hx]; exact o_bot
    have h1 := ord_walk (n := n) g1 g2 g3 ha n 0 (Nat.zero_le _)
    have h2 := ord_all (ord_nodes A n n).1 (ord_nodes A n n).2.1 (of_decide_eq_true h) (g3 0 (Nat.zero_le _))
    rw [h1] at h2
    cases h2
theorem sum_att {k : Nat} {f : Nat → Int} : sumN k f = -1000000000000000 ∨ ∃ t, t < k ∧ sumN k f = f t := by
  induction k with
  | zero => exact .inl rfl
  | succ k ih =>
    show max (sumN k f) (f k) = _ ∨ ∃ t, t < k + 1 ∧ max (sumN k f) (f k) = f t
    rcases Int.le_total (sumN k f) (f k) with q | q
    · rw [Int.max_eq_right q]; exact .inr ⟨k, by omega, rfl⟩
    · rw [Int.max_eq_left q]
      rcases ih with e | ⟨t, h1, h2⟩
      · exact .inl e
      · exact .inr ⟨t, by omega, h2⟩
/-- The greatest weight of a path to a node. -/
def lev (A : Nat → Nat → Int) (n i : Nat) : Int := sumN n fun j => starF A n i j
section
variable {A B : Nat → Nat → Int} {n : Nat} (hU : UZ A B) (hn : n ≤ 10) (hp : noPos A n = true)
include hU hn hp
theorem star_eq {i j : Nat} (hi : i < n) (hj : j < n) : starF A n i j = max (unit i j) (sumN n fun u => times (A i u) (starF A n u j)) := by
  have hA : ∀ i j, i < n → j < n → Sm 1000001000000 (A i j) := fun i j _ _ => uz_sm hU i j
  have h1 : cbm A n (n + 1) i j = max (unit i j) (sumN n fun u => times (A i u) (cbm A n n u j)) := rfl
  have h2 : starF A n i j = cbm A n n i j := (clo_star hn hA hp hi hj).symm
  rw [h2, ← clo_same hn hA hp hi hj, h1]
  congr 1
  exact sumN_congr fun u hu => by rw [clo_star hn hA hp hu hj]; rfl
theorem lev_nn {i : Nat} (hi : i < n) : 0 ≤ lev A n i := by
  have := sum_ge (f := fun j => starF A n i j) hi
  have h0 : starF A n i i = 0 := if_pos rfl
  have this : starF A n i i ≤ lev A n i := this
  omega
theorem lev_up {i k : Nat} (hi : i < n) (hk : k < n) (ha : A i k ≠ -1000000000000000) : lev A n k + 1 ≤ lev A n i := by
  have h1 : A i k = 1 := by rcases hU i k with ⟨q, -⟩ | ⟨q, -⟩; exact absurd q ha; exact q
  have h0 := lev_nn hU hn hp hk
  rcases sum_att (k := n) (f := fun j => starF A n k j) with e | ⟨j, hj, e⟩
  · unfold lev at h0; omega
  · have hf : starF A n k j ≠ -1000000000000000 := fun q => by unfold lev at h0; rw [e, q] at h0; omega
    have e1 := star_eq hU hn hp hi hj
    have e2 := sum_ge (f := fun u => times (A i u) (starF A n u j)) hk
    have e3 := sum_ge (f := fun j => starF A n i j) hj
    have e2 : times (A i k) (starF A n k j) ≤ sumN n fun u => times (A i u) (starF A n u j) := e2
    rw [h1, times_fin (show (1 : Int) ≠ -1000000000000000 by omega) hf] at e2
    have e3 : starF A n i j ≤ lev A n i := e3
    have e : lev A n k = starF A n k j := e
    rw [e]
    have := Int.le_max_right (unit i j) (sumN n fun u => times (A i u) (starF A n u j))
    omega
theorem lev_from {i : Nat} (hi : i < n) : lev A n i = 0 ∨ ∃ k, k < n ∧ A i k ≠ -1000000000000000 ∧ lev A n i = lev A n k + 1 := by
  have h0 := lev_nn hU hn hp hi
  rcases sum_att (k := n) (f := fun j => starF A n i j) with e | ⟨j, hj, e⟩
  · unfold lev at h0; omega
  · have e : lev A n i = starF A n i j := e
    have e1 := star_eq hU hn hp hi hj
    rcases Int.le_total (sumN n fun u => times (A i u) (starF A n u j)) (unit i j) with q | q
    · rw [Int.max_eq_left q] at e1
      left
      unfold unit at e1
      split at e1 <;> omega
    · rw [Int.max_eq_right q] at e1
      rcases sum_att (k := n) (f := fun u => times (A i u) (starF A n u j)) with e2 | ⟨u, hu, e2⟩
      · rw [e2] at e1; omega
      · have e2 : (sumN n fun u => times (A i u) (starF A n u j)) = times (A i u) (starF A n u j) := e2
        have hne : times (A i u) (starF A n u j) ≠ -1000000000000000 := fun hx => by rw [hx] at e2; omega
        have hA : A i u ≠ -1000000000000000 := fun hx => hne (by rw [hx]; exact bot_times _)
        have hS : starF A n u j ≠ -1000000000000000 := fun hx => hne (by unfold times; rw [if_pos (.inr hx)])
        have h1 : A i u = 1 := by rcases hU i u with ⟨q, -⟩ | ⟨q, -⟩; exact absurd q hA; exact q
        rw [h1, times_fin (by omega) hS] at e2
        right
        refine ⟨u, hu, hA, ?_⟩
        have e3 := sum_ge (f := fun j => starF A n u j) hj
        have e4 := lev_up hU hn hp hi hu hA
        have e5 : lev A n u = sumN n fun j => starF A n u j := rfl
        have e3 : starF A n u j ≤ lev A n u := e3
        omega
theorem ord_goes {t : Nat} (ht : t < n) (hl : (ordL A n t).length = t) : ∃ e, nxtO A n (ordL A n t) = some e := by
  cases e : nxtO A n (ordL A n t) with
  | some x => exact ⟨x, rfl⟩
  | none =>
    exfalso
    obtain ⟨h1, h2, -⟩ := ord_nodes A n t
    -- a node that is not taken
    have hex : ∃ x, x < n ∧ hasB (ordL A n t) (x : Int) = false := by
      apply Classical.byContradiction
      intro hno
      have hall : ∀ x, x < n → hasB (ordL A n t) (x : Int) = true := fun x hx => by
        cases q : hasB (ordL A n t) (x : Int) with
        | true => rfl
        | false => exact absurd ⟨x, hx, q⟩ hno
      obtain ⟨a, b, hab, hb, hi⟩ := pigeon t (fun x => (ordL A n t).idxOf (x : Int)) (fun x hx => by
        have := List.idxOf_lt_length_of_mem (hasB_iff.1 (hall x (by omega)))
        omega)
      have g1 := List.getElem_idxOf (List.idxOf_lt_length_of_mem (hasB_iff.1 (hall a (by omega))))
      have g2 := List.getElem_idxOf (List.idxOf_lt_length_of_mem (hasB_iff.1 (hall b (by omega))))
      have hi : (ordL A n t).idxOf (a : Int) = (ordL A n t).idxOf (b : Int) := hi
      have g3 : (ordL A n t)[(ordL A n t).idxOf (b : Int)]? = some (a : Int) := by
        rw [← hi]; exact List.getElem?_eq_some_iff.2 ⟨_, g1⟩
      have g4 : (ordL A n t)[(ordL A n t).idxOf (b : Int)]? = some (b : Int) := List.getElem?_eq_some_iff.2 ⟨_, g2⟩
      rw [g3] at g4
      have := Option.some.inj g4
      omega
    have hmin : ∀ m : Nat, ∀ x, x < n → hasB (ordL A n t) (x : Int) = false → lev A n x ≤ m → False := by
      intro m
      induction m with
      | zero =>
        intro x hx hn0 hm
        have hnr : ¬ rdy A n (ordL A n t) x = true := fun hr => by
          have := List.find?_eq_none.1 e x (List.mem_range.2 hx)
          exact this hr
        apply hnr
        refine rdy_t.2 ⟨hn0, fun k hk ha => ?_⟩
        have := lev_up hU hn hp hx hk ha
        have := lev_nn hU hn hp hk
        omega
      | succ m ih =>
        intro x hx hn0 hm
        have hnr : ¬ rdy A n (ordL A n t) x = true := fun hr => by
          have := List.find?_eq_none.1 e x (List.mem_range.2 hx)
          exact this hr
        apply hnr
        refine rdy_t.2 ⟨hn0, fun k hk ha => ?_⟩
        cases q : hasB (ordL A n t) (k : Int) with
        | true => rfl
        | false =>
          have := lev_up hU hn hp hx hk ha
          exact absurd (ih k hk q (by omega)) id
    obtain ⟨x, hx, hn0⟩ := hex
    exact hmin (lev A n x).toNat x hx hn0 (by omega)
theorem ord_full {t : Nat} (ht : t ≤ n) : (ordL A n t).length = t := by
  induction t with
  | zero => rfl
  | succ t ih =>
    have hl := ih (by omega)
    obtain ⟨e, he⟩ := ord_goes hU hn hp (by omega) hl
    show (stepO A n _).length = _
    rw [step_some he, List.length_append, hl]; rfl
end
theorem noPos_live {A B : Nat → Nat → Int} {n : Nat} (hU : UZ A B) (hn : n ≤ 10) (hp : noPos A n = true) : liveB A n = true :=
  decide_eq_true (ord_full hU hn hp (Nat.le_refl _))
theorem live_is {A B : Nat → Nat → Int} {n : Nat} (hU : UZ A B) (hn : n ≤ 10) : liveB A n = noPos A n := by
  cases e : noPos A n with
  | true => exact noPos_live hU hn e
  | false =>
    cases q : liveB A n with
    | false => rfl
    | true => rw [live_noPos hU hn q] at e; cases e
theorem dead_live {A B : Nat → Nat → Int} {n : Nat} (hU : UZ A B) (hn : n ≤ 10) : decide ((overL B n (-1)).length = 0) = liveB A n := by
  rw [live_is hU hn, ← over_uz hU]
  have hA : ∀ i j, i < n → j < n → Sm 1000001000000 (A i j) := fun i j _ _ => uz_sm hU i j
  cases e : noPos A n with
  | true => exact decide_eq_true (over_none hn hA e)
  | false => exact decide_eq_false (over_some hn hA e)
/-- The order is the same for both weights. -/
theorem rdy_uz {A B : Nat → Nat → Int} (hU : UZ A B) (n : Nat) (o : List Int) (e : Nat) : rdy A n o e = rdy B n o e := by
  rw [Bool.eq_iff_iff, rdy_t, rdy_t]
  have : ∀ k, A e k ≠ -1000000000000000 ↔ B e k ≠ -1000000000000000 := fun k => by
    rcases hU e k with ⟨h1, h2⟩ | ⟨h1, h2⟩ <;> rw [h1, h2] <;> simp
  exact ⟨fun ⟨a, b⟩ => ⟨a, fun k hk hx => b k hk ((this k).2 hx)⟩, fun ⟨a, b⟩ => ⟨a, fun k hk hx => b k hk ((this k).1 hx)⟩⟩
theorem ord_uz {A B : Nat → Nat → Int} (hU : UZ A B) (n t : Nat) : ordL A n t = ordL B n t := by
  induction t with
  | zero => rfl
  | succ t ih =>
    show stepO A n _ = stepO B n _
    rw [ih]
    unfold stepO nxtO
    rw [show rdy A n (ordL B n t) = rdy B n (ordL B n t) from funext fun e => rdy_uz hU n _ e]
/-- Levels as they are computed along the order. -/
def lvP (A : Nat → Nat → Int) (n i : Nat) : Nat → Int
  | 0 => 0
  | k + 1 => if A i k = -1000000000000000 then lvP A n i k else max (lvP A n i k) (lev A n k + 1)
theorem lvP_le {A B : Nat → Nat → Int} {n : Nat} (hU : UZ A B) (hn : n ≤ 10) (hp : noPos A n = true) {i : Nat} (hi : i < n) {k : Nat} (hk : k ≤ n) : lvP A n i k ≤ lev A n i ∧ 0 ≤ lvP A n i k := by
  induction k with
  | zero => exact ⟨lev_nn hU hn hp hi, Int.le_refl _⟩
  | succ k ih =>
    obtain ⟨h1, h2⟩ := ih (by omega)
    show (if A i k = -1000000000000000 then lvP A n i k else max (lvP A n i k) (lev A n k + 1)) ≤ _ ∧ 0 ≤ (if A i k = -1000000000000000 then lvP A n i k else max (lvP A n i k) (lev A n k + 1))
    split
    · exact ⟨h1, h2⟩
    · next ha => have := lev_up hU hn hp hi (k := k) (by omega) ha; omega
theorem lvP_ge {A : Nat → Nat → Int} {n i k : Nat} (ha : A i k ≠ -1000000000000000) : ∀ m, k < m → lev A n k + 1 ≤ lvP A n i m := by
  intro m
  induction m with
  | zero => omega
  | succ m ih =>
    intro hk
    show _ ≤ (if A i m = -1000000000000000 then lvP A n i m else max (lvP A n i m) (lev A n m + 1))
    by_cases e : k = m
    · subst e; rw [if_neg ha]; omega
    · have h0 := ih (by omega)
      split
      · exact h0
      · omega
theorem lvP_end {A B : Nat → Nat → Int} {n : Nat} (hU : UZ A B) (hn : n ≤ 10) (hp : noPos A n = true) {i : Nat} (hi : i < n) : lvP A n i n = lev A n i := by
  have h := lvP_le hU hn hp hi (Nat.le_refl n)
  rcases lev_from hU hn hp hi with e | ⟨k, hk, ha, e⟩
  · omega
  · have := lvP_ge (n := n) ha n hk; omega
theorem lev_bd {A B : Nat → Nat → Int} {n : Nat} (hU : UZ A B) (hn : n ≤ 10) (hp : noPos A n = true) {i : Nat} (hi : i < n) : 0 ≤ lev A n i ∧ lev A n i ≤ 11000011000000 := by
  refine ⟨lev_nn hU hn hp hi, sum_le (by omega) fun j hj => ?_⟩
  have := star_sm hn (fun i j _ _ => uz_sm hU i j) hp hi hj
  unfold Sm at this; omega
def levL (A : Nat → Nat → Int) (n : Nat) : List Int := (List.range n).map (lev A n)
end M
end Go.Proofs.Ytphobmddkphofaa

namespace Go.Proofs.Ytphobmddkphofaa
namespace M
/-- The greatest weight of the places from j to i. -/
def wtS (f : Int × Int × Int × Int → Int) (i j : Nat) (m : Int) (p : Int × Int × Int × Int) : Int := if p.2.1 = (i : Int) ∧ p.1 = (j : Int) then max m (f p) else m
def wtF (f : Int × Int × Int × Int → Int) (l : List (Int × Int × Int × Int)) (i j : Nat) : Int := l.foldl (wtS f i j) (-1000000000000000)
def wtM (f : Int × Int × Int × Int → Int) (n : Nat) (l : List (Int × Int × Int × Int)) : List (List Int) := mk n n (wtF f l)
theorem wtF_next (f : Int × Int × Int × Int → Int) (l : List (Int × Int × Int × Int)) {k : Nat} (hk : k < l.length) (i j : Nat) : wtF f (l.take (k + 1)) i j = wtS f i j (wtF f (l.take k) i j) (l.getD k (0, 0, 0, 0)) := by
  unfold wtF
  rw [List.take_add_one, List.foldl_append, List.getD_eq_getElem?_getD, List.getElem?_eq_getElem hk]
  rfl
/-- One place more. -/
theorem wtM_next (f : Int × Int × Int × Int → Int) (n : Nat) (l : List (Int × Int × Int × Int)) {k : Nat} (hk : k < l.length) {p0 p1 p2 p3 : Int} (hp : l.getD k (0, 0, 0, 0) = (p0, p1, p2, p3)) {i j : Nat} (hi : i < n) (h1 : p1 = (i : Int)) (h0 : p0 = (j : Int)) :
    (wtM f n (l.take k)).set i (((wtM f n (l.take k)).getD i []).set j (max (wtF f (l.take k) i j) (f (p0, p1, p2, p3)))) = wtM f n (l.take (k + 1)) := by
  unfold wtM
  rw [mk_set _ _ _ _ _ _ hi]
  refine mk_congr fun s hs t ht => ?_
  rw [wtF_next f l hk, hp]
  unfold wtS
  by_cases e : s = i
  · subst e
    rw [if_pos rfl]
    by_cases e2 : t = j
    · subst e2
      rw [if_pos rfl]
      exact (if_pos ⟨h1, h0⟩).symm
    · rw [if_neg e2]
      refine (if_neg ?_).symm
      rintro ⟨q1, q2⟩
      have q2 : p0 = (t : Int) := q2
      omega
  · rw [if_neg e]
    refine (if_neg ?_).symm
    rintro ⟨q1, q2⟩
    have q1 : p1 = (s : Int) := q1
    omega
/-- What all weights are, the greatest ones are as well, or Bottom. -/
theorem wtF_of {P : Int → Prop} {f : Int × Int × Int × Int → Int} {l : List (Int × Int × Int × Int)} (h : ∀ p ∈ l, P (f p)) (hb : P (-1000000000000000)) (i j : Nat) : P (wtF f l i j) := by
  unfold wtF
  suffices H : ∀ m, P m → P (l.foldl (wtS f i j) m) from H _ hb
  induction l with
  | nil => intro m hm; exact hm
  | cons p l ih =>
    intro m hm
    refine ih (fun q hq => h q (List.mem_cons_of_mem _ hq)) _ ?_
    unfold wtS
    split
    · rcases Int.le_total m (f p) with q | q
      · rw [Int.max_eq_right q]; exact h p List.mem_cons_self
      · rw [Int.max_eq_left q]; exact hm
    · exact hm
/-- Two weights of the same places. -/
theorem wtF_two {P : Int → Int → Prop} {f g : Int × Int × Int × Int → Int} {l : List (Int × Int × Int × Int)} (h : ∀ p ∈ l, ∀ a b, P a b → P (max a (f p)) (max b (g p))) (hb : P (-1000000000000000) (-1000000000000000)) (i j : Nat) : P (wtF f l i j) (wtF g l i j) := by
  unfold wtF
  suffices H : ∀ a b, P a b → P (l.foldl (wtS f i j) a) (l.foldl (wtS g i j) b) from H _ _ hb
  induction l with
  | nil => intro a b hm; exact hm
  | cons p l ih =>
    intro a b hm
    refine ih (fun q hq => h q (List.mem_cons_of_mem _ hq)) _ _ ?_
    unfold wtS
    split
    · exact h p List.mem_cons_self a b hm
    · exact hm
/-- The weights of this chapter: arcs of places without tokens, tokens, and places alone. -/
def fOne (p : Int × Int × Int × Int) : Int := if p.2.2.2 > 0 then -1000000000000000 else 1
def fNil (p : Int × Int × Int × Int) : Int := if p.2.2.2 > 0 then -1000000000000000 else 0
def fTok (p : Int × Int × Int × Int) : Int := - p.2.2.2
def fArc (_ : Int × Int × Int × Int) : Int := 0
theorem uz_graph (l : List (Int × Int × Int × Int)) : UZ (wtF fOne l) (wtF fNil l) := fun i j => by
  refine wtF_two (P := fun a b => (a = -1000000000000000 ∧ b = -1000000000000000) ∨ (a = 1 ∧ b = 0)) (fun p _ a b h => ?_) (.inl ⟨rfl, rfl⟩) i j
  unfold fOne fNil
  split
  · rcases h with ⟨rfl, rfl⟩ | ⟨rfl, rfl⟩
    · left; omega
    · right; omega
  · rcases h with ⟨rfl, rfl⟩ | ⟨rfl, rfl⟩
    · right; omega
    · right; omega
theorem wt_isMat {f : Int × Int × Int × Int → Int} {n : Nat} {l : List (Int × Int × Int × Int)} (h1 : 1 ≤ n) (h2 : n ≤ 10) (h : ∀ p ∈ l, isVal (f p) = true) : sqB (wtM f n l) = true := by
  unfold sqB wtM
  rw [isMat_mk h1 h2 h1 h2 fun i _ j _ => wtF_of (P := fun x => isVal x = true) h (by decide) i j, mk_length, mk_wid _ _ _ h1]
  simp
end M
end Go.Proofs.Ytphobmddkphofaa

namespace Go.Proofs.Ytphobmddkphofaa
namespace M
theorem owk_neg {f : Nat → Nat → Option Int} {v : Nat → Nat} {s : Nat} (h : ∀ u, u < s → ole (f (v (u + 1)) (v u)) (some 0)) : ole (owk f v s) (some 0) := by
  induction s with
  | zero => exact ole_rfl _
  | succ s ih =>
    show ole (omul (f (v (s + 1)) (v s)) (owk f v s)) _
    exact ole_trans (omul_le_l (ih fun u hu => h u (by omega))) (h s (by omega))
theorem noPos_neg {A : Nat → Nat → Int} {n : Nat} (hn : n ≤ 10) (hA : ∀ i j, i < n → j < n → Sm 1000001000000 (A i j)) (h : ∀ i j, i < n → j < n → A i j ≤ 0) : noPos A n = true := by
  cases e : noPos A n with
  | true => rfl
  | false =>
    obtain ⟨v, s, g1, g2, g3, g4⟩ := gain_of hn hA e
    refine absurd (owk_neg fun u hu => ?_) g4
    have := h (v (u + 1)) (v u) (g3 _ (by omega)) (g3 _ (by omega))
    show ole (o (A _ _)) (some 0)
    unfold o
    split
    · exact ole_none _
    · exact this
theorem rch_supp {A B : Nat → Nat → Int} {n : Nat} (h : ∀ i j, i < n → j < n → A i j ≠ -1000000000000000 → B i j ≠ -1000000000000000) {v i : Nat} (hr : Rch A n v i) : Rch B n v i := by
  obtain ⟨t, x, h1, h2, h3, h4⟩ := hr
  exact ⟨t, x, h1, h2, h3, fun u hu => h _ _ (h3 _ (by omega)) (h3 _ (by omega)) (h4 u hu)⟩
theorem relB_supp {A B : Nat → Nat → Int} {n : Nat} (h : ∀ i j, i < n → j < n → (A i j = -1000000000000000 ↔ B i j = -1000000000000000)) (v w : Nat) : relB A n v w = relB B n v w := by
  have h1 : ∀ v w, Rch A n v w ↔ Rch B n v w := fun v w => ⟨rch_supp fun i j hi hj k q => k ((h i j hi hj).2 q), rch_supp fun i j hi hj k q => k ((h i j hi hj).1 q)⟩
  rw [Bool.eq_iff_iff, relB_t, relB_t, h1, h1]
theorem compL_supp {A B : Nat → Nat → Int} {n : Nat} (h : ∀ i j, i < n → j < n → (A i j = -1000000000000000 ↔ B i j = -1000000000000000)) (v : Nat) : compL A n v = compL B n v := by
  unfold compL compP
  rw [show relB A n v = relB B n v from funext fun w => relB_supp h v w]
section
variable {l : List (Int × Int × Int × Int)} {N : Nat}
theorem wt_ent (f : Int × Int × Int × Int → Int) {i j : Nat} (hi : i < N) (hj : j < N) : ent (wtM f N l) i j = wtF f l i j := ent_mk _ _ _ _ _ hi hj
theorem wt_noPos (f : Int × Int × Int × Int → Int) : noPos (ent (wtM f N l)) N = noPos (wtF f l) N := noPos_congr fun _ _ hi hj => wt_ent f hi hj
theorem wt_star (f : Int × Int × Int × Int → Int) {i j : Nat} (hi : i < N) (hj : j < N) : ent (starM (wtM f N l) N) i j = starF (wtF f l) N i j := by
  unfold starM
  rw [ent_mk _ _ _ _ _ hi hj]
  exact starF_congr (fun _ _ hi hj => wt_ent f hi hj) hi hj
/-- The dead cycle. -/
def deadQ (l : List (Int × Int × Int × Int)) (N : Nat) : List Int := overL (wtF fNil l) N (-1)
theorem nil_sm (i j : Nat) : Sm 1000001000000 (wtF fNil l i j) := by
  have h : Sm 1000001000000 (wtF fNil l i j) := by
    rcases uz_graph l i j with ⟨-, e⟩ | ⟨-, e⟩ <;> rw [e] <;> unfold Sm <;> omega
  exact h
theorem over_one (hn : N ≤ 10) : overL (ent (wtM fOne N l)) N 0 = deadQ l N := by
  rw [over_congr hn (fun i j _ _ => uz_sm (uz_graph l) i j) fun i j hi hj => wt_ent fOne hi hj]
  exact over_uz (uz_graph l) N
theorem over_nil (hn : N ≤ 10) : overL (ent (wtM fNil N l)) N (-1) = deadQ l N :=
  over_congr hn (fun i j _ _ => nil_sm i j) fun i j hi hj => wt_ent fNil hi hj
theorem dead_is (hn : N ≤ 10) : decide ((deadQ l N).length = 0) = liveB (wtF fOne l) N := dead_live (uz_graph l) hn
theorem one_val (p : Int × Int × Int × Int) : isVal (fOne p) = true := by unfold fOne; split <;> decide
theorem nil_val (p : Int × Int × Int × Int) : isVal (fNil p) = true := by unfold fNil; split <;> decide
theorem pos_one (n1 : 1 ≤ N) (n2 : N ≤ 10) : posRes (wtM fOne N l) = if (deadQ l N).length = 0 then ([], 4) else (deadQ l N, 0) := by
  have hs : sqB (wtM fOne N l) = true := wt_isMat n1 n2 fun p _ => one_val p
  have hl : (wtM fOne N l).length = N := mk_length _ _ _
  unfold posRes
  rw [if_pos hs, hl, over_one n2]
theorem dead_len (n2 : N ≤ 10) : (deadQ l N).length ≤ 11 := by
  have := grow_nodes (wtF fNil l) N (-1) N
  unfold deadQ overL
  have key : ∀ c v, (pick (fun v => grow (wtF fNil l) N (-1) N [(v : Int)] 0) c v).length ≤ 1 + N := by
    intro c
    induction c with
    | zero => intro v; show 0 ≤ _; omega
    | succ c ih =>
      intro v
      show (if _ then _ else _ : List Int).length ≤ _
      split
      · exact ih _
      · exact this [(v : Int)] 0
  have := key N 0
  omega
/-- The greatest weight of minus the tokens. -/
def tdF (l : List (Int × Int × Int × Int)) (N i j : Nat) : Int := starF (wtF fTok l) N i j
theorem tok_le (h : ∀ p ∈ l, 0 ≤ p.2.2.2 ∧ p.2.2.2 ≤ 5) (i j : Nat) : wtF fTok l i j ≤ 0 ∧ (wtF fTok l i j = -1000000000000000 ∨ -5 ≤ wtF fTok l i j) :=
  wtF_of (P := fun x => x ≤ 0 ∧ (x = -1000000000000000 ∨ -5 ≤ x)) (fun p hp => by unfold fTok; have := h p hp; omega) (by omega) i j
theorem tok_sm (h : ∀ p ∈ l, 0 ≤ p.2.2.2 ∧ p.2.2.2 ≤ 5) (i j : Nat) : Sm 1000001000000 (wtF fTok l i j) := by
  have := tok_le h i j
  unfold Sm; omega
theorem tok_noPos (hn : N ≤ 10) (h : ∀ p ∈ l, 0 ≤ p.2.2.2 ∧ p.2.2.2 ≤ 5) : noPos (wtF fTok l) N = true := noPos_neg hn (fun i j _ _ => tok_sm h i j) fun i j _ _ => (tok_le h i j).1
theorem td_sm (hn : N ≤ 10) (h : ∀ p ∈ l, 0 ≤ p.2.2.2 ∧ p.2.2.2 ≤ 5) {i j : Nat} (hi : i < N) (hj : j < N) : Sm 11000011000000 (tdF l N i j) := star_sm hn (fun i j _ _ => tok_sm h i j) (tok_noPos hn h) hi hj
theorem tok_val (h : ∀ p ∈ l, 0 ≤ p.2.2.2 ∧ p.2.2.2 ≤ 5) : ∀ p ∈ l, isVal (fTok p) = true := fun p hp => by
  have := h p hp
  unfold fTok isVal isFin
  simp; omega
/-- Whether a graph is strong. -/
def strB (l : List (Int × Int × Int × Int)) (N : Nat) : Bool := decide ((compL (wtF fArc l) N 0).length = N)
theorem arc_tok (h : ∀ p ∈ l, 0 ≤ p.2.2.2 ∧ p.2.2.2 ≤ 5) (i j : Nat) : (wtF fArc l i j = -1000000000000000 ↔ wtF fTok l i j = -1000000000000000) :=
  wtF_two (P := fun a b => (a = -1000000000000000 ↔ b = -1000000000000000)) (fun p hp a b _ => by unfold fArc fTok; have := h p hp; omega) Iff.rfl i j
theorem str_one (n1 : 1 ≤ N) (n2 : N ≤ 10) : sqB (wtM fArc N l) = true ∧ decide ((compL (ent (wtM fArc N l)) N 0).length = N) = strB l N := by
  refine ⟨wt_isMat n1 n2 fun p _ => by unfold fArc; decide, ?_⟩
  unfold strB
  rw [compL_supp (fun i j hi hj => by rw [wt_ent fArc hi hj]) 0]
theorem str_two (n1 : 1 ≤ N) (h : ∀ p ∈ l, 0 ≤ p.2.2.2 ∧ p.2.2.2 ≤ 5) : decide ((compsL (ent (wtM fTok N l)) N).length = 1) = strB l N := by
  rw [← irr_eq n1]
  unfold strB
  rw [compL_supp (B := wtF fArc l) (fun i j hi hj => by rw [wt_ent fTok hi hj, ← arc_tok h i j]) 0]
end
end M
end Go.Proofs.Ytphobmddkphofaa

namespace Go.Proofs.Ytphobmddkphofaa
namespace M
/-- The list of levels in the making: those of the nodes that have been passed. -/
def outS (A : Nat → Nat → Int) (N t : Nat) : List Int := (List.range N).map fun x : Nat => if hasB (ordL A N t) (x : Int) then lev A N x else 0
/-- .. and one of them being computed. -/
def midO (A : Nat → Nat → Int) (N t e k : Nat) : List Int := (List.range N).map fun x : Nat => if x = e then lvP A N e k else if hasB (ordL A N t) (x : Int) then lev A N x else 0
theorem map_at {N x : Nat} (f : Nat → Int) (hx : x < N) : ((List.range N).map f).getD x 0 = f x := by
  rw [List.getD_eq_getElem?_getD, List.getElem?_map, List.getElem?_range hx]; rfl
theorem outS_zero (A : Nat → Nat → Int) (N : Nat) : outS A N 0 = (List.range N).map fun _ => 0 := by
  unfold outS
  refine List.map_congr_left fun x _ => ?_
  rw [if_neg]
  intro h
  cases h
theorem midO_at_e (A : Nat → Nat → Int) {N t e k : Nat} (he : e < N) : (midO A N t e k).getD e 0 = lvP A N e k := by
  unfold midO
  rw [map_at _ he, if_pos rfl]
theorem midO_at (A : Nat → Nat → Int) {N t e k x : Nat} (hx : x < N) (hne : x ≠ e) (h : hasB (ordL A N t) (x : Int) = true) : (midO A N t e k).getD x 0 = lev A N x := by
  unfold midO
  rw [map_at _ hx, if_neg hne, if_pos h]
theorem midO_start {A : Nat → Nat → Int} {N t e : Nat} (h : hasB (ordL A N t) (e : Int) = false) : midO A N t e 0 = outS A N t := by
  unfold midO outS
  refine List.map_congr_left fun x _ => ?_
  by_cases q : x = e
  · subst q; rw [if_pos rfl, h]; rfl
  · rw [if_neg q]
theorem midO_skip {A : Nat → Nat → Int} {N t e k : Nat} (h : A e k = -1000000000000000) : midO A N t e (k + 1) = midO A N t e k := by
  unfold midO
  refine List.map_congr_left fun x _ => ?_
  rw [show lvP A N e (k + 1) = lvP A N e k from if_pos h]
theorem midO_set {A : Nat → Nat → Int} {N t e k : Nat} (he : e < N) (h : A e k ≠ -1000000000000000) : (midO A N t e k).set e (max (lvP A N e k) (lev A N k + 1)) = midO A N t e (k + 1) := by
  apply List.ext_getElem?
  intro x
  by_cases q : x = e
  · subst q
    rw [List.getElem?_set_self (by simp [midO]; exact he)]
    unfold midO
    rw [List.getElem?_map, List.getElem?_range he, Option.map_some, if_pos rfl]
    exact congrArg some (show lvP A N x (k + 1) = _ from if_neg h).symm
  · rw [List.getElem?_set_ne (Ne.symm q)]
    unfold midO
    rw [List.getElem?_map, List.getElem?_map]
    by_cases hx : x < N
    · rw [List.getElem?_range hx, Option.map_some, Option.map_some, if_neg q, if_neg q]
    · rw [List.getElem?_eq_none (by simp; omega)]; rfl
theorem midO_end {A B : Nat → Nat → Int} {N t e : Nat} (hU : UZ A B) (hn : N ≤ 10) (hp : noPos A N = true) (he : e < N) (ho : ordL A N (t + 1) = ordL A N t ++ [(e : Int)]) : midO A N t e N = outS A N (t + 1) := by
  unfold midO outS
  refine List.map_congr_left fun x _ => ?_
  rw [ho, has_snoc]
  by_cases q : x = e
  · subst q
    rw [if_pos rfl, lvP_end hU hn hp he]
    simp
  · rw [if_neg q, decide_eq_false (show ¬ (x : Int) = (e : Int) by omega), Bool.or_false]
theorem outS_end {A B : Nat → Nat → Int} {N : Nat} (hU : UZ A B) (hn : N ≤ 10) (hp : noPos A N = true) : outS A N N = levL A N := by
  unfold outS levL
  refine List.map_congr_left fun x hx => ?_
  have hx := List.mem_range.1 hx
  rw [if_pos (ord_all (ord_nodes A N N).1 (ord_nodes A N N).2.1 (ord_full hU hn hp (Nat.le_refl _)) hx)]
/-- What is taken at a place of the order. -/
theorem ord_pre {A B : Nat → Nat → Int} {N t : Nat} (hU : UZ A B) (hn : N ≤ 10) (hp : noPos A N = true) {e : Nat} (ho : ordL A N (t + 1) = ordL A N t ++ [(e : Int)]) (ht : t < N) : ∀ d, t + 1 + d ≤ N → (ordL A N (t + 1 + d)).getD t 0 = (e : Int) := by
  intro d
  induction d with
  | zero =>
    intro _
    show (ordL A N (t + 1)).getD t 0 = _
    rw [ho, List.getD_eq_getElem?_getD, List.getElem?_append_right (by rw [ord_full hU hn hp (by omega)]; exact Nat.le_refl _), ord_full hU hn hp (by omega)]
    simp
  | succ d ih =>
    intro hd
    have hl := ord_full hU hn hp (t := t + 1 + d) (by omega)
    obtain ⟨x, hx⟩ := ord_goes hU hn hp (t := t + 1 + d) (by omega) hl
    have e1 : ordL A N (t + 1 + (d + 1)) = ordL A N (t + 1 + d) ++ [(x : Int)] := by
      show stepO A N (ordL A N (t + 1 + d)) = _
      exact step_some hx
    rw [e1, List.getD_eq_getElem?_getD, List.getElem?_append_left (by rw [hl]; omega), ← List.getD_eq_getElem?_getD]
    exact ih (by omega)
theorem ord_at {A B : Nat → Nat → Int} {N t : Nat} (hU : UZ A B) (hn : N ≤ 10) (hp : noPos A N = true) (ht : t < N) : ∃ e : Nat, e < N ∧ (ordL A N N).getD t 0 = (e : Int) ∧ ordL A N (t + 1) = ordL A N t ++ [(e : Int)] ∧ hasB (ordL A N t) (e : Int) = false ∧ ∀ k, k < N → A e k ≠ -1000000000000000 → hasB (ordL A N t) (k : Int) = true := by
  obtain ⟨e, he⟩ := ord_goes hU hn hp ht (ord_full hU hn hp (Nat.le_of_lt ht))
  obtain ⟨h1, h2⟩ := nxtO_some he
  obtain ⟨h3, h4⟩ := rdy_t.1 h2
  have ho : ordL A N (t + 1) = ordL A N t ++ [(e : Int)] := step_some he
  refine ⟨e, h1, ?_, ho, h3, h4⟩
  have := ord_pre hU hn hp ho ht (N - (t + 1)) (by omega)
  rw [show t + 1 + (N - (t + 1)) = N by omega] at this
  exact this
def levK (A : Nat → Nat → Int) (n k : Nat) : List Int := (List.range k).map (lev A n)
theorem levK_next (A : Nat → Nat → Int) (n k : Nat) : levK A n (k + 1) = levK A n k ++ [lev A n k] := by
  unfold levK
  rw [List.range_succ, List.map_append]; rfl
theorem levK_len (A : Nat → Nat → Int) (n k : Nat) : (levK A n k).length = k := by simp [levK]
end M
end Go.Proofs.Ytphobmddkphofaa

namespace Go.Proofs.Ytphobmddkphofaa.V
open Go.RowKit

/-- The three cells of a source: the code, the place, the seed. -/
def srcF (a : Option Addr) (n cap t : Nat) (s : Int) : Nat → Value
  | 0 => .slice a n cap
  | 1 => .int .i64 t
  | _ => .int .i64 s

/-- The code of a source: bytes that lie below block g. -/
def CodeAt (w : World) (g : Nat) (a : Option Addr) (n : Nat) : Prop :=
  n ≤ maxLen ∧ (n = 0 ∨ ∃ b off, a = some ⟨b, off, none⟩ ∧ b < g ∧ ∀ i, i < n → ∃ x : Int, 0 ≤ x ∧ x ≤ 255 ∧ w.cell? ⟨b, off + i, none⟩ = some (.int .u8 x))

/-- Block g is a source. -/
def Src (w : World) (g : Nat) : Prop := ∃ (a : Option Addr) (n cap t : Nat) (s : Int),
  w.rowIs g 126 3 (srcF a n cap t s) ∧ CodeAt w g a n ∧ t ≤ n ∧ 0 ≤ s ∧ s < 2147483647

/-- Only block g may have changed; blocks may have been added. -/
structure Thr (g : Nat) (w w' : World) : Prop where
  below : Below g w w'
  other : ∀ k, g < k → k < w.heap.size → w'.heap[k]? = w.heap[k]?

theorem Thr.refl (g : Nat) (w : World) : Thr g w w := ⟨Below.refl _ _, fun _ _ _ => rfl⟩
theorem Thr.trans {g : Nat} {a b c : World} (h : Thr g a b) (k : Thr g b c) : Thr g a c :=
  ⟨h.below.trans k.below, fun i h1 h2 => (k.other i h1 (Nat.lt_of_lt_of_le h2 h.below.size)).trans (h.other i h1 h2)⟩
theorem Thr.drew {g : Nat} {a b : World} (h : Thr g a b) : Thr g a b.drew := ⟨h.below.drew, h.other⟩
theorem Thr.drewN {g : Nat} {a b : World} (h : Thr g a b) (n : Nat) : Thr g a (b.drewN n) := ⟨below_drewN h.below n, h.other⟩
theorem Thr.setCell {g : Nat} {a b : World} (h : Thr g a b) {i : Nat} (v : Value) : Thr g a (b.setCell ⟨g, i, none⟩ v) :=
  ⟨h.below.setCell (Nat.le_refl _) v, fun k h1 h2 => (Below.heap_setCell _ _ _ _ (by show k ≠ g; omega)).trans (h.other k h1 h2)⟩
theorem Thr.cell {g : Nat} {w w' : World} (h : Thr g w w') {p : Addr} (hp : p.block < w.heap.size) (hne : p.block ≠ g) : w'.cell? p = w.cell? p := by
  by_cases hlt : p.block < g
  · exact h.below.cell hlt
  · exact World.cell?_of_block (w := w) (h.other _ (by omega) hp)

theorem CodeAt.below {w w' : World} {g : Nat} {a : Option Addr} {n : Nat} (h : CodeAt w g a n) (hb : Below g w w') : CodeAt w' g a n := by
  obtain ⟨h1, h2⟩ := h
  refine ⟨h1, ?_⟩
  rcases h2 with h2 | ⟨b, off, rfl, hlt, hc⟩
  · exact .inl h2
  · refine .inr ⟨b, off, rfl, hlt, fun i hi => ?_⟩
    obtain ⟨x, x1, x2, hx⟩ := hc i hi
    exact ⟨x, x1, x2, by rw [hb.cell (p := ⟨b, off + i, none⟩) hlt]; exact hx⟩

theorem Src.below {w w' : World} {g : Nat} (h : Src w g) (hb : Below (g + 1) w w') : Src w' g := by
  obtain ⟨a, n, cap, t, s, h1, h2, h3⟩ := h
  exact ⟨a, n, cap, t, s, h1.of_block (hb.block g (by omega)), h2.below (hb.mono (by omega)), h3⟩
theorem Src.lt {w : World} {g : Nat} (h : Src w g) : g < w.heap.size := by
  obtain ⟨a, n, cap, t, s, h1, h2, h3⟩ := h
  exact h1.lt
theorem Src.drew {w : World} {g : Nat} (h : Src w g) : Src w.drew g := h

/-- What a drawn number is. -/
def NextPost (g : Nat) (n : Int) (w : World) (e : Ending) (w' : World) : Prop :=
  ∃ x : Int, e = .returned (.int .i64 x) ∧ 0 ≤ x ∧ (x < n ∨ x = 0) ∧ Src w' g ∧ Thr g w w'

theorem mod_lt (x n : Int) (hx : 0 ≤ x) (hn : 1 < n) : 0 ≤ x % n ∧ (x % n < n ∨ x % n = 0) :=
  ⟨Int.emod_nonneg _ (by omega), .inl (Int.emod_lt_of_pos _ (by omega))⟩

theorem rowIs_seed {w : World} {g T : Nat} {a : Option Addr} {n cap t : Nat} {s : Int} (h : w.rowIs g T 3 (srcF a n cap t s)) (s' : Int) : (w.setCell ⟨g, 2, none⟩ (.int .i64 s')).rowIs g T 3 (srcF a n cap t s') :=
  (h.set 2 _).congr (fun i hi => by
    match i, hi with
    | 0, _ => rfl
    | 1, _ => rfl
    | 2, _ => rfl)
theorem rowIs_at {w : World} {g T : Nat} {a : Option Addr} {n cap t : Nat} {s : Int} (h : w.rowIs g T 3 (srcF a n cap t s)) (t' : Nat) (v : Int) (hv : v = (t' : Int)) : (w.setCell ⟨g, 1, none⟩ (.int .i64 v)).rowIs g T 3 (srcF a n cap t' s) :=
  (h.set 1 _).congr (fun i hi => by
    subst hv
    match i, hi with
    | 0, _ => rfl
    | 1, _ => rfl
    | 2, _ => rfl)

theorem next_fin {g : Nat} {n : Int} {w w2 : World} {a : Option Addr} {m cap t : Nat} {s x : Int} (hn : 1 < n) (hx : 0 ≤ x) (hrow : w2.rowIs g 126 3 (srcF a m cap t s)) (hc : CodeAt w g a m) (ht : t ≤ m) (s1 : 0 ≤ s) (s2 : s < 2147483647)
    (hthr : Thr g w w2) : NextPost g n w (.returned (.int .i64 (x % n))) w2 :=
  ⟨_, rfl, (mod_lt x n hx hn).1, (mod_lt x n hx hn).2, ⟨a, m, cap, t, s, hrow, hc.below hthr.below, ht, s1, s2⟩, hthr⟩

set_option maxRecDepth 100000 in
set_option maxHeartbeats 1000000 in
theorem next (g : Nat) (n : Int) (w : World) (wn : (Lit.int .i64 n).wf = true) (h : Src w g) :
    Calls Try.prog 80 #[.pointer (some ⟨g, 0, none⟩), .int .i64 n] w (NextPost g n w) := by
  by_cases hn : n ≤ 1
  · go_enter Try.func80, Try.ntmps80
    go_wp2
    go_ret
    exact ⟨0, rfl, by omega, .inr rfl, h, Thr.refl _ _⟩
  · obtain ⟨a, m, cap, t, s, hrow, hcode, ht, s1, s2⟩ := h
    have c0 : w.cell? ⟨g, 0, none⟩ = some (.slice a m cap) := hrow.cell (i := 0) (by omega)
    have c1 : w.cell? ⟨g, 1, none⟩ = some (.int .i64 t) := hrow.cell (i := 1) (by omega)
    have c2 : w.cell? ⟨g, 2, none⟩ = some (.int .i64 s) := hrow.cell (i := 2) (by omega)
    have f0 := hrow.frozen 0
    have f1 := hrow.frozen 1
    have f2 := hrow.frozen 2
    have HCODE := Lib.hid hcode
    obtain ⟨hm, hcode⟩ := hcode
    unfold maxLen at hm
    have HR := Lib.hid hrow
    clear hrow
    have hn' : 1 < n := by omega
    have r1 : 0 ≤ (s * 48271 + 59) % 2147483647 := Int.emod_nonneg _ (by omega)
    have r2 : (s * 48271 + 59) % 2147483647 < 2147483647 := Int.emod_lt_of_pos _ (by omega)
    by_cases htm : t < m
    · rcases hcode with h0 | ⟨b, off, rfl, hbg, hc⟩
      · omega
      obtain ⟨x, x1, x2, hcx⟩ := hc t htm
      clear hc
      have hne : ¬ b = g := by omega
      have hti : (t : Int) < (m : Int) := by omega
      have ht0 : 0 ≤ (t : Int) + 1 := by omega
      have hq : 0 ≤ (s * 48271 + 59) % 2147483647 / 31 := Int.ediv_nonneg r1 (by omega)
      have HC : Hid (CodeAt w g (some ⟨b, off, none⟩) m) := HCODE
      clear HCODE
      by_cases h256 : n ≤ 256
      · by_cases hev : ((t : Int) + 1) % 2 = 0
        · have hev' : (((t : Int) + 1) % 2 == 0) = true := by simpa using hev
          clear hev
          go_enter Try.func80, Try.ntmps80
          go_wp2
          go_quiet (fail)
          go_wp2
          go_quiet (fail)
          go_wp2
          go_quiet (fail)
          go_wp2
          go_ret
          exact next_fin hn' x1 (rowIs_at (w := (w.setCell ⟨g, 2, none⟩ (.int .i64 ((s * 48271 + 59) % 2147483647))).drewN _) (rowIs_seed HR.out _) (t + 1) _ (by omega)) HC.out (by omega) r1 r2 (((((Thr.refl g w).setCell _).drewN _).setCell _).drewN _)
        · have hev' : (((t : Int) + 1) % 2 == 0) = false := by simpa using hev
          clear hev
          go_enter Try.func80, Try.ntmps80
          go_wp2
          go_quiet (fail)
          go_wp2
          go_quiet (fail)
          go_wp2
          go_ret
          exact next_fin hn' (by omega) (rowIs_at (w := (w.setCell ⟨g, 2, none⟩ (.int .i64 ((s * 48271 + 59) % 2147483647))).drewN _) (rowIs_seed HR.out _) (t + 1) _ (by omega)) HC.out (by omega) r1 r2 ((((Thr.refl g w).setCell _).drewN _).setCell _)
      · go_enter Try.func80, Try.ntmps80
        go_wp2
        go_quiet (fail)
        go_wp2
        go_quiet (fail)
        go_wp2
        go_ret
        exact next_fin hn' (by omega) (rowIs_at (w := (w.setCell ⟨g, 2, none⟩ (.int .i64 ((s * 48271 + 59) % 2147483647))).drewN _) (rowIs_seed HR.out _) (t + 1) _ (by omega)) HC.out (by omega) r1 r2 ((((Thr.refl g w).setCell _).drewN _).setCell _)
    · obtain rfl : t = m := by omega
      have hq : 0 ≤ (s * 48271 + 59) % 2147483647 / 31 := Int.ediv_nonneg r1 (by omega)
      have HC : Hid (CodeAt w g a t) := HCODE
      clear HCODE hcode
      go_enter Try.func80, Try.ntmps80
      go_wp2
      go_quiet (fail)
      go_wp2
      go_ret
      exact next_fin hn' (by omega) (rowIs_seed HR.out _) HC.out (by omega) r1 r2 (((Thr.refl g w).setCell _).drewN _)
end Go.Proofs.Ytphobmddkphofaa.V

namespace Go.Proofs.Ytphobmddkphofaa.V
open Go.RowKit

theorem wf_small (n : Int) (a : -1000000000000000000 ≤ n) (b : n ≤ 1000000000000000000) : (Lit.int .i64 n).wf = true := by
  show (decide (IntKind.i64.min ≤ n) && decide (n ≤ IntKind.i64.max)) = true
  rw [Bool.and_eq_true]
  constructor <;> apply decide_eq_true
  · show (-9223372036854775808 : Int) ≤ n
    omega
  · show n ≤ (9223372036854775807 : Int)
    omega

/-- A slice of bytes that came in. -/
def Bytes (w : World) (a : Option Addr) (n : Nat) : Prop := CodeAt w w.heap.size a n

theorem IsRow.bytes {w : World} {a : Option Addr} {len cap : Nat} {zs : List Int} (h : IsRow .u8 w a len cap zs) : Bytes w a len := by
  rcases h with ⟨rfl, rfl, rfl, rfl⟩ | ⟨x, rfl, hl, hm, hz, hcell, hwf⟩
  · exact ⟨Nat.zero_le _, .inl rfl⟩
  · refine ⟨by omega, ?_⟩
    by_cases h0 : len = 0
    · exact .inl h0
    · obtain ⟨b, off, rfl, hc⟩ := ints_at hcell (by omega)
      refine .inr ⟨b, off, rfl, cell_lt (hc 0 (by omega)), fun i hi => ?_⟩
      have hx : zs.getD i 0 ∈ zs := by
        rw [List.getD_eq_getElem?_getD, List.getElem?_eq_getElem (by omega)]
        simp
      have := bounds_u8 (hwf _ hx)
      exact ⟨_, this.1, this.2, hc i (by omega)⟩

theorem Bytes.below {w w' : World} {a : Option Addr} {n : Nat} (h : Bytes w a n) (hb : Below w.heap.size w w') : Bytes w' a n := by
  have h2 := CodeAt.below h hb
  obtain ⟨h1, h3⟩ := h2
  refine ⟨h1, ?_⟩
  rcases h3 with h3 | ⟨b, off, rfl, hlt, hc⟩
  · exact .inl h3
  · exact .inr ⟨b, off, rfl, by have := hb.size; omega, hc⟩

set_option maxRecDepth 100000 in
set_option maxHeartbeats 1000000 in
theorem from_ (a : Option Addr) (n cap : Nat) (w : World) (h : Bytes w a n) :
    Calls Try.prog 73 #[.slice a n cap] w fun e w' => e = .returned (.pointer (some ⟨w.heap.size, 0, none⟩)) ∧ Src w' w.heap.size ∧ Below w.heap.size w w' := by
  have HB := Lib.hid h
  obtain ⟨hm, hcode⟩ := h
  unfold maxLen at hm
  go_enter Try.func73, Try.ntmps73
  go_wp2
  have hst : (w.alloc (.cells #[.slice a n cap, .int .i64 0, .int .i64 61403] 126)).rowIs w.heap.size 126 3 (srcF a n cap 0 61403) :=
    World.rowIs_alloc w _ _ _ (fun i hi => by
      match i, hi with
      | 0, _ => rfl
      | 1, _ => rfl
      | 2, _ => rfl)
  have HST := Lib.hid hst
  clear hst
  go_loopw [4] (fun i wr => ∃ k : Nat, ∃ s : Int, k ≤ n ∧ i = .int .i64 k ∧ 0 ≤ s ∧ s < 2147483647 ∧ wr.rowIs w.heap.size 126 3 (srcF a n cap 0 s) ∧ Below w.heap.size w wr) (fun i _ => n - (intOf i).toNat)
  case atStart => exact ⟨0, 61403, Nat.zero_le _, rfl, by omega, by omega, HST.out, b_alloc _ _⟩
  case round =>
    obtain ⟨k, s, hk, rfl, s1, s2, hrow, hb⟩ := hrel
    clear HST
    by_cases hlt : k < n ∧ k < 64
    · obtain ⟨hlt, h64⟩ := hlt
      rcases hcode with h0 | ⟨b, off, rfl, hbl, hc⟩
      · omega
      obtain ⟨x, x1, x2, hx⟩ := hc k hlt
      have hx' : wr.cell? ⟨b, off + k, none⟩ = some (.int .u8 x) := by rw [hb.cell (p := ⟨b, off + k, none⟩) hbl]; exact hx
      have c2 : wr.cell? ⟨w.heap.size, 2, none⟩ = some (.int .i64 s) := hrow.cell (i := 2) (by omega)
      have f2 := hrow.frozen 2
      have HR := Lib.hid hrow
      have HBW := Lib.hid hb
      clear hc hx hrow hb
      have r1 : 0 ≤ (s * 67 + x) % 2147483647 := Int.emod_nonneg _ (by omega)
      have r2 : (s * 67 + x) % 2147483647 < 2147483647 := Int.emod_lt_of_pos _ (by omega)
      have hki : (k : Int) < (n : Int) := by omega
      have hkj : (k : Int) < 64 := by omega
      go_wp2
      go_region
      go_wp2
      go_roundw
      case rel => exact ⟨k + 1, (s * 67 + x) % 2147483647, by omega, by go_num, r1, r2, rowIs_seed HR.out _, (HBW.out.setCell (Nat.le_refl _) _).drew⟩
      case measure => simp [intOf]; omega
    · have HR := Lib.hid hrow
      have HBW := Lib.hid hb
      clear hrow hb hcode
      by_cases hlt2 : k < n
      · have h64 : ¬ ((k : Int) < 64) := by omega
        have h64' : decide ((k : Int) < 64) = false := by simpa using h64
        clear hlt h64
        go_wp2
        go_ret
        exact ⟨rfl, ⟨a, n, cap, 0, s, HR.out, (CodeAt.below HB.out HBW.out), Nat.zero_le _, s1, s2⟩, HBW.out⟩
      · have hkn : k = n := by omega
        subst hkn
        clear hlt hlt2
        go_wp2
        go_ret
        exact ⟨rfl, ⟨a, k, cap, 0, s, HR.out, (CodeAt.below HB.out HBW.out), Nat.zero_le _, s1, s2⟩, HBW.out⟩

/-- What a picked number is: one of the list. -/
def PickPost (g : Nat) (w : World) (e : Ending) (w' : World) : Prop :=
  ∃ x : Int, e = .returned (.int .i64 x) ∧ (Lit.int .i64 x).wf = true ∧ Src w' g ∧ Thr g w w'

set_option maxRecDepth 100000 in
set_option maxHeartbeats 1000000 in
theorem pick (g b off n cap : Nat) (w : World) (h : Src w g) (hn : 0 < n) (hm : n ≤ 100) (hbg : g < b) (hc : ∀ i, i < n → ∃ x : Int, (Lit.int .i64 x).wf = true ∧ w.cell? ⟨b, off + i, none⟩ = some (.int .i64 x)) :
    Calls Try.prog 81 #[.pointer (some ⟨g, 0, none⟩), .slice (some ⟨b, off, none⟩) n cap] w (PickPost g w) := by
  have hbl : b < w.heap.size := by obtain ⟨x, _, hx⟩ := hc 0 hn; exact cell_lt hx
  have hwf : (Lit.int .i64 (n : Int)).wf = true := wf_small _ (by omega) (by omega)
  go_enter Try.func81, Try.ntmps81
  go_wp2_with fail
  refine (next _ _ _ hwf h).mono ?_
  rintro e w1 ⟨x, rfl, hx1, hx2, hs, ht⟩
  obtain ⟨k, rfl⟩ := Int.eq_ofNat_of_zero_le hx1
  have hk : k < n := by omega
  obtain ⟨y, hy, hcy⟩ := hc k hk
  have hcy' : w1.cell? ⟨b, off + k, none⟩ = some (.int .i64 y) := by rw [ht.cell (p := ⟨b, off + k, none⟩) hbl (by show b ≠ g; omega)]; exact hcy
  have hki : (k : Int) < (n : Int) := by omega
  have HT := Lib.hid ht
  have HS := Lib.hid hs
  clear hc hcy ht hs hx2
  go_wp2
  go_ret
  exact ⟨y, rfl, hy, HS.out, HT.out⟩

theorem litCells (w : World) (l : List Int) (vs : Array Value) (T : Nat) (hv : vs = (l.map (Value.int .i64)).toArray) (hw : l.all (fun x => (Lit.int .i64 x).wf) = true) :
    ∀ i, i < l.length → ∃ x : Int, (Lit.int .i64 x).wf = true ∧ (w.alloc (.cells vs T)).cell? ⟨w.heap.size, 0 + i, none⟩ = some (.int .i64 x) := by
  intro i hi
  refine ⟨l[i], ?_, ?_⟩
  · exact List.all_eq_true.1 hw _ (List.getElem_mem hi)
  · subst hv
    have e : (w.alloc (.cells (l.map (Value.int .i64)).toArray T)).heap[w.heap.size]? = some (.cells (l.map (Value.int .i64)).toArray T (0, 0)) := by
      show (w.heap.push _)[w.heap.size]? = _
      simp
    simp only [World.cell?, e]
    simp [hi]
theorem Thr.alloc {g : Nat} {a b : World} (h : Thr g a b) (hg : g ≤ b.heap.size) (o : Obj) : Thr g a (b.alloc o) :=
  ⟨h.below.alloc hg o, fun k h1 h2 => (Below.heap_alloc _ _ _ (by have := h.below.size; omega)).trans (h.other k h1 h2)⟩
theorem Src.alloc {w : World} {g : Nat} (h : Src w g) (o : Obj) : Src (w.alloc o) g := h.below ((Below.refl _ _).alloc (by have := h.lt; omega) _)

/-- What a drawn value is: an integer. -/
def ValPost (g : Nat) (w : World) (e : Ending) (w' : World) : Prop :=
  ∃ x : Int, e = .returned (.int .i64 x) ∧ (Lit.int .i64 x).wf = true ∧ Src w' g ∧ Thr g w w'

end Go.Proofs.Ytphobmddkphofaa.V

namespace Go.Proofs.Ytphobmddkphofaa.V
open Go.RowKit

theorem Own.thr {w w' : World} {B g : Nat} {v : Value} {l : List Int} (h : Own w B v l) (ht : Thr g w w') (hB : g < B) : Own w' B v l := h.keep (fun k h1 h2 => ht.other k (by omega) h2)
theorem OwnM.thr {w w' : World} {B g : Nat} {v : Value} {R : List (List Int)} (h : OwnM w B v R) (ht : Thr g w w') (hB : g < B) : OwnM w' B v R := h.keep (fun k h1 h2 => ht.other k (by omega) h2)
theorem Thr.of_below {g : Nat} {w w' : World} (h : Below w.heap.size w w') (hg : g ≤ w.heap.size) : Thr g w w' := ⟨h.mono hg, fun k _ h2 => h.block k h2⟩
theorem Thr.frozen {g : Nat} {w w' : World} (h : Thr g w w') {p : Addr} (hp : p.block < w.heap.size) (hne : g < p.block) : w'.frozen? p = w.frozen? p := World.frozen?_of_block (w := w) (h.other _ hne hp)

/-- A matrix that is being drawn: the source is block g, the matrix lies in blocks from B on; only these have changed since w0. -/
def DJ (g B : Nat) (v : Value) (R : List (List Int)) (w0 w : World) : Prop := OwnM w B v R ∧ Src w g ∧ Thr g w0 w
theorem DJ.next {g B : Nat} {v : Value} {R : List (List Int)} {w0 w w' : World} (h : DJ g B v R w0 w) (hB : g < B) (hs : Src w' g) (ht : Thr g w w') : DJ g B v R w0 w' :=
  ⟨h.1.thr ht hB, hs, h.2.2.trans ht⟩

/-- A store into an entry whose row is known. -/
theorem OwnM.put {w : World} {B n cap o k t q L c : Nat} {R : List (List Int)} (h : OwnM w B (.slice (some ⟨o, 0, none⟩) n cap) R) (hi : k < n) (hj : t < (R.getD k []).length) (hc : w.cell? ⟨o, k, none⟩ = some (.slice (some ⟨q, 0, none⟩) L c)) (y : Int) :
    OwnM (w.setCell ⟨q, t, none⟩ (.int .i64 y)) B (.slice (some ⟨o, 0, none⟩) n cap) (R.set k ((R.getD k []).set t y)) := by
  obtain ⟨g, q', L', c', x, hg, -, -, -, -, h1, -, -, h2⟩ := h.at k t hi hj
  injection hg with hg
  injection hg with hg
  subst hg
  rw [hc] at h1
  injection h1 with h1
  injection h1 with h1
  injection h1 with h1
  injection h1 with h1
  subst h1
  exact h2 y

theorem Rect.set {R : List (List Int)} {n L : Nat} (h : Rect R n L) (i j : Nat) (y : Int) (hi : i < n) : Rect (R.set i ((R.getD i []).set j y)) n L := by
  refine ⟨by simpa using h.1, fun k hk => ?_⟩
  rw [getD_set _ _ _ _ _ (by rw [h.1]; exact hi)]
  by_cases e : k = i
  · rw [if_pos e]; simpa using h.2 i hi
  · rw [if_neg e]; exact h.2 k hk

/-- A store into a matrix that is being drawn. -/
theorem DJ.store {g B q t n cap : Nat} {a : Option Addr} {R R' : List (List Int)} {w0 w : World} {x : Int} (h : DJ g B (.slice a n cap) R w0 w) (hB : w0.heap.size ≤ B) (hg : g < B) (hq : B ≤ q)
    (ho : OwnM (w.setCell ⟨q, t, none⟩ (.int .i64 x)) B (.slice a n cap) R') : DJ g B (.slice a n cap) R' w0 (w.setCell ⟨q, t, none⟩ (.int .i64 x)) := by
  refine ⟨ho, h.2.1.below ?_, ?_⟩
  · exact (Below.refl _ _).setCell (p := ⟨q, t, none⟩) (by show g + 1 ≤ q; omega) _
  · refine ⟨h.2.2.below.setCell (p := ⟨q, t, none⟩) (by show g ≤ q; omega) _, fun k h1 h2 => ?_⟩
    rw [Below.heap_setCell _ _ _ _ (by show k ≠ q; omega)]
    exact h.2.2.other k h1 h2

theorem DJ.drew {g B : Nat} {v : Value} {R : List (List Int)} {w0 w : World} (h : DJ g B v R w0 w) : DJ g B v R w0 w.drew := ⟨h.1.keep (fun _ _ _ => rfl), h.2.1, h.2.2.drew⟩
theorem dj_keep {g B a k q t : Nat} {u v val : Value} {R : List (List Int)} {w0 w' wx : World} (h : w'.cell? ⟨a, k, none⟩ = some u ∧ w'.cell? ⟨q, t, none⟩ = some v ∧ w'.frozen? ⟨q, t, none⟩ = false ∧ DJ g B val R w0 w') (hB : g < B) (ha : B ≤ a) (hq : B ≤ q) (hs : Src wx g) (ht : Thr g w' wx) :
    wx.cell? ⟨a, k, none⟩ = some u ∧ wx.cell? ⟨q, t, none⟩ = some v ∧ wx.frozen? ⟨q, t, none⟩ = false ∧ DJ g B val R w0 wx := by
  obtain ⟨h1, h2, h3, h4⟩ := h
  have l1 := cell_lt h1
  have l2 := cell_lt h2
  refine ⟨?_, ?_, ?_, h4.next hB hs ht⟩
  · rw [ht.cell (p := ⟨a, k, none⟩) l1 (by show a ≠ g; omega)]; exact h1
  · rw [ht.cell (p := ⟨q, t, none⟩) l2 (by show q ≠ g; omega)]; exact h2
  · rw [ht.frozen (p := ⟨q, t, none⟩) l2 (by show g < q; omega)]; exact h3

/-- What a drawn matrix is: some list of lists of integers, in new memory. -/
def DrawM (g : Nat) (w : World) (e : Ending) (w' : World) : Prop :=
  ∃ (a : Option Addr) (n cap : Nat) (R : List (List Int)), e = .returned (.slice a n cap) ∧ OwnM w' w.heap.size (.slice a n cap) R ∧ Src w' g ∧ Thr g w w'

/-- .. with few rows. -/
def DrawMB (g : Nat) (w : World) (e : Ending) (w' : World) : Prop :=
  ∃ (a : Option Addr) (n cap : Nat) (R : List (List Int)), e = .returned (.slice a n cap) ∧ n ≤ 200 ∧ OwnM w' w.heap.size (.slice a n cap) R ∧ Src w' g ∧ Thr g w w'
theorem DrawMB.less {g : Nat} {w w' : World} {e : Ending} (h : DrawMB g w e w') : DrawM g w e w' := by
  obtain ⟨a, n, cap, R, h1, -, h2⟩ := h
  exact ⟨a, n, cap, R, h1, h2⟩

end Go.Proofs.Ytphobmddkphofaa.V
