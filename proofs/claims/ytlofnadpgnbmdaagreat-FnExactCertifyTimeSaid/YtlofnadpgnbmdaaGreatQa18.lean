/- Texts laid together: It3, It4, Gr2, It5, Lva. -/
import Derived.Test.YtlofnadpgnbmdaaGreatQa17
import Derived.Test.YtlofnadpgnbmdaaGreatQa9
import Derived.Test.YtlofnadpgnbmdaaGreatQa6
import Derived.Test.YtlofnadpgnbmdaaGreatQa10
import Derived.Test.YtlofnadpgnbmdaaGreatQa1
import Derived.WalkMore
import Derived.Deep.LoopGhost
import Derived.Scope
import Derived.Test.YtlofnadpgnbmdaaGreatQa11
set_option linter.unusedSimpArgs false
set_option linter.unusedVariables false
set_option linter.unusedSectionVars false
namespace Go.Proofs.YtlofnadpgnbmdaaGreat.V
open Go Go.RowKit

end Go.Proofs.YtlofnadpgnbmdaaGreat.V

namespace Go.Proofs.YtlofnadpgnbmdaaGreat.V
open Go Go.RowKit

def mark (D : Nat) : Deferred := { target := .collected D, args := #[] }
/-- The marks Ds lie, all different, at or past lo. -/
def Marks (lo : Nat) (Ds : List Nat) (W : World) : Prop := Ds.Nodup ∧ ∀ D ∈ Ds, lo ≤ D ∧ W.heap[D]? = some (.deferred (some []))
theorem Marks.nil (lo : Nat) (W : World) : Marks lo [] W := ⟨List.nodup_nil, fun D h => by cases h⟩
theorem Marks.keep {lo Bx N : Nat} {Ds : List Nat} {A B : World} {v : Value} (h : Marks lo Ds A) (hx : A.cell? ⟨Bx, 0, none⟩ = some v) (hN : A.heap.size ≤ N) (hk : ∀ k, k < N → k ≠ Bx → B.heap[k]? = A.heap[k]?) : Marks lo Ds B :=
  ⟨h.1, fun D hD => by
    obtain ⟨h1, h2⟩ := h.2 D hD
    have hlt := (Array.getElem?_eq_some_iff.1 h2).1
    refine ⟨h1, (hk D (by omega) ?_).trans h2⟩
    rintro rfl
    simp [World.cell?, h2] at hx⟩
theorem Marks.cons {lo D : Nat} {Ds : List Nat} {A B : World} (h : Marks lo Ds A) (hB : Marks lo Ds B) (hD : A.heap.size ≤ D) (hlo : lo ≤ D) (hd : B.heap[D]? = some (.deferred (some []))) : Marks lo (D :: Ds) B :=
  ⟨List.nodup_cons.2 ⟨fun hm => by
    have := (Array.getElem?_eq_some_iff.1 (h.2 D hm).2).1
    omega, h.1⟩, fun E hE => by
    rcases List.mem_cons.1 hE with rfl | hE
    · exact ⟨hlo, hd⟩
    · exact hB.2 E hE⟩
theorem leaves_marks {P : Program} {n : Nat} {fn : Func} {tmps : Array Value} {R : Ending → World → Prop} {lo : Nat} (Good : World → Prop) (hG : ∀ W D o, Good W → lo ≤ D → W.heap[D]? = some (.deferred (some [])) → Good (W.putObj D o))
    (hfin : ∀ W, Good W → LeavesInM Fence.wide n P fn tmps R [] .returning W) (Ds : List Nat) : ∀ W, Marks lo Ds W → Good W → LeavesInM Fence.wide n P fn tmps R (Ds.map mark) .returning W := by
  induction Ds with
  | nil => intro W _ hg; exact hfin W hg
  | cons D Ds ih =>
    intro W hm hg
    obtain ⟨h1, h2⟩ := hm.2 D (by simp)
    refine ⟨by simp, .inl ⟨D, _, rfl, run_takeDeferred h2, ih _ ?_ (hG _ _ _ hg h1 h2)⟩⟩
    refine ⟨(List.nodup_cons.1 hm.1).2, fun E hE => ?_⟩
    obtain ⟨q1, q2⟩ := hm.2 E (List.mem_cons_of_mem _ hE)
    refine ⟨q1, (World.putObj_heap_other ?_).trans q2⟩
    rintro rfl
    exact (List.nodup_cons.1 hm.1).1 hE
end Go.Proofs.YtlofnadpgnbmdaaGreat.V

namespace Go.Proofs.YtlofnadpgnbmdaaGreat
namespace V
open Go.RowKit
theorem rlit (w : World) (B : Nat) (x : Int) (h : B ≤ w.heap.size) : Own (w.alloc (.cells #[.int .i64 x] 2)) B (.slice (some ⟨w.heap.size, 0, none⟩) 1 1) [x] := World.ownsRow_lit w #[.int .i64 x] 1 h (by decide) rfl
set_option maxRecDepth 100000 in
set_option maxHeartbeats 1000000 in
theorem sOver (a : Option Addr) (n cap : Nat) (R : List (List Int)) (over : Int) (w : World) (h : Sq w a n R) :
    Calls Tryz.prog 145 #[.slice a n cap, .int .i64 over] w fun e w' => ∃ b' n' c', e = .returned (.slice b' n' c') ∧ Own w' w.heap.size (.slice b' n' c') (M.overL (M.ent R) n over) ∧ Below w.heap.size w w' := by
  have HS := Lib.hid h
  have hn10 := h.2.2.2.2
  obtain ⟨g, hg⟩ : ∃ g : Nat → List Int, g = fun v : Nat => M.grow (M.ent R) n over n [(v : Int)] 0 := ⟨_, rfl⟩
  have HG : Hid (M.overL (M.ent R) n over = M.pick g n 0) := by show _ = _; rw [hg]; rfl
  have HGg : Hid (∀ v : Nat, g v = M.grow (M.ent R) n over n [(v : Int)] 0) := fun v => by rw [hg]
  clear h hg
  go_enter Tryz.func145, Tryz.ntmps145
  go_wp2
  go_loopw [5, 6] (fun v _ wr => ∃ k : Nat, k ≤ n ∧ v = .int .i64 k ∧ Hid (M.pick g n 0 = M.pick g (n - k) k) ∧ Below w.heap.size w wr) (fun v _ _ => n - (intOf v).toNat)
  case atStart => exact ⟨0, Nat.zero_le _, rfl, rfl, Below.refl _ _⟩
  case round =>
    obtain ⟨k, hk2, rfl, HK, hb⟩ := hrel
    have HB1 := Lib.hid hb
    have hz1 : w.heap.size ≤ wr.heap.size := hb.size
    clear hb
    by_cases hk : k < n
    · have hki : (k : Int) < (n : Int) := by omega
      obtain ⟨t, ht⟩ : ∃ t, t = M.grow (M.ent R) n over n [(k : Int)] 0 := ⟨_, rfl⟩
      have HTt := Lib.hid ht
      have HGk : Hid (g k = t) := (HGg.out k).trans ht.symm
      have HN2 : Hid (M.nodesB n [(k : Int)] = true) := by show _ = _; unfold M.nodesB; simp [M.inN]; omega
      have HD2 : Hid (M.diffB [(k : Int)] = true) := M.diffB_of (fun i hi => by
        simp at hi; subst hi; rfl)
      have HLit := Lib.hid (rlit wr w.heap.size (k : Int) hz1)
      have HSl := Lib.hid (HS.out.below (HB1.out.alloc hz1 (.cells #[.int .i64 (k : Int)] 2)))
      clear ht
      go_wp2_with fail
      refine (sGrow _ _ _ R over n _ 1 _ [(k : Int)] 0 w.heap.size _ HSl.out HLit.out HN2.out HD2.out (by omega) (by omega) (by omega) (by omega) (by simp; omega)).mono ?_
      rintro e w3 ⟨b3, n3, c3, rfl, ho, hb⟩
      rw [← HTt.out] at ho
      have hlt := ho.len
      have HO3 := Lib.hid ho
      have HBz := Lib.hid ((HB1.out.alloc hz1 (.cells #[.int .i64 (k : Int)] 2)).trans (hb.mono (by simp; omega)))
      clear ho hb
      by_cases hn3 : n3 = 0
      · subst hn3
        have HKn : Hid (M.pick g n 0 = M.pick g (n - (k + 1)) (k + 1)) := HK.out.trans (M.pick_no hk (by rw [HGk.out]; exact hlt.symm))
        clear hlt
        go_wp2
        go_roundw
        case rel => exact ⟨k + 1, by omega, by go_num, HKn, HBz.out⟩
        case measure => simp [intOf]; omega
      · have HE : Hid (M.overL (M.ent R) n over = t) := HG.out.trans (HK.out.trans ((M.pick_yes hk (by rw [HGk.out]; omega)).trans HGk.out))
        have hn3p : 0 < n3 := by omega
        clear hlt
        go_wp2
        go_ret
        exact ⟨_, _, _, rfl, by rw [HE.out]; exact HO3.out, HBz.out⟩
    · obtain rfl : k = n := by omega
      have HE : Hid (M.overL (M.ent R) k over = []) := HG.out.trans (HK.out.trans M.pick_end)
      go_wp2
      go_ret
      exact ⟨_, _, _, rfl, by rw [HE.out]; exact own_nil _ _, HB1.out⟩
end V
end Go.Proofs.YtlofnadpgnbmdaaGreat

namespace Go.Proofs.YtlofnadpgnbmdaaGreat.V
open Go Go.RowKit Go.Shelf
attribute [local go_sem] Oper.semAt_some

theorem own_head {w : World} {B n c : Nat} {b : Option Addr} {p : List Int} (h : Own w B (.slice b n c) p) (hn : 0 < p.length) : ∃ g, b = some ⟨g, 0, none⟩ ∧ B ≤ g := by
  obtain ⟨a', c', hv, -, -, hg⟩ := own_form h
  injection hv with e1 e2 e3
  obtain ⟨g, h1, h2, -⟩ := hg hn
  exact ⟨g, by rw [e1]; exact h1, h2⟩

end Go.Proofs.YtlofnadpgnbmdaaGreat.V
namespace Go.Proofs.YtlofnadpgnbmdaaGreat.M
theorem pick_len {g : Nat → List Int} {m : Nat} (h : ∀ v, (g v).length ≤ m) : ∀ c k, (pick g c k).length ≤ m := by
  intro c
  induction c with
  | zero => intro k; exact Nat.zero_le _
  | succ c ih =>
    intro k
    show (if _ then _ else _ : List Int).length ≤ m
    split
    · exact ih _
    · exact h k
theorem posRes_len (R : List (List Int)) : (posRes R).1.length ≤ 11 := by
  unfold posRes
  split
  · next h =>
    obtain ⟨m1, m2, -⟩ := isMat_t (sqB_t h).1
    split
    · simp
    · have := pick_len (g := fun v => grow (ent R) R.length 0 R.length [(v : Int)] 0) (m := 11) (fun v => by
        have := grow_nodes (ent R) R.length 0 R.length [(v : Int)] 0
        simp at this; omega) R.length 0
      exact this
  · simp
end Go.Proofs.YtlofnadpgnbmdaaGreat.M

namespace Go.Proofs.YtlofnadpgnbmdaaGreat
namespace M
/-- Two weights on the same arcs: 1 in the one, 0 in the other. -/
def UZ (A B : Nat → Nat → Int) : Prop := ∀ i j, (A i j = -1000000000000000 ∧ B i j = -1000000000000000) ∨ (A i j = 1 ∧ B i j = 0)
theorem clB_uz {A B : Nat → Nat → Int} (h : UZ A B) {p : List Int} {wt : Int} (hw : 0 ≤ wt) : clB A 0 p wt = clB B (-1) p 0 := by
  unfold clB
  rcases h (vx p 0) (lastV p) with ⟨h1, h2⟩ | ⟨h1, h2⟩
  · rw [h1, h2]; rfl
  · rw [h1, h2]
    rw [decide_eq_true (show (0 : Int) < wt + 1 by omega)]
    simp
theorem grow_uz {A B : Nat → Nat → Int} (h : UZ A B) (n f : Nat) : ∀ p wt, 0 ≤ wt → grow A n 0 f p wt = grow B n (-1) f p 0 := by
  induction f with
  | zero => intro p wt _; rfl
  | succ f ih =>
    intro p wt hw
    by_cases hc : clB A 0 p wt = true
    · rw [grow_yes hc, grow_yes (by rw [← clB_uz h hw]; exact hc)]
    · simp only [Bool.not_eq_true] at hc
      rw [grow_no hc, grow_no (by rw [← clB_uz h hw]; exact hc)]
      refine congrFun (congrFun (congrArg pick (funext fun v => ?_)) _) _
      rcases h v (lastV p) with ⟨h1, h2⟩ | ⟨h1, h2⟩
      · unfold stepG
        rw [if_pos (.inl h1), if_pos (.inl h2)]
      · by_cases hh : hasB p (v : Int) = true
        · unfold stepG
          rw [if_pos (.inr hh), if_pos (.inr hh)]
        · simp only [Bool.not_eq_true] at hh
          rw [step_go (by rw [h1]; omega) hh, step_go (by rw [h2]; omega) hh, h1, h2]
          exact ih _ _ (by omega)
theorem over_uz {A B : Nat → Nat → Int} (h : UZ A B) (n : Nat) : overL A n 0 = overL B n (-1) :=
  congrFun (congrFun (congrArg pick (funext fun _ => grow_uz h n n _ _ (Int.le_refl 0))) _) _
theorem uz_sm {A B : Nat → Nat → Int} (h : UZ A B) (i j : Nat) : Sm 1000001000000 (A i j) := by
  unfold Sm
  rcases h i j with ⟨h1, -⟩ | ⟨h1, -⟩ <;> omega
/-- Whether a node can be next. -/
def rdy (A : Nat → Nat → Int) (n : Nat) (o : List Int) (e : Nat) : Bool := !hasB o (e : Int) && (List.range n).all fun k => decide (A e k = -1000000000000000) || hasB o (k : Int)
theorem rdy_t {A : Nat → Nat → Int} {n e : Nat} {o : List Int} : rdy A n o e = true ↔ hasB o (e : Int) = false ∧ ∀ k, k < n → A e k ≠ -1000000000000000 → hasB o (k : Int) = true := by
  unfold rdy
  rw [Bool.and_eq_true, List.all_eq_true]
  constructor
  · rintro ⟨h1, h2⟩
    refine ⟨by simpa using h1, fun k hk ha => ?_⟩
    have := h2 k (List.mem_range.2 hk)
    simpa [ha] using this
  · rintro ⟨h1, h2⟩
    refine ⟨by simp [h1], fun k hk => ?_⟩
    by_cases ha : A e k = -1000000000000000
    · simp [ha]
    · simp [ha, h2 k (List.mem_range.1 hk) ha]
/-- The least node that can be next. -/
def nxtO (A : Nat → Nat → Int) (n : Nat) (o : List Int) : Option Nat := (List.range n).find? (rdy A n o)
def stepO (A : Nat → Nat → Int) (n : Nat) (o : List Int) : List Int := match nxtO A n o with
  | some e => o ++ [(e : Int)]
  | none => o
def ordL (A : Nat → Nat → Int) (n : Nat) : Nat → List Int
  | 0 => []
  | t + 1 => stepO A n (ordL A n t)
theorem nxtO_some {A : Nat → Nat → Int} {n : Nat} {o : List Int} {e : Nat} (h : nxtO A n o = some e) : e < n ∧ rdy A n o e = true :=
  ⟨List.mem_range.1 (List.mem_of_find?_eq_some h), List.find?_some h⟩
theorem nxtO_is {A : Nat → Nat → Int} {n : Nat} {o : List Int} {e : Nat} (he : e < n) (hr : rdy A n o e = true) (hl : ∀ k, k < e → rdy A n o k = false) : nxtO A n o = some e := by
  unfold nxtO
  rw [show n = e + (n - e) by omega, List.range_add, List.find?_append]
  have h1 : (List.range e).find? (rdy A (e + (n - e)) o) = none := by
    rw [List.find?_eq_none]
    intro k hk
    rw [show e + (n - e) = n by omega, hl k (List.mem_range.1 hk)]
    simp
  rw [h1, show n - e = (n - e - 1) + 1 by omega, List.range_succ_eq_map]
  simp only [List.map_cons, List.find?_cons, Nat.add_zero, Option.none_or]
  rw [show e + (n - e - 1 + 1) = n by omega, hr]
theorem nxtO_none {A : Nat → Nat → Int} {n : Nat} {o : List Int} (hl : ∀ k, k < n → rdy A n o k = false) : nxtO A n o = none := by
  unfold nxtO
  rw [List.find?_eq_none]
  intro k hk
  rw [hl k (List.mem_range.1 hk)]
  simp
theorem step_some {A : Nat → Nat → Int} {n : Nat} {o : List Int} {e : Nat} (h : nxtO A n o = some e) : stepO A n o = o ++ [(e : Int)] := by unfold stepO; rw [h]
theorem step_none {A : Nat → Nat → Int} {n : Nat} {o : List Int} (h : nxtO A n o = none) : stepO A n o = o := by unfold stepO; rw [h]
theorem ord_nodes (A : Nat → Nat → Int) (n t : Nat) : nodesB n (ordL A n t) = true ∧ diffB (ordL A n t) = true ∧ (ordL A n t).length ≤ t := by
  induction t with
  | zero => exact ⟨rfl, rfl, Nat.le_refl _⟩
  | succ t ih =>
    obtain ⟨h1, h2, h3⟩ := ih
    show nodesB n (stepO A n _) = true ∧ diffB (stepO A n _) = true ∧ (stepO A n _).length ≤ _
    cases e : nxtO A n (ordL A n t) with
    | none => rw [step_none e]; exact ⟨h1, h2, by omega⟩
    | some x =>
      obtain ⟨k1, k2⟩ := nxtO_some e
      rw [step_some e]
      exact ⟨nodesB_snoc h1 k1, diffB_snoc h2 (rdy_t.1 k2).1, by simp; omega⟩
theorem ord_len (A : Nat → Nat → Int) (n t : Nat) : (ordL A n t).length ≤ n := diffB_len (ord_nodes A n t).1 (ord_nodes A n t).2.1
def liveB (A : Nat → Nat → Int) (n : Nat) : Bool := decide ((ordL A n n).length = n)
/-- Once nothing can be next, nothing ever can. -/
theorem ord_short {A : Nat → Nat → Int} {n t : Nat} (h : (ordL A n t).length < t) : ∃ s, s < t ∧ nxtO A n (ordL A n s) = none ∧ ordL A n t = ordL A n s := by
  induction t with
  | zero => omega
  | succ t ih =>
    have hs : ordL A n (t + 1) = stepO A n (ordL A n t) := rfl
    by_cases q : (ordL A n t).length < t
    · obtain ⟨s, h1, h2, h3⟩ := ih q
      refine ⟨s, by omega, h2, ?_⟩
      rw [hs, h3, step_none h2]
    · cases e : nxtO A n (ordL A n t) with
      | none => exact ⟨t, by omega, e, by rw [hs, step_none e]⟩
      | some x => rw [hs, step_some e] at h; simp at h; omega
/-- All nodes are in an order of full length. -/
theorem ord_all {n : Nat} {o : List Int} (h1 : nodesB n o = true) (h2 : diffB o = true) (h3 : o.length = n) {x : Nat} (hx : x < n) : hasB o (x : Int) = true := by
  cases e : hasB o (x : Int) with
  | true => rfl
  | false =>
    have := diffB_len (nodesB_snoc h1 hx) (diffB_snoc h2 e)
    simp at this; omega
theorem has_snoc {o : List Int} {e x : Int} : hasB (o ++ [e]) x = (hasB o x || decide (x = e)) := by
  rw [Bool.eq_iff_iff, hasB_iff, Bool.or_eq_true, hasB_iff, decide_eq_true_eq, List.mem_append, List.mem_singleton]
/-- No closed walk meets what has been taken. -/
theorem ord_walk {A : Nat → Nat → Int} {n : Nat} {v : Nat → Nat} {s : Nat} (hs : 1 ≤ s) (hc : v s = v 0) (hv : ∀ u, u ≤ s → v u < n) (ha : ∀ u, u < s → A (v (u + 1)) (v u) ≠ -1000000000000000) (t : Nat) : ∀ u, u ≤ s → hasB (ordL A n t) (v u : Int) = false := by
  induction t with
  | zero => intro u _; rfl
  | succ t ih =>
    intro u hu
    show hasB (stepO A n (ordL A n t)) _ = false
    cases e : nxtO A n (ordL A n t) with
    | none => rw [step_none e]; exact ih u hu
    | some x =>
      rw [step_some e, has_snoc, ih u hu, Bool.false_or]
      refine decide_eq_false fun hx => ?_
      obtain ⟨-, h2⟩ := nxtO_some e
      have hr := (rdy_t.1 h2).2
      have hx' : v u = x := by omega
      obtain ⟨u', hu', hx''⟩ : ∃ u', u' < s ∧ v (u' + 1) = x := by
        by_cases h0 : u = 0
        · subst h0; exact ⟨s - 1, by omega, by rw [show s - 1 + 1 = s by omega, hc]; exact hx'⟩
        · exact ⟨u - 1, by omega, by rw [show u - 1 + 1 = u by omega]; exact hx'⟩
      have := hr (v u') (hv _ (by omega)) (by rw [← hx'']; exact ha u' hu')
      rw [ih u' (by omega)] at this
      exact absurd this (by simp)
theorem owk_arcs {f : Nat → Nat → Option Int} {v : Nat → Nat} {s : Nat} (h : owk f v s ≠ none) : ∀ u, u < s → f (v (u + 1)) (v u) ≠ none := by
  induction s with
  | zero => intro u hu; omega
  | succ s ih =>
    intro u hu e
    have h : omul (f (v (s + 1)) (v s)) (owk f v s) ≠ none := h
    by_cases q : u = s
    · subst q; rw [e, none_omul] at h; exact h rfl
    · refine ih (fun e2 => h ?_) u (by omega) e
      rw [e2, omul_none]
theorem live_noPos {A B : Nat → Nat → Int} {n : Nat} (hU : UZ A B) (hn : n ≤ 10) (h : liveB A n = true) : noPos A n = true := by
  cases e : noPos A n with
  | true => rfl
  | false =>
    obtain ⟨v, s, g1, g2, g3, g4⟩ := gain_of hn (fun i j _ _ => uz_sm hU i j) e
    have ha : ∀ u, u < s → A (v (u + 1)) (v u) ≠ -1000000000000000 := fun u hu hx => by
      refine owk_arcs (f := fun i j => o (A i j)) (v := v) (s := s) (fun hy => g4 (by rw [hy]; exact ole_none _)) u hu ?_
      show o (A _ _) = none
      rw [hx]; exact o_bot
    have h1 := ord_walk (n := n) g1 g2 g3 ha n 0 (Nat.zero_le _)
    have h2 := ord_all (ord_nodes A n n).1 (ord_nodes A n n).2.1 (of_decide_eq_true h) (g3 0 (Nat.zero_le _))
    rw [h1] at h2
    cases h2
theorem sum_att {k : Nat} {f : Nat → Int} : sumN k f = -1000000000000000 ∨ ∃ t, t < k ∧ sumN k f = f t := by
  induction k with
  | zero => exact .inl rfl
  | succ k ih =>
    show max (sumN k f) (f k) = _ ∨ ∃ t, t < k + 1 ∧ max (sumN k f) (f k) = f t
    rcases Int.le_total (sumN k f) (f k) with q | q
    · rw [Int.max_eq_right q]; exact .inr ⟨k, by omega, rfl⟩
    · rw [Int.max_eq_left q]
      rcases ih with e | ⟨t, h1, h2⟩
      · exact .inl e
      · exact .inr ⟨t, by omega, h2⟩
/-- The greatest weight of a path to a node. -/
def lev (A : Nat → Nat → Int) (n i : Nat) : Int := sumN n fun j => starF A n i j
section
variable {A B : Nat → Nat → Int} {n : Nat} (hU : UZ A B) (hn : n ≤ 10) (hp : noPos A n = true)
include hU hn hp
theorem star_eq {i j : Nat} (hi : i < n) (hj : j < n) : starF A n i j = max (unit i j) (sumN n fun u => times (A i u) (starF A n u j)) := by
  have hA : ∀ i j, i < n → j < n → Sm 1000001000000 (A i j) := fun i j _ _ => uz_sm hU i j
  have h1 : cbm A n (n + 1) i j = max (unit i j) (sumN n fun u => times (A i u) (cbm A n n u j)) := rfl
  have h2 : starF A n i j = cbm A n n i j := (clo_star hn hA hp hi hj).symm
  rw [h2, ← clo_same hn hA hp hi hj, h1]
  congr 1
  exact sumN_congr fun u hu => by rw [clo_star hn hA hp hu hj]; rfl
theorem lev_nn {i : Nat} (hi : i < n) : 0 ≤ lev A n i := by
  have := sum_ge (f := fun j => starF A n i j) hi
  have h0 : starF A n i i = 0 := if_pos rfl
  have this : starF A n i i ≤ lev A n i := this
  omega
theorem lev_up {i k : Nat} (hi : i < n) (hk : k < n) (ha : A i k ≠ -1000000000000000) : lev A n k + 1 ≤ lev A n i := by
  have h1 : A i k = 1 := by rcases hU i k with ⟨q, -⟩ | ⟨q, -⟩; exact absurd q ha; exact q
  have h0 := lev_nn hU hn hp hk
  rcases sum_att (k := n) (f := fun j => starF A n k j) with e | ⟨j, hj, e⟩
  · unfold lev at h0; omega
  · have hf : starF A n k j ≠ -1000000000000000 := fun q => by unfold lev at h0; rw [e, q] at h0; omega
    have e1 := star_eq hU hn hp hi hj
    have e2 := sum_ge (f := fun u => times (A i u) (starF A n u j)) hk
    have e3 := sum_ge (f := fun j => starF A n i j) hj
    have e2 : times (A i k) (starF A n k j) ≤ sumN n fun u => times (A i u) (starF A n u j) := e2
    rw [h1, times_fin (show (1 : Int) ≠ -1000000000000000 by omega) hf] at e2
    have e3 : starF A n i j ≤ lev A n i := e3
    have e : lev A n k = starF A n k j := e
    rw [e]
    have := Int.le_max_right (unit i j) (sumN n fun u => times (A i u) (starF A n u j))
    omega
theorem lev_from {i : Nat} (hi : i < n) : lev A n i = 0 ∨ ∃ k, k < n ∧ A i k ≠ -1000000000000000 ∧ lev A n i = lev A n k + 1 := by
  have h0 := lev_nn hU hn hp hi
  rcases sum_att (k := n) (f := fun j => starF A n i j) with e | ⟨j, hj, e⟩
  · unfold lev at h0; omega
  · have e : lev A n i = starF A n i j := e
    have e1 := star_eq hU hn hp hi hj
    rcases Int.le_total (sumN n fun u => times (A i u) (starF A n u j)) (unit i j) with q | q
    · rw [Int.max_eq_left q] at e1
      left
      unfold unit at e1
      split at e1 <;> omega
    · rw [Int.max_eq_right q] at e1
      rcases sum_att (k := n) (f := fun u => times (A i u) (starF A n u j)) with e2 | ⟨u, hu, e2⟩
      · rw [e2] at e1; omega
      · have e2 : (sumN n fun u => times (A i u) (starF A n u j)) = times (A i u) (starF A n u j) := e2
        have hne : times (A i u) (starF A n u j) ≠ -1000000000000000 := fun hx => by rw [hx] at e2; omega
        have hA : A i u ≠ -1000000000000000 := fun hx => hne (by rw [hx]; exact bot_times _)
        have hS : starF A n u j ≠ -1000000000000000 := fun hx => hne (by unfold times; rw [if_pos (.inr hx)])
        have h1 : A i u = 1 := by rcases hU i u with ⟨q, -⟩ | ⟨q, -⟩; exact absurd q hA; exact q
        rw [h1, times_fin (by omega) hS] at e2
        right
        refine ⟨u, hu, hA, ?_⟩
        have e3 := sum_ge (f := fun j => starF A n u j) hj
        have e4 := lev_up hU hn hp hi hu hA
        have e5 : lev A n u = sumN n fun j => starF A n u j := rfl
        have e3 : starF A n u j ≤ lev A n u := e3
        omega
theorem ord_goes {t : Nat} (ht : t < n) (hl : (ordL A n t).length = t) : ∃ e, nxtO A n (ordL A n t) = some e := by
  cases e : nxtO A n (ordL A n t) with
  | some x => exact ⟨x, rfl⟩
  | none =>
    exfalso
    obtain ⟨h1, h2, -⟩ := ord_nodes A n t
    -- a node that is not taken
    have hex : ∃ x, x < n ∧ hasB (ordL A n t) (x : Int) = false := by
      apply Classical.byContradiction
      intro hno
      have hall : ∀ x, x < n → hasB (ordL A n t) (x : Int) = true := fun x hx => by
        cases q : hasB (ordL A n t) (x : Int) with
        | true => rfl
        | false => exact absurd ⟨x, hx, q⟩ hno
      obtain ⟨a, b, hab, hb, hi⟩ := pigeon t (fun x => (ordL A n t).idxOf (x : Int)) (fun x hx => by
        have := List.idxOf_lt_length_of_mem (hasB_iff.1 (hall x (by omega)))
        omega)
      have g1 := List.getElem_idxOf (List.idxOf_lt_length_of_mem (hasB_iff.1 (hall a (by omega))))
      have g2 := List.getElem_idxOf (List.idxOf_lt_length_of_mem (hasB_iff.1 (hall b (by omega))))
      have hi : (ordL A n t).idxOf (a : Int) = (ordL A n t).idxOf (b : Int) := hi
      have g3 : (ordL A n t)[(ordL A n t).idxOf (b : Int)]? = some (a : Int) := by
        rw [← hi]; exact List.getElem?_eq_some_iff.2 ⟨_, g1⟩
      have g4 : (ordL A n t)[(ordL A n t).idxOf (b : Int)]? = some (b : Int) := List.getElem?_eq_some_iff.2 ⟨_, g2⟩
      rw [g3] at g4
      have := Option.some.inj g4
      omega
    have hmin : ∀ m : Nat, ∀ x, x < n → hasB (ordL A n t) (x : Int) = false → lev A n x ≤ m → False := by
      intro m
      induction m with
      | zero =>
        intro x hx hn0 hm
        have hnr : ¬ rdy A n (ordL A n t) x = true := fun hr => by
          have := List.find?_eq_none.1 e x (List.mem_range.2 hx)
          exact this hr
        apply hnr
        refine rdy_t.2 ⟨hn0, fun k hk ha => ?_⟩
        have := lev_up hU hn hp hx hk ha
        have := lev_nn hU hn hp hk
        omega
      | succ m ih =>
        intro x hx hn0 hm
        have hnr : ¬ rdy A n (ordL A n t) x = true := fun hr => by
          have := List.find?_eq_none.1 e x (List.mem_range.2 hx)
          exact this hr
        apply hnr
        refine rdy_t.2 ⟨hn0, fun k hk ha => ?_⟩
        cases q : hasB (ordL A n t) (k : Int) with
        | true => rfl
        | false =>
          have := lev_up hU hn hp hx hk ha
          exact absurd (ih k hk q (by omega)) id
    obtain ⟨x, hx, hn0⟩ := hex
    exact hmin (lev A n x).toNat x hx hn0 (by omega)
theorem ord_full {t : Nat} (ht : t ≤ n) : (ordL A n t).length = t := by
  induction t with
  | zero => rfl
  | succ t ih =>
    have hl := ih (by omega)
    obtain ⟨e, he⟩ := ord_goes hU hn hp (by omega) hl
    show (stepO A n _).length = _
    rw [step_some he, List.length_append, hl]; rfl
end
theorem noPos_live {A B : Nat → Nat → Int} {n : Nat} (hU : UZ A B) (hn : n ≤ 10) (hp : noPos A n = true) : liveB A n = true :=
  decide_eq_true (ord_full hU hn hp (Nat.le_refl _))
theorem live_is {A B : Nat → Nat → Int} {n : Nat} (hU : UZ A B) (hn : n ≤ 10) : liveB A n = noPos A n := by
  cases e : noPos A n with
  | true => exact noPos_live hU hn e
  | false =>
    cases q : liveB A n with
    | false => rfl
    | true => rw [live_noPos hU hn q] at e; cases e
theorem dead_live {A B : Nat → Nat → Int} {n : Nat} (hU : UZ A B) (hn : n ≤ 10) : decide ((overL B n (-1)).length = 0) = liveB A n := by
  rw [live_is hU hn, ← over_uz hU]
  have hA : ∀ i j, i < n → j < n → Sm 1000001000000 (A i j) := fun i j _ _ => uz_sm hU i j
  cases e : noPos A n with
  | true => exact decide_eq_true (over_none hn hA e)
  | false => exact decide_eq_false (over_some hn hA e)
/-- The order is the same for both weights. -/
theorem rdy_uz {A B : Nat → Nat → Int} (hU : UZ A B) (n : Nat) (o : List Int) (e : Nat) : rdy A n o e = rdy B n o e := by
  rw [Bool.eq_iff_iff, rdy_t, rdy_t]
  have : ∀ k, A e k ≠ -1000000000000000 ↔ B e k ≠ -1000000000000000 := fun k => by
    rcases hU e k with ⟨h1, h2⟩ | ⟨h1, h2⟩ <;> rw [h1, h2] <;> simp
  exact ⟨fun ⟨a, b⟩ => ⟨a, fun k hk hx => b k hk ((this k).2 hx)⟩, fun ⟨a, b⟩ => ⟨a, fun k hk hx => b k hk ((this k).1 hx)⟩⟩
theorem ord_uz {A B : Nat → Nat → Int} (hU : UZ A B) (n t : Nat) : ordL A n t = ordL B n t := by
  induction t with
  | zero => rfl
  | succ t ih =>
    show stepO A n _ = stepO B n _
    rw [ih]
    unfold stepO nxtO
    rw [show rdy A n (ordL B n t) = rdy B n (ordL B n t) from funext fun e => rdy_uz hU n _ e]
/-- Levels as they are computed along the order. -/
def lvP (A : Nat → Nat → Int) (n i : Nat) : Nat → Int
  | 0 => 0
  | k + 1 => if A i k = -1000000000000000 then lvP A n i k else max (lvP A n i k) (lev A n k + 1)
theorem lvP_le {A B : Nat → Nat → Int} {n : Nat} (hU : UZ A B) (hn : n ≤ 10) (hp : noPos A n = true) {i : Nat} (hi : i < n) {k : Nat} (hk : k ≤ n) : lvP A n i k ≤ lev A n i ∧ 0 ≤ lvP A n i k := by
  induction k with
  | zero => exact ⟨lev_nn hU hn hp hi, Int.le_refl _⟩
  | succ k ih =>
    obtain ⟨h1, h2⟩ := ih (by omega)
    show (if A i k = -1000000000000000 then lvP A n i k else max (lvP A n i k) (lev A n k + 1)) ≤ _ ∧ 0 ≤ (if A i k = -1000000000000000 then lvP A n i k else max (lvP A n i k) (lev A n k + 1))
    split
    · exact ⟨h1, h2⟩
    · next ha => have := lev_up hU hn hp hi (k := k) (by omega) ha; omega
theorem lvP_ge {A : Nat → Nat → Int} {n i k : Nat} (ha : A i k ≠ -1000000000000000) : ∀ m, k < m → lev A n k + 1 ≤ lvP A n i m := by
  intro m
  induction m with
  | zero => omega
  | succ m ih =>
    intro hk
    show _ ≤ (if A i m = -1000000000000000 then lvP A n i m else max (lvP A n i m) (lev A n m + 1))
    by_cases e : k = m
    · subst e; rw [if_neg ha]; omega
    · have h0 := ih (by omega)
      split
      · exact h0
      · omega
theorem lvP_end {A B : Nat → Nat → Int} {n : Nat} (hU : UZ A B) (hn : n ≤ 10) (hp : noPos A n = true) {i : Nat} (hi : i < n) : lvP A n i n = lev A n i := by
  have h := lvP_le hU hn hp hi (Nat.le_refl n)
  rcases lev_from hU hn hp hi with e | ⟨k, hk, ha, e⟩
  · omega
  · have := lvP_ge (n := n) ha n hk; omega
theorem lev_bd {A B : Nat → Nat → Int} {n : Nat} (hU : UZ A B) (hn : n ≤ 10) (hp : noPos A n = true) {i : Nat} (hi : i < n) : 0 ≤ lev A n i ∧ lev A n i ≤ 11000011000000 := by
  refine ⟨lev_nn hU hn hp hi, sum_le (by omega) fun j hj => ?_⟩
  have := star_sm hn (fun i j _ _ => uz_sm hU i j) hp hi hj
  unfold Sm at this; omega
def levL (A : Nat → Nat → Int) (n : Nat) : List Int := (List.range n).map (lev A n)
end M
end Go.Proofs.YtlofnadpgnbmdaaGreat
