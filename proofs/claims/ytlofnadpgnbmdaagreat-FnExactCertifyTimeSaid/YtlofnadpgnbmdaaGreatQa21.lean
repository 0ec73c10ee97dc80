/- Texts laid together: SMul2, Gri, Rca, Rcb, Rcd. -/
import Derived.Test.YtlofnadpgnbmdaaGreatRows
import Derived.Test.YtlofnadpgnbmdaaGreatQa1
import Derived.Test.YtlofnadpgnbmdaaGreatQa2
import Derived.WalkKit
import Derived.ProofKit
import Derived.WalkSmall
import Derived.Deep.QuietTactic
import Derived.BigQuiet
import Derived.BigRegion
import Derived.Deep.Draws
import Derived.Lib.Hide
import Derived.OpenShut
import Derived.Deep.OwnRows
import Derived.Test.YtlofnadpgnbmdaaGreatQa3
import Derived.Test.YtlofnadpgnbmdaaGreatQa4
import Derived.StillTailTactics
import Derived.Test.YtlofnadpgnbmdaaGreatQa5
import Derived.Test.YtlofnadpgnbmdaaGreatQa7
import Derived.Test.YtlofnadpgnbmdaaGreatQa19
set_option linter.unusedSimpArgs false
set_option linter.unusedVariables false
set_option linter.unusedSectionVars false
namespace Go.Proofs.YtlofnadpgnbmdaaGreat.V
open Go.RowKit

end Go.Proofs.YtlofnadpgnbmdaaGreat.V

namespace Go.Proofs.YtlofnadpgnbmdaaGreat
namespace M
theorem chg_cases (e : Int) (l : List Pc) (i d t : Int) :
    (ixCode e l i = 1 ∧ chgRes e l i d t = (0, [], 1)) ∨ (ixCode e l i = 2 ∧ chgRes e l i d t = (0, [], 2)) ∨
    (∃ k : Nat, i = k ∧ k < l.length ∧ l.length ≤ 30 ∧ ixCode e l i = 0 ∧ (inB d 0 1000 = true → inB t 0 5 = true → chgRes e l i d t = (e, stF (stF l k 2 d) k 3 t, 0)) ∧ (inB d 0 1000 = false → chgRes e l i d t = (0, [], 2)) ∧ (inB t 0 5 = false → chgRes e l i d t = (0, [], 2))) := by
  unfold ixCode chgRes
  cases h : isGr e l with
  | false => exact .inl ⟨rfl, rfl⟩
  | true =>
    refine .inr ?_
    cases h2 : inB i 0 ((l.length : Int) - 1) with
    | false => exact .inl ⟨rfl, rfl⟩
    | true =>
      refine .inr ?_
      have h3 := h2
      unfold inB at h3
      simp at h3
      refine ⟨i.toNat, by omega, by omega, (isGr_in h).2, by simp, fun q1 q2 => ?_, fun q => by simp [q], fun q => by simp [q]⟩
      rw [q1, q2, chg_stF (by omega)]
      simp
theorem chg_cases2 (e : Int) (l : List Pc) (i d t : Int) :
    (isGr e l = false ∧ chgRes e l i d t = (0, [], 1)) ∨ (isGr e l = true ∧ l.length ≤ 30 ∧ inB i 0 ((l.length : Int) - 1) = false ∧ chgRes e l i d t = (0, [], 2)) ∨
    (∃ k : Nat, i = k ∧ k < l.length ∧ l.length ≤ 30 ∧ isGr e l = true ∧ inB i 0 ((l.length : Int) - 1) = true ∧ (inB d 0 1000 = true → inB t 0 5 = true → chgRes e l i d t = (e, stF (stF l k 2 d) k 3 t, 0)) ∧ (inB d 0 1000 = false → chgRes e l i d t = (0, [], 2)) ∧ (inB t 0 5 = false → chgRes e l i d t = (0, [], 2))) := by
  have hc := chg_cases e l i d t
  unfold ixCode at hc
  cases h : isGr e l with
  | false => rw [h] at hc; simp at hc; exact .inl ⟨rfl, hc⟩
  | true =>
    refine .inr ?_
    rw [h] at hc
    cases h2 : inB i 0 ((l.length : Int) - 1) with
    | false => rw [h2] at hc; simp at hc; exact .inl ⟨rfl, (isGr_in h).2, rfl, hc⟩
    | true =>
      refine .inr ?_
      rw [h2] at hc; simp at hc
      obtain ⟨k, q1, q2, q3, q4, q5, q6⟩ := hc
      exact ⟨k, q1, q2, q3, rfl, rfl, q4, q5, q6⟩
end M
namespace V
set_option maxRecDepth 100000
open Go.RowKit
end V
end Go.Proofs.YtlofnadpgnbmdaaGreat

namespace Go.Proofs.YtlofnadpgnbmdaaGreat
namespace M
def fDel (m : Int) (p : Int × Int × Int × Int) : Int := if p.2.2.2 ≠ m then -1000000000000000 else p.2.2.1
/-- One place more: the time at which its token is ready. -/
def rdS (F : Nat → Nat → Int) (k e : Nat) (m : Int) (p : Int × Int × Int × Int) : Int := if p.2.1 = (e : Int) ∧ p.2.2.2 < (k : Int) then max m (F (k - p.2.2.2.toNat) p.1.toNat + p.2.2.1) else m
def rd (F : Nat → Nat → Int) (k e : Nat) (l : List (Int × Int × Int × Int)) (least : Int) : Int := l.foldl (rdS F k e) least
theorem rd_next (F : Nat → Nat → Int) (k e : Nat) (l : List (Int × Int × Int × Int)) (least : Int) {i : Nat} (hi : i < l.length) : rd F k e (l.take (i + 1)) least = rdS F k e (rd F k e (l.take i) least) (l.getD i (0, 0, 0, 0)) := by
  unfold rd
  rw [List.take_add_one, List.foldl_append, List.getD_eq_getElem?_getD, List.getElem?_eq_getElem hi]
  rfl
theorem rd_yes (F : Nat → Nat → Int) {k e : Nat} (l : List (Int × Int × Int × Int)) (least : Int) {i : Nat} (hi : i < l.length) {p0 p1 p2 p3 : Int} (hp : l.getD i (0, 0, 0, 0) = (p0, p1, p2, p3)) (h1 : p1 = (e : Int)) (h3 : p3 < (k : Int)) : rd F k e (l.take (i + 1)) least = max (rd F k e (l.take i) least) (F (k - p3.toNat) p0.toNat + p2) := by
  rw [rd_next F k e l least hi, hp]
  exact if_pos ⟨h1, h3⟩
theorem rd_no (F : Nat → Nat → Int) {k e : Nat} (l : List (Int × Int × Int × Int)) (least : Int) {i : Nat} (hi : i < l.length) {p0 p1 p2 p3 : Int} (hp : l.getD i (0, 0, 0, 0) = (p0, p1, p2, p3)) (h : ¬ (p1 = (e : Int) ∧ p3 < (k : Int))) : rd F k e (l.take (i + 1)) least = rd F k e (l.take i) least := by
  rw [rd_next F k e l least hi, hp]
  exact if_neg h
theorem rd_congr {F G : Nat → Nat → Int} {k e : Nat} {l : List (Int × Int × Int × Int)} (h : ∀ p ∈ l, p.2.1 = (e : Int) → p.2.2.2 < (k : Int) → F (k - p.2.2.2.toNat) p.1.toNat = G (k - p.2.2.2.toNat) p.1.toNat) (least : Int) : rd F k e l least = rd G k e l least := by
  unfold rd
  induction l generalizing least with
  | nil => rfl
  | cons p l ih =>
    show List.foldl _ (rdS F k e least p) l = List.foldl _ (rdS G k e least p) l
    have e1 : rdS F k e least p = rdS G k e least p := by
      unfold rdS
      by_cases q : p.2.1 = (e : Int) ∧ p.2.2.2 < (k : Int)
      · rw [if_pos q, if_pos q, h p List.mem_cons_self q.1 q.2]
      · rw [if_neg q, if_neg q]
    rw [e1]
    exact ih (fun q hq => h q (List.mem_cons_of_mem _ hq)) _
theorem rd_ge (F : Nat → Nat → Int) (k e : Nat) (l : List (Int × Int × Int × Int)) (least : Int) : least ≤ rd F k e l least := by
  unfold rd
  induction l generalizing least with
  | nil => exact Int.le_refl _
  | cons p l ih =>
    refine Int.le_trans ?_ (ih (rdS F k e least p))
    unfold rdS
    split <;> omega
theorem rd_le {F : Nat → Nat → Int} {k e : Nat} {l : List (Int × Int × Int × Int)} {least B : Int} (h0 : least ≤ B) (h : ∀ p ∈ l, p.2.1 = (e : Int) → p.2.2.2 < (k : Int) → F (k - p.2.2.2.toNat) p.1.toNat + p.2.2.1 ≤ B) : rd F k e l least ≤ B := by
  unfold rd
  induction l generalizing least with
  | nil => exact h0
  | cons p l ih =>
    refine ih (least := rdS F k e least p) ?_ fun q hq => h q (List.mem_cons_of_mem _ hq)
    unfold rdS
    by_cases q : p.2.1 = (e : Int) ∧ p.2.2.2 < (k : Int)
    · rw [if_pos q]
      have := h p List.mem_cons_self q.1 q.2
      omega
    · rw [if_neg q]; exact h0
theorem rd_at {F : Nat → Nat → Int} {k e : Nat} {l : List (Int × Int × Int × Int)} {least : Int} {p : Int × Int × Int × Int} (hp : p ∈ l) (h1 : p.2.1 = (e : Int)) (h3 : p.2.2.2 < (k : Int)) : F (k - p.2.2.2.toNat) p.1.toNat + p.2.2.1 ≤ rd F k e l least := by
  unfold rd
  induction l generalizing least with
  | nil => cases hp
  | cons q l ih =>
    rcases List.mem_cons.1 hp with rfl | hp
    · refine Int.le_trans ?_ (rd_ge F k e l (rdS F k e least p))
      unfold rdS
      rw [if_pos ⟨h1, h3⟩]
      omega
    · exact ih hp
def updF (F : Nat → Nat → Int) (k e : Nat) (v : Int) : Nat → Nat → Int := fun r x => if r = k ∧ x = e then v else F r x
section
variable (l : List (Int × Int × Int × Int)) (o : List Int) (st : Nat → Int)
/-- The times once the first t events of the order have fired for the k-th time. -/
def rowT (F : Nat → Nat → Int) (k : Nat) : Nat → Nat → Nat → Int
  | 0 => F
  | t + 1 => updF (rowT F k t) k (o.getD t 0).toNat (rd (rowT F k t) k (o.getD t 0).toNat l (st (o.getD t 0).toNat))
/-- The times of n firings. -/
def tabT : Nat → Nat → Nat → Int
  | 0 => fun _ _ => 0
  | n + 1 => rowT l o st (tabT n) (n + 1) o.length
def timM (N n : Nat) : List (List Int) := mk n N fun r e => tabT l o st n (r + 1) e
theorem rowT_out (F : Nat → Nat → Int) (k t : Nat) {r x : Nat} (h : r ≠ k) : rowT l o st F k t r x = F r x := by
  induction t with
  | zero => rfl
  | succ t ih =>
    show updF _ _ _ _ r x = _
    unfold updF
    rw [if_neg (fun q => h q.1), ih]
theorem tabT_out {n r : Nat} (h : n < r) (x : Nat) : tabT l o st n r x = 0 := by
  induction n with
  | zero => rfl
  | succ n ih =>
    show rowT l o st _ _ _ r x = 0
    rw [rowT_out _ _ _ _ _ _ (by omega)]
    exact ih (by omega)
theorem tabT_old {n r : Nat} (h : r ≤ n) (d x : Nat) : tabT l o st (n + d) r x = tabT l o st n r x := by
  induction d with
  | zero => rfl
  | succ d ih =>
    show rowT l o st (tabT l o st (n + d)) (n + d + 1) _ r x = _
    rw [rowT_out _ _ _ _ _ _ (by omega)]
    exact ih
theorem rowT_not (F : Nat → Nat → Int) (k t : Nat) {x : Nat} (h : ∀ s, s < t → (o.getD s 0).toNat ≠ x) : rowT l o st F k t k x = F k x := by
  induction t with
  | zero => rfl
  | succ t ih =>
    show updF _ _ _ _ k x = _
    unfold updF
    rw [if_neg (fun q => h t (by omega) q.2.symm), ih (fun s hs => h s (by omega))]
theorem rowT_keep (F : Nat → Nat → Int) (k t d : Nat) {x : Nat} (h : ∀ s, t ≤ s → s < t + d → (o.getD s 0).toNat ≠ x) : rowT l o st F k (t + d) k x = rowT l o st F k t k x := by
  induction d with
  | zero => rfl
  | succ d ih =>
    show updF (rowT l o st F k (t + d)) k _ _ k x = _
    unfold updF
    rw [if_neg (fun q => h (t + d) (by omega) (by omega) q.2.symm), ih (fun s h1 h2 => h s h1 (by omega))]
/-- Times are not small and not great. -/
theorem rowT_bd {S : Int} {F : Nat → Nat → Int} {k t : Nat} (hl : ∀ p ∈ l, 0 ≤ p.2.2.1 ∧ p.2.2.1 ≤ 1000) (hs : ∀ e, 0 ≤ st e ∧ st e ≤ S) {c : Nat} (hF : ∀ r x, 0 ≤ F r x ∧ F r x ≤ S + c * 1000) : ∀ r x, 0 ≤ rowT l o st F k t r x ∧ rowT l o st F k t r x ≤ S + ((c + t : Nat) : Int) * 1000 := by
  induction t with
  | zero => exact hF
  | succ t ih =>
    intro r x
    show 0 ≤ updF _ _ _ _ r x ∧ updF _ _ _ _ r x ≤ _
    unfold updF
    have e1 : ((c + (t + 1) : Nat) : Int) = ((c + t : Nat) : Int) + 1 := by omega
    rw [e1]
    by_cases q : r = k ∧ x = (o.getD t 0).toNat
    · rw [if_pos q]
      have h1 := rd_ge (rowT l o st F k t) k (o.getD t 0).toNat l (st (o.getD t 0).toNat)
      have h2 := hs (o.getD t 0).toNat
      refine ⟨by omega, rd_le (by omega) fun p hp _ _ => ?_⟩
      have := (ih (k - p.2.2.2.toNat) p.1.toNat).2
      have := (hl p hp).2
      omega
    · rw [if_neg q]
      have := ih r x
      omega
theorem tabT_bd {S : Int} (hS : 0 ≤ S) (hl : ∀ p ∈ l, 0 ≤ p.2.2.1 ∧ p.2.2.1 ≤ 1000) (hs : ∀ e, 0 ≤ st e ∧ st e ≤ S) (n : Nat) : ∀ r x, 0 ≤ tabT l o st n r x ∧ tabT l o st n r x ≤ S + ((n * o.length : Nat) : Int) * 1000 := by
  induction n with
  | zero => intro r x; show 0 ≤ 0 ∧ 0 ≤ _; simp; exact hS
  | succ n ih =>
    intro r x
    have := rowT_bd l o st (k := n + 1) (t := o.length) hl hs (c := n * o.length) ih r x
    rw [Nat.succ_mul]
    exact this
theorem timM_next (N n : Nat) : timM l o st N (n + 1) = mk (n + 1) N fun r e => rowT l o st (tabT l o st n) (n + 1) o.length (r + 1) e := rfl
theorem timM_row0 (N n : Nat) : (mk (n + 1) N fun r e => rowT l o st (tabT l o st n) (n + 1) 0 (r + 1) e) = timM l o st N n ++ [List.replicate N 0] := by
  rw [mk_snoc]
  unfold timM
  congr 1
  congr 1
  apply List.ext_getElem
  · simp
  · intro i h1 h2
    simp
    exact tabT_out l o st (by omega) i
theorem timM_set (N n : Nat) {t e : Nat} (he : (o.getD t 0) = (e : Int)) (F : Nat → Nat → Int) :
    (mk (n + 1) N fun r x => rowT l o st F (n + 1) t (r + 1) x).set n (((mk (n + 1) N fun r x => rowT l o st F (n + 1) t (r + 1) x).getD n []).set e (rd (rowT l o st F (n + 1) t) (n + 1) e l (st e))) = mk (n + 1) N fun r x => rowT l o st F (n + 1) (t + 1) (r + 1) x := by
  rw [mk_set _ _ _ _ _ _ (by omega)]
  refine mk_congr fun r hr x hx => ?_
  show _ = updF _ _ _ _ (r + 1) x
  unfold updF
  rw [he, Int.toNat_natCast]
  by_cases q : r = n
  · subst q
    rw [if_pos rfl]
    by_cases q2 : x = e
    · rw [if_pos q2, if_pos ⟨rfl, q2⟩]
    · rw [if_neg q2, if_neg (fun h => q2 h.2)]
  · rw [if_neg q, if_neg (fun h => q (by have := h.1; omega))]
end
end M
end Go.Proofs.YtlofnadpgnbmdaaGreat

namespace Go.Proofs.YtlofnadpgnbmdaaGreat
namespace M
/-- A place without tokens is an arc. -/
theorem arc_zero {l : List (Int × Int × Int × Int)} {p : Int × Int × Int × Int} (hp : p ∈ l) {i j : Nat} (h1 : p.2.1 = (i : Int)) (h0 : p.1 = (j : Int)) (h3 : p.2.2.2 = 0) : wtF fOne l i j ≠ -1000000000000000 := by
  have hge : ∀ (r : List (Int × Int × Int × Int)) (m : Int), m ≤ r.foldl (wtS fOne i j) m := by
    intro r
    induction r with
    | nil => intro m; exact Int.le_refl _
    | cons p r ih =>
      intro m
      refine Int.le_trans ?_ (ih _)
      unfold wtS
      split <;> omega
  have key : ∀ (l : List (Int × Int × Int × Int)) (m : Int), p ∈ l → 1 ≤ l.foldl (wtS fOne i j) m := by
    intro l
    induction l with
    | nil => intro m h; cases h
    | cons q l ih =>
      intro m h
      rcases List.mem_cons.1 h with rfl | h
      · refine Int.le_trans ?_ (hge l _)
        unfold wtS
        rw [if_pos ⟨h1, h0⟩]
        have : fOne p = 1 := by unfold fOne; rw [if_neg (by omega)]
        omega
      · exact ih _ h
  have := key l (-1000000000000000) hp
  unfold wtF
  omega
theorem ord_mono (A : Nat → Nat → Int) (n t d : Nat) {x : Int} (h : hasB (ordL A n t) x = true) : hasB (ordL A n (t + d)) x = true := by
  induction d with
  | zero => exact h
  | succ d ih =>
    show hasB (stepO A n (ordL A n (t + d))) x = true
    cases e : nxtO A n (ordL A n (t + d)) with
    | none => rw [step_none e]; exact ih
    | some y => rw [step_some e, has_snoc, ih]; rfl
section
variable {l : List (Int × Int × Int × Int)} {N : Nat} (hn : N ≤ 10) (hp : noPos (wtF fOne l) N = true) (hl : ∀ p ∈ l, (0 ≤ p.1 ∧ p.1 < (N : Int)) ∧ 0 ≤ p.2.2.2)
include hn hp
theorem ord_later {t s x : Nat} (hs : s < N) (hts : t ≤ s) (h : hasB (ordL (wtF fOne l) N t) (x : Int) = true) : ((ordL (wtF fOne l) N N).getD s 0).toNat ≠ x := by
  obtain ⟨e, he, h1, -, h2, -⟩ := ord_at (uz_graph l) hn hp hs
  rw [h1, Int.toNat_natCast]
  intro q
  subst q
  have := ord_mono (wtF fOne l) N t (s - t) h
  rw [show t + (s - t) = s by omega, h2] at this
  cases this
theorem ord_pos {x : Nat} (hx : x < N) : ∃ t, t < N ∧ (ordL (wtF fOne l) N N).getD t 0 = (x : Int) := by
  have hall := ord_all (ord_nodes (wtF fOne l) N N).1 (ord_nodes (wtF fOne l) N N).2.1 (ord_full (uz_graph l) hn hp (Nat.le_refl _)) hx
  have hm := hasB_iff.1 hall
  obtain ⟨t, ht, e⟩ := List.getElem_of_mem hm
  rw [ord_full (uz_graph l) hn hp (Nat.le_refl _)] at ht
  refine ⟨t, ht, ?_⟩
  rw [List.getD_eq_getElem?_getD, List.getElem?_eq_getElem (by rw [ord_full (uz_graph l) hn hp (Nat.le_refl _)]; exact ht), e]
  rfl
variable (st : Nat → Int) (F : Nat → Nat → Int)
include hl
/-- What an event waits for is settled when it is its turn. -/
theorem rd_settled {k t d e : Nat} (hd : t + d ≤ N) (ht : t < N) (he : (ordL (wtF fOne l) N N).getD t 0 = (e : Int)) (least : Int) :
    rd (rowT l (ordL (wtF fOne l) N N) st F k (t + d)) k e l least = rd (rowT l (ordL (wtF fOne l) N N) st F k t) k e l least := by
  obtain ⟨e', -, h1, -, -, h4⟩ := ord_at (uz_graph l) hn hp ht
  have hee : e' = e := by rw [he] at h1; omega
  subst hee
  refine rd_congr (fun p hpl q1 q3 => ?_) least
  have hb := hl p hpl
  by_cases hz : p.2.2.2 = 0
  · have ha := arc_zero hpl (i := e') (j := p.1.toNat) q1 (by omega) hz
    have hd' := h4 p.1.toNat (by omega) ha
    rw [hz]
    exact rowT_keep l _ st F k t d fun s s1 s2 => ord_later hn hp (by omega) s1 hd'
  · rw [rowT_out _ _ _ _ _ _ (by omega), rowT_out _ _ _ _ _ _ (by omega)]
/-- Each time satisfies the recurrence. -/
theorem row_eq {k e : Nat} (he : e < N) : rowT l (ordL (wtF fOne l) N N) st F k N k e = rd (rowT l (ordL (wtF fOne l) N N) st F k N) k e l (st e) := by
  obtain ⟨t, ht, hte⟩ := ord_pos hn hp he
  have h1 := rd_settled hn hp hl st F (k := k) (t := t) (d := N - t) (by omega) ht hte (st e)
  rw [show t + (N - t) = N by omega] at h1
  rw [h1]
  have h2 := rowT_keep l (ordL (wtF fOne l) N N) st F k (t + 1) (N - (t + 1)) (x := e) fun s s1 s2 => ord_later hn hp (t := t + 1) (by omega) s1 (by
    obtain ⟨e', -, h1, h2, -, -⟩ := ord_at (uz_graph l) hn hp ht
    have hee : e' = e := by rw [hte] at h1; omega
    subst hee
    rw [h2, has_snoc, decide_eq_true rfl, Bool.or_true])
  rw [show t + 1 + (N - (t + 1)) = N by omega] at h2
  rw [h2]
  show updF _ _ _ _ k e = _
  unfold updF
  rw [hte, Int.toNat_natCast, if_pos ⟨rfl, rfl⟩]
theorem tab_eq {n k e : Nat} (h1 : 1 ≤ k) (hk : k ≤ n) (he : e < N) : tabT l (ordL (wtF fOne l) N N) st n k e = rd (tabT l (ordL (wtF fOne l) N N) st n) k e l (st e) := by
  have ho := ord_full (uz_graph l) hn hp (Nat.le_refl N)
  obtain ⟨d, rfl⟩ : ∃ d, n = k + d := ⟨n - k, by omega⟩
  have h2 : ∀ r x, r ≤ k → tabT l (ordL (wtF fOne l) N N) st (k + d) r x = tabT l (ordL (wtF fOne l) N N) st k r x := fun r x hr => by
    have a1 := tabT_old l (ordL (wtF fOne l) N N) st (n := r) (Nat.le_refl r) (k + d - r) x
    have a2 := tabT_old l (ordL (wtF fOne l) N N) st (n := r) (Nat.le_refl r) (k - r) x
    rw [show r + (k + d - r) = k + d by omega] at a1
    rw [show r + (k - r) = k by omega] at a2
    rw [a1, a2]
  rw [rd_congr (G := tabT l (ordL (wtF fOne l) N N) st k) (fun p hpl q1 q3 => h2 _ _ (by omega)) (st e), h2 k e (Nat.le_refl _)]
  obtain ⟨m, rfl⟩ : ∃ m, k = m + 1 := ⟨k - 1, by omega⟩
  have h3 := row_eq hn hp hl st (tabT l (ordL (wtF fOne l) N N) st m) (k := m + 1) he
  have h4 : tabT l (ordL (wtF fOne l) N N) st (m + 1) = rowT l (ordL (wtF fOne l) N N) st (tabT l (ordL (wtF fOne l) N N) st m) (m + 1) N := by
    show rowT _ _ _ _ _ (ordL (wtF fOne l) N N).length = _
    rw [ho]
  rw [h4]
  exact h3
omit hp hl hn
/-- The model's row: an event that has not fired has its start. -/
def rowM (l : List (Int × Int × Int × Int)) (N : Nat) (st : Nat → Int) (F : Nat → Nat → Int) (k t : Nat) : Nat → Nat → Int := fun r x => if r = k ∧ hasB (ordL (wtF fOne l) N t) (x : Int) = false then st x else rowT l (ordL (wtF fOne l) N N) st F k t r x
/-- .. and while an event's places are passed. -/
def midM (l : List (Int × Int × Int × Int)) (N : Nat) (st : Nat → Int) (F : Nat → Nat → Int) (k t e m : Nat) : Nat → Nat → Int := updF (rowM l N st F k t) k e (rd (rowT l (ordL (wtF fOne l) N N) st F k t) k e (l.take m) (st e))
theorem rowM_at (l : List (Int × Int × Int × Int)) (N : Nat) (st : Nat → Int) (F : Nat → Nat → Int) (k t r x : Nat) : rowM l N st F k t r x = if r = k ∧ hasB (ordL (wtF fOne l) N t) (x : Int) = false then st x else rowT l (ordL (wtF fOne l) N N) st F k t r x := rfl
theorem midM_zero {k t e : Nat} (he : hasB (ordL (wtF fOne l) N t) (e : Int) = false) (r x : Nat) : midM l N st F k t e 0 r x = rowM l N st F k t r x := by
  unfold midM updF
  by_cases q : r = k ∧ x = e
  · obtain ⟨rfl, rfl⟩ := q
    rw [if_pos ⟨rfl, rfl⟩]
    unfold rowM
    rw [if_pos ⟨rfl, he⟩]
    rfl
  · rw [if_neg q]
theorem midM_self (k t e m : Nat) : midM l N st F k t e m k e = rd (rowT l (ordL (wtF fOne l) N N) st F k t) k e (l.take m) (st e) := if_pos ⟨rfl, rfl⟩
include hn hp hl
theorem midM_read {k t e m : Nat} (ht : t < N) (he : (ordL (wtF fOne l) N N).getD t 0 = (e : Int)) {p : Int × Int × Int × Int} (hpl : p ∈ l) (q1 : p.2.1 = (e : Int)) (q3 : p.2.2.2 < (k : Int)) :
    midM l N st F k t e m (k - p.2.2.2.toNat) p.1.toNat = rowT l (ordL (wtF fOne l) N N) st F k t (k - p.2.2.2.toNat) p.1.toNat := by
  obtain ⟨e', -, h1, -, h3, h4⟩ := ord_at (uz_graph l) hn hp ht
  have hee : e' = e := by rw [he] at h1; omega
  subst hee
  have hb := hl p hpl
  unfold midM updF
  by_cases hz : p.2.2.2 = 0
  · have ha := arc_zero hpl (i := e') (j := p.1.toNat) q1 (by omega) hz
    have hd' := h4 p.1.toNat (by omega) ha
    have hne : p.1.toNat ≠ e' := by intro q; rw [q] at hd'; rw [h3] at hd'; cases hd'
    rw [if_neg (fun q => hne q.2)]
    unfold rowM
    rw [if_neg (fun q => by rw [hd'] at q; exact absurd q.2 (by simp))]
  · rw [if_neg (fun q => by have := q.1; omega)]
    unfold rowM
    rw [if_neg (fun q => by have := q.1; omega)]
omit hl
theorem midM_end {k t e : Nat} (ht : t < N) (he : (ordL (wtF fOne l) N N).getD t 0 = (e : Int)) (r x : Nat) : midM l N st F k t e l.length r x = rowM l N st F k (t + 1) r x := by
  obtain ⟨e', -, h1, h2, h3, -⟩ := ord_at (uz_graph l) hn hp ht
  have hee : e' = e := by rw [he] at h1; omega
  subst hee
  have hnx : rowT l (ordL (wtF fOne l) N N) st F k (t + 1) r x = updF (rowT l (ordL (wtF fOne l) N N) st F k t) k e' (rd (rowT l (ordL (wtF fOne l) N N) st F k t) k e' l (st e')) r x := by
    show updF _ _ _ _ r x = _
    rw [he, Int.toNat_natCast]
  rw [rowM_at, hnx, h2, has_snoc]
  unfold midM
  rw [List.take_length]
  unfold updF
  by_cases q : r = k ∧ x = e'
  · obtain ⟨rfl, rfl⟩ := q
    have hf : ¬ (r = r ∧ (hasB (ordL (wtF fOne l) N t) (x : Int) || decide ((x : Int) = (x : Int))) = false) := fun h => by simp at h
    rw [if_neg hf, if_pos ⟨rfl, rfl⟩, if_pos ⟨rfl, rfl⟩]
  · rw [if_neg q, if_neg q, rowM_at]
    by_cases q2 : r = k
    · have hx : x ≠ e' := fun h => q ⟨q2, h⟩
      rw [decide_eq_false (show ¬ (x : Int) = (e' : Int) by omega), Bool.or_false]
    · rw [if_neg (fun h => q2 h.1), if_neg (fun h => q2 h.1)]
theorem rowM_end {k : Nat} {x : Nat} (hx : x < N) (r : Nat) : rowM l N st F k N r x = rowT l (ordL (wtF fOne l) N N) st F k N r x := by
  unfold rowM
  rw [ord_all (ord_nodes (wtF fOne l) N N).1 (ord_nodes (wtF fOne l) N N).2.1 (ord_full (uz_graph l) hn hp (Nat.le_refl _)) hx]
  rw [if_neg (fun h => absurd h.2 (by simp))]
omit hn hp
theorem rowM_row0 (n : Nat) : (mk (n + 1) N fun r x => rowM l N st (tabT l (ordL (wtF fOne l) N N) st n) (n + 1) 0 (r + 1) x) = timM l (ordL (wtF fOne l) N N) st N n ++ [(List.range N).map st] := by
  rw [mk_snoc]
  congr 1
  · unfold timM
    refine mk_congr fun r hr x _ => ?_
    unfold rowM
    rw [if_neg (fun h => by have := h.1; omega)]
    rfl
  · congr 1
    refine List.map_congr_left fun x _ => ?_
    exact if_pos ⟨rfl, rfl⟩
theorem midM_set {n t e m : Nat} (v : Int) (hv : v = midM l N st F (n + 1) t e (m + 1) (n + 1) e) :
    (mk (n + 1) N fun r x => midM l N st F (n + 1) t e m (r + 1) x).set n (((mk (n + 1) N fun r x => midM l N st F (n + 1) t e m (r + 1) x).getD n []).set e v) = mk (n + 1) N fun r x => midM l N st F (n + 1) t e (m + 1) (r + 1) x := by
  rw [mk_set _ _ _ _ _ _ (by omega)]
  refine mk_congr fun r hr x hx => ?_
  by_cases q : r = n
  · subst q
    rw [if_pos rfl]
    by_cases q2 : x = e
    · subst q2; rw [if_pos rfl]; exact hv
    · rw [if_neg q2]
      unfold midM updF
      rw [if_neg (fun h => q2 h.2), if_neg (fun h => q2 h.2)]
  · rw [if_neg q]
    unfold midM updF
    rw [if_neg (fun h => q (by have := h.1; omega)), if_neg (fun h => q (by have := h.1; omega))]
end
end M
end Go.Proofs.YtlofnadpgnbmdaaGreat

namespace Go.Proofs.YtlofnadpgnbmdaaGreat
namespace M
/-- The code of a graph that has to be live, beside other arguments. -/
def inCode (c : Int) (b : Bool) : Int := if c ≠ 1 ∧ b = false then 2 else c
section
variable {l : List (Int × Int × Int × Int)} {N : Nat}
def plOk (l : List (Int × Int × Int × Int)) (N : Nat) : Prop := ∀ p ∈ l, (0 ≤ p.1 ∧ p.1 < (N : Int)) ∧ (0 ≤ p.2.2.1 ∧ p.2.2.1 ≤ 1000) ∧ 0 ≤ p.2.2.2 ∧ p.2.2.2 ≤ 5
theorem plOk.times (h : plOk l N) : ∀ p ∈ l, (0 ≤ p.1 ∧ p.1 < (N : Int)) ∧ 0 ≤ p.2.2.2 := fun p hp => ⟨(h p hp).1, (h p hp).2.2.1⟩
theorem plOk.delays (h : plOk l N) : ∀ p ∈ l, 0 ≤ p.2.2.1 ∧ p.2.2.1 ≤ 1000 := fun p hp => (h p hp).2.1
theorem del_bd (h : plOk l N) (m : Int) (i j : Nat) : wtF (fDel m) l i j = -1000000000000000 ∨ (0 ≤ wtF (fDel m) l i j ∧ wtF (fDel m) l i j ≤ 1000) :=
  wtF_of (P := fun x => x = -1000000000000000 ∨ (0 ≤ x ∧ x ≤ 1000)) (fun p hp => by
    have := (h p hp).2.1
    unfold fDel
    split
    · exact .inl rfl
    · exact .inr this) (.inl rfl) i j
theorem del_sm (h : plOk l N) (m : Int) (i j : Nat) : Sm 1000001000000 (wtF (fDel m) l i j) := by
  have := del_bd h m i j
  unfold Sm; omega
theorem del_sq (h : plOk l N) (m : Int) (n1 : 1 ≤ N) (n2 : N ≤ 10) : sqB (wtM (fDel m) N l) = true := wt_isMat n1 n2 fun p hp => by
  have := (h p hp).2.1
  unfold fDel isVal isFin
  split
  · decide
  · simp; omega
theorem del_arc (h : plOk l N) {i j : Nat} (ha : wtF (fDel 0) l i j ≠ -1000000000000000) : wtF fOne l i j ≠ -1000000000000000 := by
  have key := wtF_two (P := fun a b => -1000000000000000 ≤ a ∧ -1000000000000000 ≤ b ∧ (a ≠ -1000000000000000 → b ≠ -1000000000000000)) (f := fDel 0) (g := fOne) (l := l) (fun p hp a b hab => by
    have h1 := (h p hp).2
    obtain ⟨k1, k2, k3⟩ := hab
    unfold fDel fOne
    by_cases q : p.2.2.2 = 0
    · rw [if_neg (fun z => z q), if_neg (by omega)]
      refine ⟨by omega, by omega, fun _ => by omega⟩
    · rw [if_pos q, if_pos (by omega), Int.max_eq_left k1, Int.max_eq_left k2]
      exact ⟨k1, k2, k3⟩) ⟨Int.le_refl _, Int.le_refl _, fun z => absurd rfl z⟩ i j
  exact key.2.2 ha
/-- A live graph has no cycles of places without tokens, so there is a star. -/
theorem del_noPos (h : plOk l N) (n2 : N ≤ 10) (hl : liveB (wtF fOne l) N = true) : noPos (wtF (fDel 0) l) N = true := by
  cases e : noPos (wtF (fDel 0) l) N with
  | true => rfl
  | false =>
    obtain ⟨v, s, g1, g2, g3, g4⟩ := gain_of n2 (fun i j _ _ => del_sm h 0 i j) e
    have ha : ∀ u, u < s → wtF fOne l (v (u + 1)) (v u) ≠ -1000000000000000 := fun u hu => by
      refine del_arc h fun hx => ?_
      refine owk_arcs (f := fun i j => o (wtF (fDel 0) l i j)) (v := v) (s := s) (fun hy => g4 (by rw [hy]; exact ole_none _)) u hu ?_
      show o (wtF (fDel 0) l _ _) = none
      rw [hx]; exact o_bot
    have h1 := ord_walk (n := N) g1 g2 g3 ha N 0 (Nat.zero_le _)
    have h2 := ord_all (ord_nodes (wtF fOne l) N N).1 (ord_nodes (wtF fOne l) N N).2.1 (of_decide_eq_true hl) (g3 0 (Nat.zero_le _))
    rw [h1] at h2
    cases h2
/-- The closed matrix. -/
def closF (l : List (Int × Int × Int × Int)) (N : Nat) (m : Int) (i j : Nat) : Int := dot (starM (wtM (fDel 0) N l) N) (wtM (fDel m) N l) i j N
def closM (l : List (Int × Int × Int × Int)) (N : Nat) (m : Int) : List (List Int) := mk N N (closF l N m)
end
end M
end Go.Proofs.YtlofnadpgnbmdaaGreat
