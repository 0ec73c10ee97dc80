/- Lists of matrices that the call owns: the powers of the model's heaviest path. -/
import Derived.Test.YtichbgffpflldaaRows
import Derived.Test.YtichbgffpflldaaMath1
import Derived.Test.YtichbgffpflldaaList
import Derived.Test.YtichbgffpflldaaMatM
import Derived.Test.YtichbgffpflldaaMatH
import Derived.Test.YtichbgffpflldaaHelp
import Derived.Test.YtichbgffpflldaaRows0
import Derived.Test.YtichbgffpflldaaOwn
import Derived.Test.YtichbgffpflldaaMat0
import Derived.Test.YtichbgffpflldaaApp
import Derived.Test.YtichbgffpflldaaMark
import Derived.Test.YtichbgffpflldaaVals0
import Derived.WalkKit
import Derived.ProofKit
import Derived.WalkSmall
import Derived.Lib.Hide
import Derived.Deep.OwnRows
import Derived.Maps.AppendAt
namespace Go.Proofs.Ytichbgffpflldaa.V
open Go.RowKit

/-- The matrices P, n rows each, in a list of its own; each was made at a world of its own and has stayed since. -/
def Pws (w : World) (B : Nat) (v : Value) (m n : Nat) (P : Nat → List (List Int)) : Prop :=
  ∃ V : List Value, V.length = m ∧ w.ownsRow B 24 1 v m V ∧
    ∀ i, i < m → ∃ (wi : World) (lo : Nat) (b : Option Addr) (c : Nat), V.getD i (.slice none 0 0) = .slice b n c ∧ OwnM wi lo (.slice b n c) (P i) ∧ wi.heap.size ≤ w.heap.size ∧ Same lo wi.heap.size wi w ∧ ∀ k, v.ownBlock = some k → ¬(lo ≤ k ∧ k < wi.heap.size)

theorem OwnM.same {wi w : World} {lo : Nat} {v : Value} {R : List (List Int)} (h : OwnM wi lo v R) (hs : Same lo wi.heap.size wi w) : OwnM w lo v R :=
  h.keep hs
theorem Pws.below {w w' : World} {B : Nat} {v : Value} {m n : Nat} {P : Nat → List (List Int)} (h : Pws w B v m n P) (hb : Below w.heap.size w w') : Pws w' B v m n P := by
  obtain ⟨V, h1, h2, h3⟩ := h
  refine ⟨V, h1, ownsRow_keep h2 (fun k hv => hb.block k (own_lt h2 hv).2), fun i hi => ?_⟩
  obtain ⟨wi, lo, b, c, e, ho, hz, hs, hk⟩ := h3 i hi
  exact ⟨wi, lo, b, c, e, ho, Nat.le_trans hz hb.size, hs.below hb hz, hk⟩
/-- One of the matrices. -/
theorem Pws.at {w : World} {B : Nat} {a : Option Addr} {m n cap : Nat} {P : Nat → List (List Int)} (h : Pws w B (.slice a m cap) m n P) (i : Nat) (hi : i < m) :
    ∃ g b c, a = some ⟨g, 0, none⟩ ∧ w.cell? ⟨g, i, none⟩ = some (.slice b n c) ∧ Mat w b n (P i) := by
  obtain ⟨V, h1, h2, h3⟩ := h
  obtain ⟨a', c', hv, hc, hm, hg⟩ := own_form h2
  injection hv with e1 e2 e3
  subst e1 e3
  obtain ⟨g, rfl, hB, hlt⟩ := hg (by omega)
  obtain ⟨wi, lo, b, c, e, ho, hz, hs, hk⟩ := h3 i hi
  refine ⟨g, b, c, rfl, ?_, (ho.same hs).mat⟩
  rw [World.ownsRow.cellAt h2 i (by omega), ← e]
  simp [show i < V.length by omega]
theorem Pws.caps {w : World} {B : Nat} {a : Option Addr} {m n cap : Nat} {P : Nat → List (List Int)} (h : Pws w B (.slice a m cap) m n P) : m ≤ cap ∧ cap ≤ maxLen := by
  obtain ⟨V, h1, h2, _⟩ := h
  obtain ⟨a', c', hv, k1, k2, _⟩ := own_form h2
  injection hv with e1 e2 e3
  subst e3
  exact ⟨k1, k2⟩
theorem pws_lit1 (w : World) (B n : Nat) (hB : B ≤ w.heap.size) {b : Option Addr} {c : Nat} {M : List (List Int)} (ho : OwnM w B (.slice b n c) M) (P : Nat → List (List Int)) (hP : P 0 = M) :
    Pws (w.alloc (.cells #[.slice b n c] 24)) B (.slice (some ⟨w.heap.size, 0, none⟩) 1 1) 1 n P := by
  refine ⟨[.slice b n c], rfl, World.ownsRow_lit w #[.slice b n c] 1 hB (by decide) rfl, fun i hi => ?_⟩
  obtain rfl : i = 0 := by omega
  refine ⟨w, B, b, c, rfl, by rw [hP]; exact ho, (b_alloc w _).size, (Same.refl B w.heap.size w).below (b_alloc w _) (Nat.le_refl _), fun k hk => ?_⟩
  simp only [Value.ownBlock, Option.some.injEq] at hk
  omega
theorem infoM64 : (Try.prog.info? 24).map (fun i => (i.zero, i.size, i.bytes)) = some (some (.slice none 0 0), 1, 24) := by kernel_rfl

theorem appendMat (w0 w : World) {ops : Array Oper} {rest : List Oper} {o : Oper} {a : Act} {Q : Exit → Act → World → Prop} (hgd : o.guard = none) (s x : Operand)
    (ho : o.op = .call { callee := .builtin .append, args := #[s, x], argTypes := #[86, 86] }) (B : Nat) (v : Value) (b : Option Addr) (c m n : Nat) (P : Nat → List (List Int)) (M : List (List Int)) (hs : a.eval s = v) (hown : Pws w0 B v m n P) (hb : Below w0.heap.size w0 w) (hro : OwnM w w0.heap.size (.slice b n c) M) (hPm : P m = M)
    (hx : a.eval x = .slice (some ⟨w.heap.size, 0, none⟩) 1 1) (hlen : m ≤ 2000000) (hB : B ≤ w0.heap.size)
    (h : ∀ b' c' w', Pws w' B (.slice b' (m + 1) c') (m + 1) n P → Below B w w' → wpList Try.prog ops Q rest (a.put o.dst (.slice b' (m + 1) c')) w') :
    wpList Try.prog ops Q (o :: rest) a (w.alloc (.cells #[.slice b n c] 24)) := by
  obtain ⟨i0, hi, hz0, hz1, hz2⟩ := info_parts infoM64
  have hsz := hb.size
  obtain ⟨V, h1, h2, h3⟩ := hown
  have hwV : w.ownsRow B 24 1 v m V := ownsRow_keep h2 (fun k hv => hb.block k (own_lt h2 hv).2)
  have hown2 : (w.alloc (.cells #[.slice b n c] 24)).ownsRow B 24 1 v m V := World.ownsRow.alloc hwV _
  refine wpList_append_own_at (w := w.alloc (.cells #[.slice b n c] 24)) hgd s x 86 ho B 24 i0 (.slice none 0 0) 1 24 Try.underlying86 hi hz0 hz1 hz2 rfl (by decide) v _ _ hs hown2 ⟨w.heap.size, 0, none⟩ 1 1 [.slice b n c] hx rfl (cell_one_new _ _ _) ?c2 ?c3 ?c4 ?c5 ?_
  case c2 => intro u hu; simp at hu; subst hu; rfl
  case c3 => unfold maxLen; omega
  case c4 => omega
  case c5 => simp; omega
  · intro v' w' hownV' hgrow hz hvb
    have hbel : Below B w w' := ((Below.refl B w).alloc (Nat.le_trans hB hsz) _).grown hgrow (by simp; omega) (fun k hk => (own_lt h2 hk).1)
    obtain ⟨g1, g2, g3, g4, g5⟩ := hgrow
    have hg : ∀ k, k < w.heap.size → v.ownBlock ≠ some k → w'.heap[k]? = w.heap[k]? := fun k hk hne => by
      rw [g5 k (by simp; omega) (fun e => hne e.symm), Below.heap_alloc _ _ _ hk]
    have hP : Pws w' B v' (m + 1) n P := by
      refine ⟨V ++ [.slice b n c], by simp [h1], by simpa using hownV', fun i hi => ?_⟩
      by_cases e : i < m
      · obtain ⟨wi, lo, bi, ci, ei, hoi, hzi, hsi, hki⟩ := h3 i e
        refine ⟨wi, lo, bi, ci, by rw [← ei]; simp [List.getD_eq_getElem?_getD, List.getElem?_append_left, h1, e], hoi, by have := hbel.size; omega, fun k k1 k2 => ?_, fun k hk => ?_⟩
        · rw [hg k (by omega) (fun e2 => hki k e2 ⟨k1, k2⟩), hb.block k (by omega)]
          exact hsi k k1 k2
        · rcases hvb with e2 | e2
          · rw [e2] at hk; exact hki k hk
          · rw [e2] at hk
            simp only [Option.some.injEq] at hk
            have : (w.alloc (.cells #[.slice b n c] 24)).heap.size = w.heap.size + 1 := by simp
            omega
      · obtain rfl : i = m := by omega
        refine ⟨w, w0.heap.size, b, c, by simp [List.getD_eq_getElem?_getD, ← h1], by rw [hPm]; exact hro, hbel.size, fun k k1 k2 => ?_, fun k hk => ?_⟩
        · exact hg k k2 (fun e2 => by have := (own_lt h2 e2).2; omega)
        · rcases hvb with e2 | e2
          · rw [e2] at hk
            have := (own_lt h2 hk).2
            omega
          · rw [e2] at hk
            simp only [Option.some.injEq] at hk
            have : (w.alloc (.cells #[.slice b n c] 24)).heap.size = w.heap.size + 1 := by simp
            omega
    obtain ⟨b', c', hv', _⟩ := own_form hP.choose_spec.2.1
    subst hv'
    exact h b' c' w' hP hbel

set_option maxRecDepth 100000 in
set_option maxHeartbeats 400000 in
theorem sNode (a : Option Addr) (n cap : Nat) (x : Int) (w : World) (hn : n ≤ 1000) : Calls Try.prog 97 #[.slice a n cap, .int .i64 x] w fun e w' => e = .returned (.bool (M.inN n x)) ∧ w = w' := by
  go_enter Try.func97, Try.ntmps97
  go_wp2_with fail
  refine (sIn _ _ _ _).mono ?_
  rintro e w' ⟨rfl, rfl⟩
  go_wp2
  go_ret
  exact ⟨retB (by unfold M.inN; rw [Bool.eq_iff_iff]; simp; omega), rfl⟩
theorem sNode_b (a : Option Addr) (n cap : Nat) (x : Int) (w : World) (b : Bool) (hb : M.inN n x = b) (hn : n ≤ 1000) : Calls Try.prog 97 #[.slice a n cap, .int .i64 x] w fun e w' => e = .returned (.bool b) ∧ w = w' := by
  subst hb; exact sNode a n cap x w hn
end Go.Proofs.Ytichbgffpflldaa.V
