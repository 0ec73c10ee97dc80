/- Texts laid together: App, SBot. -/
import Derived.Test.YthonlfjjgmmnpaaRows
import Derived.Test.YthonlfjjgmmnpaaQf1
import Derived.Test.YthonlfjjgmmnpaaQf2
import Derived.WalkKit
import Derived.ProofKit
import Derived.WalkSmall
import Derived.Deep.QuietTactic
import Derived.BigQuiet
import Derived.BigRegion
import Derived.Deep.Draws
import Derived.Lib.Hide
import Derived.OpenShut
import Derived.Deep.OwnRows
import Derived.Maps.AppendAt
import Derived.Test.YthonlfjjgmmnpaaQf3
namespace Go.Proofs.Ythonlfjjgmmnpaa.V
open Go.RowKit

theorem append1 (w : World) {ops : Array Oper} {rest : List Oper} {o : Oper} {a : Act} {Q : Exit → Act → World → Prop} (hgd : o.guard = none) (s x : Operand)
    (ho : o.op = .call { callee := .builtin .append, args := #[s, x], argTypes := #[24, 24] }) (B : Nat) (v : Value) (l : List Int) (y : Int) (n : Nat) (hn : l.length = n) (hs : a.eval s = v) (hown : Own w B v l)
    (hx : a.eval x = .slice (some ⟨w.heap.size, 0, none⟩) 1 1) (hlen : l.length ≤ 2000000) (hB : B ≤ w.heap.size)
    (h : ∀ b' c' w', Own w' B (.slice b' (n + 1) c') (l ++ [y]) → Below B w w' → (∀ k, k < w.heap.size → v.ownBlock ≠ some k → w'.heap[k]? = w.heap[k]?) → wpList Try.prog ops Q rest (a.put o.dst (.slice b' (n + 1) c')) w') :
    wpList Try.prog ops Q (o :: rest) a (w.alloc (.cells #[.int .i64 y] 2)) := by
  subst hn
  obtain ⟨i0, hi, hz0, hz1, hz2⟩ := info_parts info64
  have hown2 : (w.alloc (.cells #[.int .i64 y] 2)).ownsRow B 2 1 v l.length (l.map (Value.int .i64)) := World.ownsRow.alloc hown _
  refine wpList_append_own_at (w := w.alloc (.cells #[.int .i64 y] 2)) hgd s x 24 ho B 2 i0 (.int .i64 0) 1 8 Try.underlying24 hi hz0 hz1 hz2 rfl (by decide) v _ _ hs hown2 ⟨w.heap.size, 0, none⟩ 1 1 [.int .i64 y] hx rfl (cell_one_new _ _ _) ?c2 ?c3 ?c4 ?c5 ?_
  case c2 => intro u hu; simp at hu; subst hu; rfl
  case c3 => unfold maxLen; omega
  case c4 => omega
  case c5 => simp; omega
  · intro v' w' hown' hgrow hz hvb
    have ho' : Own w' B v' (l ++ [y]) := by
      show w'.ownsRow B _ 1 v' (l ++ [y]).length ((l ++ [y]).map (Value.int .i64))
      simpa using hown'
    obtain ⟨b', c', hv', _⟩ := own_form ho'
    rw [show (l ++ [y]).length = l.length + 1 by simp] at hv'
    subst hv'
    refine h b' c' w' ho' (((Below.refl B w).alloc hB _).grown hgrow (by simp; omega) (fun k hk => (own_lt hown hk).1)) (fun k hk hne => ?_)
    obtain ⟨g1, g2, g3, g4, g5⟩ := hgrow
    rw [g5 k (by simp; omega) (fun e => hne e.symm), Below.heap_alloc _ _ _ hk]

theorem appendRow (w0 w : World) {ops : Array Oper} {rest : List Oper} {o : Oper} {a : Act} {Q : Exit → Act → World → Prop} (hgd : o.guard = none) (s x : Operand)
    (ho : o.op = .call { callee := .builtin .append, args := #[s, x], argTypes := #[22, 22] }) (B : Nat) (v rv : Value) (R : List (List Int)) (l : List Int) (n : Nat) (hn : R.length = n) (hs : a.eval s = v) (hown : OwnM w0 B v R) (hb : Below w0.heap.size w0 w) (hro : Own w w0.heap.size rv l)
    (hx : a.eval x = .slice (some ⟨w.heap.size, 0, none⟩) 1 1) (hlen : R.length ≤ 2000000) (hB : B ≤ w0.heap.size)
    (h : ∀ b' c' w', OwnM w' B (.slice b' (n + 1) c') (R ++ [l]) → Below B w w' → (∀ k, k < w.heap.size → v.ownBlock ≠ some k → w'.heap[k]? = w.heap[k]?) → wpList Try.prog ops Q rest (a.put o.dst (.slice b' (n + 1) c')) w') :
    wpList Try.prog ops Q (o :: rest) a (w.alloc (.cells #[rv] 24)) := by
  subst hn
  obtain ⟨i0, hi, hz0, hz1, hz2⟩ := info_parts infoS64
  have hsz := hb.size
  obtain ⟨V, h1, h2, h3⟩ := hown
  have hwV : w.ownsRow B 24 1 v R.length V := ownsRow_keep h2 (fun k hv => hb.block k (own_lt h2 hv).2)
  have hown2 : (w.alloc (.cells #[rv] 24)).ownsRow B 24 1 v R.length V := World.ownsRow.alloc hwV _
  refine wpList_append_own_at (w := w.alloc (.cells #[rv] 24)) hgd s x 22 ho B 24 i0 (.slice none 0 0) 1 24 Try.underlying22 hi hz0 hz1 hz2 rfl (by decide) v _ _ hs hown2 ⟨w.heap.size, 0, none⟩ 1 1 [rv] hx rfl (cell_one_new _ _ _) ?c2 ?c3 ?c4 ?c5 ?_
  case c2 =>
    intro u hu; simp at hu; subst hu
    obtain ⟨b', c', hv', _⟩ := own_form hro
    rw [hv']; rfl
  case c3 => unfold maxLen; omega
  case c4 => omega
  case c5 => simp; omega
  · intro v' w' hownV' hgrow hz hvb
    obtain ⟨g1, g2, g3, g4, g5⟩ := hgrow
    have hg : ∀ k, k < w.heap.size → v.ownBlock ≠ some k → w'.heap[k]? = w.heap[k]? := fun k hk hne => by
      rw [g5 k (by simp; omega) (fun e => hne e.symm), Below.heap_alloc _ _ _ hk]
    have hM : OwnM w' B v' (R ++ [l]) := by
      exact OwnV.snoc (q := (w.alloc (.cells #[rv] 24)).heap.size) ⟨h1, h2, h3⟩ hb hB hro hownV' hg hvb (by simp)
    obtain ⟨b', c', hv', _⟩ := hM.form
    rw [show (R ++ [l]).length = R.length + 1 by simp] at hv'
    subst hv'
    exact h b' c' w' hM (((Below.refl B w).alloc (by omega) _).grown ⟨g1, g2, g3, g4, g5⟩ (by simp; omega) (fun k hk => (own_lt h2 hk).1)) hg
end Go.Proofs.Ythonlfjjgmmnpaa.V

namespace Go.Proofs.Ythonlfjjgmmnpaa.V
open Go.RowKit

/-- A new matrix r with n rows. -/
def MPost (n : Nat) (r : List (List Int)) (w : World) (e : Ending) (w' : World) : Prop :=
  ∃ a cap, e = .returned (.slice a n cap) ∧ OwnM w' w.heap.size (.slice a n cap) r ∧ Below w.heap.size w w'
/-- A new matrix and a code. -/
def MRes (r : List (List Int) × Int) (w : World) (e : Ending) (w' : World) : Prop :=
  ∃ a n cap, e = .returned (.tuple #[.slice a n cap, .int .i64 r.2]) ∧ OwnM w' w.heap.size (.slice a n cap) r.1 ∧ Below w.heap.size w w'

theorem MRes.nil {r : List (List Int) × Int} {c : Int} {w w' : World} (hr : r = ([], c)) (hb : Below w.heap.size w w') : MRes r w (.returned (.tuple #[.slice none 0 0, .int .i64 c])) w' := by
  subst hr
  exact ⟨none, 0, 0, rfl, ownM_nil _ _, hb⟩

set_option maxRecDepth 100000 in
set_option maxHeartbeats 1000000 in
theorem sBottom (m n : Nat) (w : World) (hm : m ≤ 100) (hn : n ≤ 100) :
    Calls Try.prog 53 #[.int .i64 m, .int .i64 n] w (MPost m (M.botM m n) w) := by
  have hO0 : Hid (OwnM (w.alloc (.cells #[] 24)) w.heap.size (.slice (some ⟨w.heap.size, 0, none⟩) 0 0) []) := ownM_lit0 w _ (Nat.le_refl _)
  go_enter Try.func53, Try.ntmps53
  go_wp2
  go_loopw [5, 6] (fun out i wr => ∃ k : Nat, k ≤ m ∧ i = .int .i64 k ∧ ∃ b c, out = .slice b k c ∧ OwnM wr w.heap.size (.slice b k c) (M.botM k n) ∧ Below w.heap.size w wr) (fun _ i _ => m - (intOf i).toNat)
  case atStart => exact ⟨0, Nat.zero_le _, rfl, _, _, rfl, hO0.out, b_alloc _ _⟩
  case round =>
    obtain ⟨k, hk, rfl, b, c, rfl, hO, hb⟩ := hrel
    obtain ⟨wo, rfl⟩ : ∃ x, x = wr := ⟨_, rfl⟩
    have HO := Lib.hid hO
    have HB := Lib.hid hb
    clear hO hb hO0
    by_cases hlt : k < m
    · have hki : (k : Int) < (m : Int) := by omega
      have hr0 : Hid (Own (wo.alloc (.cells #[] 2)) wo.heap.size (.slice (some ⟨wo.heap.size, 0, none⟩) 0 0) []) := own_lit0 wo _ (Nat.le_refl _)
      go_wp2
      go_loopw [7, 8] (fun row j wi => ∃ t : Nat, t ≤ n ∧ j = .int .i64 t ∧ ∃ b c, row = .slice b t c ∧ Own wi wo.heap.size (.slice b t c) ((List.range t).map fun _ => -1000000000000000) ∧ Below wo.heap.size wo wi) (fun _ j _ => n - (intOf j).toNat)
      case atStart => exact ⟨0, Nat.zero_le _, rfl, _, _, rfl, hr0.out, b_alloc _ _⟩
      case round =>
        obtain ⟨t, ht, rfl, b1, c1, rfl, hO1, hb1⟩ := hrel
        have HO1 := Lib.hid hO1
        have HB1 := Lib.hid hb1
        clear hO1 hb1 hr0
        by_cases htn : t < n
        · have hti : (t : Int) < (n : Int) := by omega
          have hsz := HB1.out.size
          go_wp2_with (at_builtin; refine append1 _ rfl (.tmp 21) (.tmp 22) rfl wo.heap.size _ _ _ t HO1.out.len.symm rfl HO1.out rfl (by simp; omega) (by omega) ?_)
          intro b2 c2 w2 hO2 hb2 _
          have HO2 := Lib.hid hO2
          have HB2 := Lib.hid (HB1.out.trans hb2)
          clear hO2 hb2
          go_wp2
          go_roundw
          case rel => exact ⟨t + 1, by omega, by go_num, _, _, rfl, by rw [M.range_snoc]; exact HO2.out, HB2.out⟩
          case measure => simp [intOf]; omega
        · obtain rfl : t = n := by omega
          have hs1 := HB.out.size
          go_wp2_with (at_builtin; refine appendRow wo _ rfl (.tmp 24) (.tmp 26) rfl w.heap.size _ _ _ _ k HO.out.len.symm rfl HO.out HB1.out HO1.out rfl (by simp [M.botM]; omega) hs1 ?_)
          intro b2 c2 w2 hO2 hb2 _
          have HO2 : Hid (OwnM w2 w.heap.size (.slice b2 (k + 1) c2) (M.botM (k + 1) t)) := by
            have := hO2
            simp only [M.botM, M.mk_length] at this
            rw [← M.mk_snoc] at this
            exact this
          clear hO2
          have hO2 := True.intro
          have HB2 := Lib.hid (HB.out.trans ((HB1.out.mono hs1).trans hb2))
          clear hO2 hb2
          go_wp2
          go_roundw
          case rel => exact ⟨k + 1, by omega, by go_num, _, _, rfl, HO2.out, HB2.out⟩
          case measure => simp [intOf]; omega
    · obtain rfl : k = m := by omega
      go_wp2
      go_ret
      exact ⟨_, _, rfl, HO.out, HB.out⟩

set_option maxRecDepth 100000 in
set_option maxHeartbeats 1000000 in
theorem sUnit (n : Nat) (w : World) (hn : n ≤ 100) :
    Calls Try.prog 62 #[.int .i64 n] w (MPost n (M.unitM n) w) := by
  go_enter Try.func62, Try.ntmps62
  go_wp2_with fail
  refine (sBottom n n _ hn hn).mono ?_
  rintro e w1 ⟨a, cap, rfl, hO, hb⟩
  have hO' : OwnM w1 w.heap.size (.slice a n cap) (M.mk n n fun i j => if i = j ∧ i < 0 then 0 else -1000000000000000) :=
    (congrArg (OwnM _ _ _) (M.mk_congr fun i _ j _ => by rw [if_neg (by omega)])).mp hO
  have HO0 := Lib.hid hO'
  have HB0 := Lib.hid hb
  clear hO hb hO'
  go_wp2
  go_loopw [4] (fun i wr => ∃ k : Nat, k ≤ n ∧ i = .int .i64 k ∧ OwnM wr w.heap.size (.slice a n cap) (M.mk n n fun i j => if i = j ∧ i < k then 0 else -1000000000000000) ∧ Below w.heap.size w wr) (fun i _ => n - (intOf i).toNat)
  case atStart => exact ⟨0, Nat.zero_le _, rfl, HO0.out, HB0.out⟩
  case round =>
    obtain ⟨k, hk, rfl, hO, hb⟩ := hrel
    have HO := Lib.hid hO
    have HB := Lib.hid hb
    clear hO hb
    by_cases hlt : k < n
    · obtain ⟨g, q, L, c, x, rfl, hg, hq, hL, hx, h1, h2, h3, h4⟩ := HO.out.at k k hlt (by rw [M.mk_rowlen _ _ _ _ hlt]; exact hlt)
      rw [M.mk_rowlen _ _ _ _ hlt] at hL
      obtain rfl : n = L := hL.symm
      have hN := h4 0
      rw [M.mk_set _ _ _ _ _ _ hlt] at hN
      have HN := Lib.hid hN
      have hki : (k : Int) < (n : Int) := by omega
      clear hx h4 hN
      go_wp2
      go_roundw
      case rel =>
        refine ⟨k + 1, by omega, by go_num, (congrArg (OwnM _ _ _) (M.mk_congr fun i _ j _ => ?_)).mp HN.out, HB.out.setCell hq _⟩
        by_cases e : i = k
        · subst e
          by_cases e2 : j = i
          · subst e2; simp
          · rw [if_pos rfl, if_neg e2, if_neg (by omega), if_neg (by omega)]
        · rw [if_neg e]
          by_cases e2 : i = j ∧ i < k
          · rw [if_pos e2, if_pos (by omega)]
          · rw [if_neg e2, if_neg (by omega)]
      case measure => simp [intOf]; omega
    · obtain rfl : k = n := by omega
      go_wp2
      go_ret
      refine ⟨_, _, rfl, (congrArg (OwnM _ _ _) (M.mk_congr fun i hi j _ => ?_)).mp HO.out, HB.out⟩
      by_cases e : i = j
      · rw [if_pos ⟨e, hi⟩, if_pos e]
      · rw [if_neg (by omega), if_neg e]



end Go.Proofs.Ythonlfjjgmmnpaa.V
