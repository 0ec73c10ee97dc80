/- Texts laid together: App, Rm1, Vec, IsMat, Tm1, Tm2. -/
import Derived.Test.YtlcjmcoljclpgaaDoorRows
import Derived.Test.YtlcjmcoljclpgaaDoorQd1
import Derived.Test.YtlcjmcoljclpgaaDoorQd2
import Derived.WalkKit
import Derived.ProofKit
import Derived.WalkSmall
import Derived.Deep.QuietTactic
import Derived.BigQuiet
import Derived.BigRegion
import Derived.Deep.Draws
import Derived.Lib.Hide
import Derived.OpenShut
import Derived.Deep.OwnRows
import Derived.Maps.AppendAt
import Derived.Test.YtlcjmcoljclpgaaDoorQd3
import Derived.Test.YtlcjmcoljclpgaaDoorQd4
set_option linter.unusedSimpArgs false
set_option linter.unusedVariables false
set_option linter.unusedSectionVars false
namespace Go.Proofs.YtlcjmcoljclpgaaDoor.V
open Go.RowKit

theorem append1 (w : World) {ops : Array Oper} {rest : List Oper} {o : Oper} {a : Act} {Q : Exit → Act → World → Prop} (hgd : o.guard = none) (s x : Operand)
    (ho : o.op = .call { callee := .builtin .append, args := #[s, x], argTypes := #[68, 68] }) (B : Nat) (v : Value) (l : List Int) (y : Int) (n : Nat) (hn : l.length = n) (hs : a.eval s = v) (hown : Own w B v l)
    (hx : a.eval x = .slice (some ⟨w.heap.size, 0, none⟩) 1 1) (hlen : l.length ≤ 2000000) (hB : B ≤ w.heap.size)
    (h : ∀ b' c' w', Own w' B (.slice b' (n + 1) c') (l ++ [y]) → Below B w w' → (∀ k, k < w.heap.size → v.ownBlock ≠ some k → w'.heap[k]? = w.heap[k]?) → wpList Tryd.prog ops Q rest (a.put o.dst (.slice b' (n + 1) c')) w') :
    wpList Tryd.prog ops Q (o :: rest) a (w.alloc (.cells #[.int .i64 y] 2)) := by
  subst hn
  obtain ⟨i0, hi, hz0, hz1, hz2⟩ := info_parts info64
  have hown2 : (w.alloc (.cells #[.int .i64 y] 2)).ownsRow B 2 1 v l.length (l.map (Value.int .i64)) := World.ownsRow.alloc hown _
  refine wpList_append_own_at (w := w.alloc (.cells #[.int .i64 y] 2)) hgd s x 68 ho B 2 i0 (.int .i64 0) 1 8 Tryd.underlying68 hi hz0 hz1 hz2 rfl (by decide) v _ _ hs hown2 ⟨w.heap.size, 0, none⟩ 1 1 [.int .i64 y] hx rfl (cell_one_new _ _ _) ?c2 ?c3 ?c4 ?c5 ?_
  case c2 => intro u hu; simp at hu; subst hu; rfl
  case c3 => unfold maxLen; omega
  case c4 => omega
  case c5 => simp; omega
  · intro v' w' hown' hgrow hz hvb
    have ho' : Own w' B v' (l ++ [y]) := by
      show w'.ownsRow B _ 1 v' (l ++ [y]).length ((l ++ [y]).map (Value.int .i64))
      simpa using hown'
    obtain ⟨b', c', hv', _⟩ := own_form ho'
    rw [show (l ++ [y]).length = l.length + 1 by simp] at hv'
    subst hv'
    refine h b' c' w' ho' (((Below.refl B w).alloc hB _).grown hgrow (by simp; omega) (fun k hk => (own_lt hown hk).1)) (fun k hk hne => ?_)
    obtain ⟨g1, g2, g3, g4, g5⟩ := hgrow
    rw [g5 k (by simp; omega) (fun e => hne e.symm), Below.heap_alloc _ _ _ hk]

theorem appendRow (w0 w : World) {ops : Array Oper} {rest : List Oper} {o : Oper} {a : Act} {Q : Exit → Act → World → Prop} (hgd : o.guard = none) (s x : Operand)
    (ho : o.op = .call { callee := .builtin .append, args := #[s, x], argTypes := #[39, 39] }) (B : Nat) (v rv : Value) (R : List (List Int)) (l : List Int) (n : Nat) (hn : R.length = n) (hs : a.eval s = v) (hown : OwnM w0 B v R) (hb : Below w0.heap.size w0 w) (hro : Own w w0.heap.size rv l)
    (hx : a.eval x = .slice (some ⟨w.heap.size, 0, none⟩) 1 1) (hlen : R.length ≤ 2000000) (hB : B ≤ w0.heap.size)
    (h : ∀ b' c' w', OwnM w' B (.slice b' (n + 1) c') (R ++ [l]) → Below B w w' → (∀ k, k < w.heap.size → v.ownBlock ≠ some k → w'.heap[k]? = w.heap[k]?) → wpList Tryd.prog ops Q rest (a.put o.dst (.slice b' (n + 1) c')) w') :
    wpList Tryd.prog ops Q (o :: rest) a (w.alloc (.cells #[rv] 68)) := by
  subst hn
  obtain ⟨i0, hi, hz0, hz1, hz2⟩ := info_parts infoS64
  have hsz := hb.size
  obtain ⟨V, h1, h2, h3⟩ := hown
  have hwV : w.ownsRow B 68 1 v R.length V := ownsRow_keep h2 (fun k hv => hb.block k (own_lt h2 hv).2)
  have hown2 : (w.alloc (.cells #[rv] 68)).ownsRow B 68 1 v R.length V := World.ownsRow.alloc hwV _
  refine wpList_append_own_at (w := w.alloc (.cells #[rv] 68)) hgd s x 39 ho B 68 i0 (.slice none 0 0) 1 24 Tryd.underlying39 hi hz0 hz1 hz2 rfl (by decide) v _ _ hs hown2 ⟨w.heap.size, 0, none⟩ 1 1 [rv] hx rfl (cell_one_new _ _ _) ?c2 ?c3 ?c4 ?c5 ?_
  case c2 =>
    intro u hu; simp at hu; subst hu
    obtain ⟨b', c', hv', _⟩ := own_form hro
    rw [hv']; rfl
  case c3 => unfold maxLen; omega
  case c4 => omega
  case c5 => simp; omega
  · intro v' w' hownV' hgrow hz hvb
    obtain ⟨g1, g2, g3, g4, g5⟩ := hgrow
    have hg : ∀ k, k < w.heap.size → v.ownBlock ≠ some k → w'.heap[k]? = w.heap[k]? := fun k hk hne => by
      rw [g5 k (by simp; omega) (fun e => hne e.symm), Below.heap_alloc _ _ _ hk]
    have hM : OwnM w' B v' (R ++ [l]) := by
      exact OwnV.snoc (q := (w.alloc (.cells #[rv] 68)).heap.size) ⟨h1, h2, h3⟩ hb hB hro hownV' hg hvb (by simp)
    obtain ⟨b', c', hv', _⟩ := hM.form
    rw [show (R ++ [l]).length = R.length + 1 by simp] at hv'
    subst hv'
    exact h b' c' w' hM (((Below.refl B w).alloc (by omega) _).grown ⟨g1, g2, g3, g4, g5⟩ (by simp; omega) (fun k hk => (own_lt h2 hk).1)) hg
end Go.Proofs.YtlcjmcoljclpgaaDoor.V

namespace Go.Proofs.YtlcjmcoljclpgaaDoor.V
open Go.RowKit

theorem ownT_lit0 (w : World) (B : Nat) (hB : B ≤ w.heap.size) : OwnT (w.alloc (.cells #[] 9)) B (.slice (some ⟨w.heap.size, 0, none⟩) 0 0) [] :=
  World.ownsRow_lit w #[] 0 hB (by decide) rfl
theorem appendT (w : World) {ops : Array Oper} {rest : List Oper} {o : Oper} {a : Act} {Q : Exit → Act → World → Prop} (hgd : o.guard = none) (s x : Operand)
    (ho : o.op = .call { callee := .builtin .append, args := #[s, x], argTypes := #[53, 53] }) (B : Nat) (v : Value) (L : List (List UInt8)) (y : ByteArray) (n : Nat) (hn : L.length = n) (hs : a.eval s = v) (hown : OwnT w B v L)
    (hx : a.eval x = .slice (some ⟨w.heap.size, 0, none⟩) 1 1) (hlen : L.length ≤ 2000000) (hB : B ≤ w.heap.size)
    (h : ∀ b' c' w', OwnT w' B (.slice b' (n + 1) c') (L ++ [y.data.toList]) → Below B w w' → (∀ k, k < w.heap.size → v.ownBlock ≠ some k → w'.heap[k]? = w.heap[k]?) → wpList Tryd.prog ops Q rest (a.put o.dst (.slice b' (n + 1) c')) w') :
    wpList Tryd.prog ops Q (o :: rest) a (w.alloc (.cells #[.string y] 9)) := by
  subst hn
  obtain ⟨i0, hi, hz0, hz1, hz2⟩ := info_parts infoT
  have hown2 : (w.alloc (.cells #[.string y] 9)).ownsRow B 9 1 v L.length (L.map fun x => Value.string ⟨x.toArray⟩) := World.ownsRow.alloc hown _
  refine wpList_append_own_at (w := w.alloc (.cells #[.string y] 9)) hgd s x 53 ho B 9 i0 (.string ⟨#[]⟩) 1 16 Tryd.underlying53 hi hz0 hz1 hz2 rfl (by decide) v _ _ hs hown2 ⟨w.heap.size, 0, none⟩ 1 1 [.string y] hx rfl (cell_one_new _ _ _) ?c2 ?c3 ?c4 ?c5 ?_
  case c2 => intro u hu; simp at hu; subst hu; rfl
  case c3 => unfold maxLen; omega
  case c4 => omega
  case c5 => simp; omega
  · intro v' w' hown' hgrow hz hvb
    have ho' : OwnT w' B v' (L ++ [y.data.toList]) := by
      show w'.ownsRow B _ 1 v' (L ++ [y.data.toList]).length ((L ++ [y.data.toList]).map fun x => Value.string ⟨x.toArray⟩)
      simpa using hown'
    obtain ⟨b', c', hv', _⟩ := own_form ho'
    rw [show (L ++ [y.data.toList]).length = L.length + 1 by simp] at hv'
    subst hv'
    refine h b' c' w' ho' (((Below.refl B w).alloc hB _).grown hgrow (by simp; omega) (fun k hk => (own_lt hown hk).1)) (fun k hk hne => ?_)
    obtain ⟨g1, g2, g3, g4, g5⟩ := hgrow
    rw [g5 k (by simp; omega) (fun e => hne e.symm), Below.heap_alloc _ _ _ hk]

/-- A slice of texts that is handed out. -/
def TPost (L : List (List UInt8)) (w : World) (e : Ending) (w' : World) : Prop :=
  ∃ a cap, e = .returned (.slice a L.length cap) ∧ OwnT w' w.heap.size (.slice a L.length cap) L ∧ Below w.heap.size w w'

set_option maxRecDepth 100000 in
set_option maxHeartbeats 4000000 in
theorem sSplit (s : ByteArray) (ci : Int) (c : UInt8) (w : World) (hc : ci = (c.toNat : Int)) (hs : s.size ≤ 1048576) :
    Calls Tryd.prog 37 #[.string s, .int .u8 ci] w (TPost (M.splitL c s.data.toList) w) := by
  have hlen : s.data.toList.length = s.size := Array.length_toList
  have HLEN := Lib.hid hlen
  clear hlen
  have HC := Lib.hid hc
  clear hc
  have hO0 : Hid (OwnT (w.alloc (.cells #[] 9)) w.heap.size (.slice (some ⟨w.heap.size, 0, none⟩) 0 0) []) := ownT_lit0 w _ (Nat.le_refl _)
  go_enter Tryd.func37, Tryd.ntmps37
  go_wp2
  go_loopw [5, 6, 7] (fun out from_ i wr => ∃ (k f t : Nat) (b : Option Addr) (cp : Nat) (P : List (List UInt8)), k ≤ s.size + 1 ∧ f ≤ k ∧ i = .int .i64 k ∧ from_ = .int .i64 f ∧ out = .slice b t cp ∧ t ≤ f ∧ Hid (t = P.length) ∧ Hid (OwnT wr w.heap.size (.slice b t cp) P) ∧ Hid (M.SplitInv c s.data.toList f k P) ∧ Below w.heap.size w wr) (fun _ _ i _ => s.size + 1 - (intOf i).toNat)
  case atStart => exact ⟨0, 0, 0, _, _, [], Nat.zero_le _, Nat.le_refl _, rfl, rfl, rfl, Nat.le_refl _, rfl, hO0, M.inv0 _ _, b_alloc _ _⟩
  case round =>
    obtain ⟨k, f, t, b, cp, P, hk, hf, rfl, rfl, rfl, htf, HT, HO, HI, hb⟩ := hrel
    obtain ⟨wo, rfl⟩ : ∃ x, x = wr := ⟨_, rfl⟩
    have HB := Lib.hid hb
    clear hb hO0
    have hz : w.heap.size ≤ wo.heap.size := HB.out.size
    by_cases hk1 : k = s.size + 1
    · have hki : (s.size : Int) < (k : Int) := by omega
      have HK := Lib.hid hk1
      clear hk1
      go_wp2
      go_ret
      have e : P = M.splitL c s.data.toList := M.inv_fin (f := f) (by have := HI.out; rw [HK.out, ← HLEN.out] at this; exact this)
      have ht := HT.out
      rw [e] at ht
      subst ht
      exact ⟨b, cp, rfl, e ▸ HO.out, HB.out⟩
    · have hki : (k : Int) ≤ (s.size : Int) := by omega
      by_cases hke : k = s.size
      · subst hke
        have hfi : (f : Int) ≤ (s.size : Int) := by omega
        have HN : Hid (M.SplitInv c s.data.toList (s.size + 1) (s.size + 1) (P ++ [(s.data.toList.drop f).take (s.size - f)])) := by
          have := HI.out
          rw [← HLEN.out] at this
          have := M.inv_end this
          rw [HLEN.out] at this
          exact this
        go_wp2_with (at_builtin; refine appendT _ rfl (.tmp 26) (.tmp 31) rfl w.heap.size _ P (s.extract f s.size) t HT.out.symm rfl HO.out rfl (by rw [← HT.out]; omega) hz ?_)
        intro b2 c2 w2 hO2 hb2 _
        have HO2 := Lib.hid hO2
        have HB2 := Lib.hid (HB.out.trans hb2)
        clear hO2 hb2
        go_wp2
        go_roundw
        case rel => exact ⟨s.size + 1, s.size + 1, t + 1, _, _, _, by omega, by omega, by go_num, by go_num, rfl, by omega, (by show t + 1 = _; simp [HT.out]), HO2, HN, HB2.out⟩
        case measure => simp [intOf]
      · have hlt : k < s.size := by omega
        have hll : k < s.data.toList.length := by rw [HLEN.out]; exact hlt
        have hne : ¬ (k : Int) = (s.size : Int) := by omega
        have hke1 : (k : Int) < (s.size : Int) := by omega
        have hfi : (f : Int) ≤ (k : Int) := by omega
        clear hk1 hke
        have HG : Hid (s.data.toList[k] = s[k]) := rfl
        by_cases hc : s[k] = c
        · have hcc : (s[k].toNat : Int) = ci := by rw [HC.out, hc]
          have HN : Hid (M.SplitInv c s.data.toList (k + 1) (k + 1) (P ++ [(s.data.toList.drop f).take (k - f)])) := by
            exact M.inv_hit HI.out hll (by rw [HG.out, hc])
          clear hc
          go_wp2_with (at_builtin; refine appendT _ rfl (.tmp 26) (.tmp 31) rfl w.heap.size _ P (s.extract f k) t HT.out.symm rfl HO.out rfl (by rw [← HT.out]; omega) hz ?_)
          intro b2 c2 w2 hO2 hb2 _
          have HO2 := Lib.hid hO2
          have HB2 := Lib.hid (HB.out.trans hb2)
          clear hO2 hb2
          go_wp2
          go_roundw
          case rel => exact ⟨k + 1, k + 1, t + 1, _, _, _, by omega, by omega, by go_num, by go_num, rfl, by omega, (by show t + 1 = _; simp [HT.out]), HO2, HN, HB2.out⟩
          case measure => simp [intOf]; omega
        · have hcc : ((s[k].toNat : Int) == ci) = false := by
            rw [HC.out, beq_eq_false_iff_ne]
            intro e
            exact hc (UInt8.toNat_inj.1 (by omega))
          have hbe : ((k : Int) == (s.size : Int)) = false := by rw [beq_eq_false_iff_ne]; exact hne
          clear hne
          have HN : Hid (M.SplitInv c s.data.toList f (k + 1) P) := M.inv_miss HI.out hll (by rw [HG.out]; exact hc)
          clear hc
          go_wp2
          go_roundw
          case rel => exact ⟨k + 1, f, t, _, _, P, by omega, by omega, by go_num, rfl, rfl, htf, HT, HO, HN, HB.out⟩
          case measure => simp [intOf]; omega
end Go.Proofs.YtlcjmcoljclpgaaDoor.V

namespace Go.Proofs.YtlcjmcoljclpgaaDoor.V
open Go.RowKit

set_option maxRecDepth 100000 in
set_option maxHeartbeats 400000 in
theorem sAll (a : Option Addr) (n cap : Nat) (l : List Int) (w : World) (h : Ints .i64 w a n l) :
    Calls Tryd.prog 100 #[.slice a n cap, .bool false] w fun e w' => e = .returned (.bool (l.all M.isVal)) ∧ w = w' := by
  obtain ⟨hl, hm, hr⟩ := h
  unfold maxLen at hm
  have HL := Lib.hid hl
  clear hl
  go_enter Tryd.func100, Tryd.ntmps100
  go_wp2
  go_loop [5] (fun i => ∃ k : Nat, k ≤ n ∧ i = .int .i64 k ∧ Hid ((l.take k).all M.isVal = true)) (fun i => n - (intOf i).toNat)
  case atStart => exact ⟨0, Nat.zero_le _, rfl, rfl⟩
  case round =>
    obtain ⟨k, hk, rfl, HA⟩ := hrel
    by_cases hlt : k < n
    · rcases hr with h0 | ⟨b, off, rfl, hbl, hc⟩
      · omega
      · have hck := hc k hlt
        have hsn := M.take_snoc l k (by have := HL.out; omega)
        obtain ⟨x, hx⟩ : ∃ x, x = l.getD k 0 := ⟨_, rfl⟩
        rw [← hx] at hck hsn
        have HX := Lib.hid hx
        have HS := Lib.hid hsn
        clear hc hx hsn
        by_cases hv : M.isVal x = true
        · have HA2 : Hid ((l.take (k + 1)).all M.isVal = true) := by show _ = _; rw [HS.out, M.all_snoc, HA.out, hv]; rfl
          go_wp2_with (first | (go_at_call 114; refine (sIsValue _ _).mono ?_; rintro e w' ⟨rfl, rfl⟩))
          go_round
          case rel => exact ⟨k + 1, by omega, by go_num, HA2⟩
          case measure => simp [intOf]; omega
        · simp only [Bool.not_eq_true] at hv
          have HF : Hid (l.all M.isVal = false) := M.all_false _ l k (by have := HL.out; omega) (by rw [← HX.out]; exact hv)
          go_wp2_with (first | (go_at_call 114; refine (sIsValue _ _).mono ?_; rintro e w' ⟨rfl, rfl⟩))
          go_ret
          exact ⟨retB (by rw [HF.out]), rfl⟩
    · have hkn : k = n := by omega
      subst hkn
      have HT : Hid (l.take k = l) := M.take_all l k (by have := HL.out; omega)
      clear hr
      go_wp2
      go_ret
      exact ⟨retB (by rw [← HT.out, HA.out]), rfl⟩

set_option maxRecDepth 100000 in
set_option maxHeartbeats 400000 in
theorem isSize (n : Int) (w : World) : Calls Tryd.prog 76 #[.int .i64 n] w fun e w' => e = .returned (.bool (decide (1 ≤ n) && decide (n ≤ 10))) ∧ w = w' := by
  go_enter Tryd.func76, Tryd.ntmps76
  go_wp2
  all_goals
    go_ret
    refine ⟨retB ?_, rfl⟩
    grind

set_option maxRecDepth 100000 in
set_option maxHeartbeats 400000 in
theorem areValues (a : Option Addr) (n cap : Nat) (l : List Int) (w : World) (h : Ints .i64 w a n l) :
    Calls Tryd.prog 98 #[.slice a n cap] w fun e w' => e = .returned (.bool (l.all M.isVal)) ∧ w = w' := by
  obtain ⟨hl, hm, hr⟩ := h
  unfold maxLen at hm
  have HL := Lib.hid hl
  clear hl
  go_enter Tryd.func98, Tryd.ntmps98
  go_wp2
  go_loop [4, 7] (fun _ i => ∃ k : Nat, k ≤ n ∧ i = .int .i64 k ∧ Hid ((l.take k).all M.isVal = true)) (fun _ i => n - (intOf i).toNat)
  case atStart => exact ⟨0, Nat.zero_le _, rfl, rfl⟩
  case round =>
    obtain ⟨k, hk, rfl, HA⟩ := hrel
    by_cases hlt : k < n
    · rcases hr with h0 | ⟨b, off, rfl, hbl, hc⟩
      · omega
      · have hck := hc k hlt
        have hsn := M.take_snoc l k (by have := HL.out; omega)
        obtain ⟨x, hx⟩ : ∃ x, x = l.getD k 0 := ⟨_, rfl⟩
        rw [← hx] at hck hsn
        have HX := Lib.hid hx
        have HS := Lib.hid hsn
        clear hc hx hsn
        by_cases hv : M.isVal x = true
        · have HA2 : Hid ((l.take (k + 1)).all M.isVal = true) := by show _ = _; rw [HS.out, M.all_snoc, HA.out, hv]; rfl
          go_wp2_with (first | (go_at_call 67; refine (isValue _ _).mono ?_; rintro e w' ⟨rfl, rfl⟩))
          go_round
          case rel => exact ⟨k + 1, by omega, by go_num, HA2⟩
          case measure => simp [intOf]; omega
        · simp only [Bool.not_eq_true] at hv
          have HF : Hid (l.all M.isVal = false) := M.all_false _ l k (by have := HL.out; omega) (by rw [← HX.out]; exact hv)
          go_wp2_with (first | (go_at_call 67; refine (isValue _ _).mono ?_; rintro e w' ⟨rfl, rfl⟩))
          go_ret
          exact ⟨retB (by rw [HF.out]), rfl⟩
    · have hkn : k = n := by omega
      subst hkn
      have HT : Hid (l.take k = l) := M.take_all l k (by have := HL.out; omega)
      clear hr
      go_wp2
      go_ret
      exact ⟨retB (by rw [← HT.out, HA.out]), rfl⟩
set_option maxRecDepth 100000 in
set_option maxHeartbeats 400000 in
theorem isVector (a : Option Addr) (n cap : Nat) (l : List Int) (w : World) (h : Ints .i64 w a n l) :
    Calls Tryd.prog 77 #[.slice a n cap] w fun e w' => e = .returned (.bool (M.isVec l)) ∧ w = w' := by
  have hl := h.1
  have hm := h.2.1
  unfold maxLen at hm
  have HL := Lib.hid hl
  have HI := Lib.hid h
  clear hl h
  by_cases hz : 1 ≤ n ∧ n ≤ 10
  · have hd : (decide ((1 : Int) ≤ n) && decide ((n : Int) ≤ 10)) = true := by simp; omega
    have HV : Hid (M.isVec l = l.all M.isVal) := M.isVec_all (by have := HL.out; omega) (by have := HL.out; omega)
    go_enter Tryd.func77, Tryd.ntmps77
    go_wp2_with (first | (go_at_call 76; refine (isSize _ _).mono ?_; rintro e w' ⟨rfl, rfl⟩) | (go_at_call 98; refine (areValues _ _ _ l _ HI.out).mono ?_; rintro e w' ⟨rfl, rfl⟩))
    all_goals
      go_ret
      exact ⟨retB HV.out.symm, rfl⟩
  · have hd : (decide ((1 : Int) ≤ n) && decide ((n : Int) ≤ 10)) = false := by rw [Bool.and_eq_false_iff]; simp; omega
    go_enter Tryd.func77, Tryd.ntmps77
    go_wp2_with (first | (go_at_call 76; refine (isSize _ _).mono ?_; rintro e w' ⟨rfl, rfl⟩) | (go_at_call 98; refine (areValues _ _ _ l _ HI.out).mono ?_; rintro e w' ⟨rfl, rfl⟩))
    all_goals
      go_ret
      exact ⟨retB (M.isVec_f (by have := HL.out; omega)).symm, rfl⟩

set_option maxRecDepth 100000 in
set_option maxHeartbeats 400000 in
theorem sVector (a : Option Addr) (n cap : Nat) (l : List Int) (w : World) (h : Ints .i64 w a n l) :
    Calls Tryd.prog 79 #[.slice a n cap] w fun e w' => e = .returned (.bool (M.isVec l)) ∧ w = w' := by
  have hl := h.1
  have HH := Lib.hid h
  have hm := h.2.1
  unfold maxLen at hm
  clear h
  have HL := Lib.hid hl
  clear hl
  by_cases hz : 1 ≤ n ∧ n ≤ 10
  · have hd : (decide ((1 : Int) ≤ n) && decide ((n : Int) ≤ 10)) = true := by simp; omega
    obtain ⟨hz1, hz2⟩ := hz
    go_enter Tryd.func79, Tryd.ntmps79
    go_wp2_with (first | (go_at_call 59; refine (sIn _ _ _ _).mono ?_; rintro e w' ⟨rfl, rfl⟩) | (go_at_call 100; refine (sAll _ _ _ l _ HH.out).mono ?_; rintro e w' ⟨rfl, rfl⟩))
    all_goals
      go_ret
      exact ⟨retB (M.isVec_all (by have := HL.out; omega) (by have := HL.out; omega)).symm, rfl⟩
  · have hd : (decide ((1 : Int) ≤ n) && decide ((n : Int) ≤ 10)) = false := by rw [Bool.and_eq_false_iff]; simp; omega
    go_enter Tryd.func79, Tryd.ntmps79
    go_wp2_with (first | (go_at_call 59; refine (sIn _ _ _ _).mono ?_; rintro e w' ⟨rfl, rfl⟩) | (go_at_call 100; refine (sAll _ _ _ l _ HH.out).mono ?_; rintro e w' ⟨rfl, rfl⟩))
    all_goals
      go_ret
      exact ⟨retB (M.isVec_f (by have := HL.out; omega)).symm, rfl⟩
end Go.Proofs.YtlcjmcoljclpgaaDoor.V

namespace Go.Proofs.YtlcjmcoljclpgaaDoor.V
open Go.RowKit

set_option maxRecDepth 100000 in
set_option maxHeartbeats 400000 in
theorem isMatrix (a : Option Addr) (n cap : Nat) (R : List (List Int)) (w : World) (h : Mat w a n R) :
    Calls Tryd.prog 47 #[.slice a n cap] w fun e w' => e = .returned (.bool (M.isMat R)) ∧ w = w' := by
  have HM := Lib.hid h
  have HL := Lib.hid h.1
  have hm := h.2.1
  unfold maxLen at hm
  clear h
  by_cases hz : 1 ≤ n ∧ n ≤ 10
  · have hd : (decide ((1 : Int) ≤ n) && decide ((n : Int) ≤ 10)) = true := by simp; omega
    obtain ⟨hz1, hz2⟩ := hz
    obtain ⟨b, off, ra0, rc0, L0, l0, rfl, hbl, hll0, hc0, hI0⟩ := HM.out.at 0 (by omega)
    have HW : Hid (L0 = M.wid R) := by show _ = _; rw [← hI0.1, hll0]; rfl
    rw [Nat.add_zero] at hc0
    clear hll0 hI0
    go_enter Tryd.func47, Tryd.ntmps47
    go_wp2_with (first | (go_at_call 76; refine (isSize _ _).mono ?_; rintro e w' ⟨rfl, rfl⟩))
    go_loop [4, 11] (fun _ i => ∃ k : Nat, k ≤ n ∧ i = .int .i64 k ∧ Hid (∀ i, i < k → M.okR R (R.getD i []) = true)) (fun _ i => n - (intOf i).toNat)
    case atStart => exact ⟨0, Nat.zero_le _, rfl, (fun i hi => absurd hi (Nat.not_lt_zero i))⟩
    case round =>
      obtain ⟨k, hk, rfl, HA⟩ := hrel
      by_cases hlt : k < n
      · obtain ⟨b', off', ra, rc, L, l, hbb, -, hll, hc, hI⟩ := HM.out.at k hlt
        injection hbb with hbb
        injection hbb with e1 e2
        subst e1 e2
        have hlen : l.length = L := hI.1
        have HI := Lib.hid hI
        have HLL := Lib.hid hll
        have HN := Lib.hid hlen
        clear hI hll hlen
        by_cases hLL : L = L0
        · subst hLL
          by_cases hv : M.isVec l = true
          · have HV := Lib.hid hv
            go_wp2_with (first | (go_at_call 77; refine (isVector _ _ _ l _ HI.out).mono ?_; rintro e w' ⟨rfl, rfl⟩))
            go_round
            case rel =>
              refine ⟨k + 1, by omega, by go_num, fun i hi => ?_⟩
              by_cases e : i = k
              · subst e; rw [← HLL.out]; exact M.okR_y HV.out (by rw [HN.out, HW.out])
              · exact HA.out i (by omega)
            case measure => simp [intOf]; omega
          · simp only [Bool.not_eq_true] at hv
            have HV := Lib.hid hv
            go_wp2_with (first | (go_at_call 77; refine (isVector _ _ _ l _ HI.out).mono ?_; rintro e w' ⟨rfl, rfl⟩))
            go_ret
            exact ⟨retB (M.isMat_bad k (by have := HL.out; omega) (by rw [← HLL.out]; exact M.okR_v HV.out)).symm, rfl⟩
        · have HLL0 := Lib.hid hLL
          go_wp2
          go_ret
          exact ⟨retB (M.isMat_bad k (by have := HL.out; omega) (by rw [← HLL.out]; exact M.okR_n (by rw [HN.out, ← HW.out]; exact HLL0.out))).symm, rfl⟩
      · have hkn : k = n := by omega
        subst hkn
        go_wp2
        go_ret
        exact ⟨retB (M.isMat_good (by have := HL.out; omega) (by have := HL.out; omega) (by have := HL.out; rw [this]; exact HA.out)).symm, rfl⟩
  · have hd : (decide ((1 : Int) ≤ n) && decide ((n : Int) ≤ 10)) = false := by rw [Bool.and_eq_false_iff]; simp; omega
    go_enter Tryd.func47, Tryd.ntmps47
    go_wp2_with (first | (go_at_call 76; refine (isSize _ _).mono ?_; rintro e w' ⟨rfl, rfl⟩))
    go_ret
    exact ⟨retB (M.isMat_no (by have := HL.out; omega)).symm, rfl⟩

set_option maxRecDepth 100000 in
set_option maxHeartbeats 400000 in
theorem sIsMatrix (a : Option Addr) (n cap : Nat) (R : List (List Int)) (w : World) (h : Mat w a n R) :
    Calls Tryd.prog 52 #[.slice a n cap] w fun e w' => e = .returned (.bool (M.isMat R)) ∧ ∃ q, w' = w.drewN q := by
  have HM := Lib.hid h
  have HL := Lib.hid h.1
  have hm := h.2.1
  unfold maxLen at hm
  clear h
  by_cases hz : 1 ≤ n ∧ n ≤ 10
  · obtain ⟨hz1, hz2⟩ := hz
    obtain ⟨b, off, ra0, rc0, L0, l0, rfl, hbl, hll0, hc0, hI0⟩ := HM.out.at 0 (by omega)
    have HW : Hid (L0 = M.wid R) := by show _ = _; rw [← hI0.1, hll0]; rfl
    rw [Nat.add_zero] at hc0
    clear hll0 hI0
    go_enter Tryd.func52, Tryd.ntmps52
    go_wp2
    go_loopw [3] (fun i wr => ∃ k : Nat, k ≤ n ∧ i = .int .i64 k ∧ Hid (∀ i, i < k → M.okR R (R.getD i []) = true) ∧ ∃ q, wr = w.drewN q) (fun i _ => n - (intOf i).toNat)
    case atStart => exact ⟨0, Nat.zero_le _, rfl, (fun i hi => absurd hi (Nat.not_lt_zero i)), 0, rfl⟩
    case round =>
      obtain ⟨k, hk, rfl, HA, q, rfl⟩ := hrel
      by_cases hlt : k < n
      · obtain ⟨b', off', ra, rc, L, l, hbb, -, hll, hc, hI⟩ := HM.out.at k hlt
        injection hbb with hbb
        injection hbb with e1 e2
        subst e1 e2
        have hlen : l.length = L := hI.1
        have HI := Lib.hid hI
        have HLL := Lib.hid hll
        have HN := Lib.hid hlen
        have hki : (k : Int) < (n : Int) := by omega
        clear hI hll hlen
        by_cases hv : M.isVec l = true
        · have HV := Lib.hid hv
          have HC : ∀ w : World, Ints .i64 w ra L l → Calls Tryd.prog 79 #[.slice ra L rc] w fun e w' => e = .returned (.bool true) ∧ w = w' := by
            intro w hI
            refine (sVector _ _ _ l _ hI).mono ?_
            rintro e w' ⟨rfl, rfl⟩
            exact ⟨by rw [HV.out], rfl⟩
          clear hv
          by_cases hLL : L = L0
          · subst hLL
            go_wp2
            go_quiet ((go_at_call 79; exact q_more_s (HC _ HI.out)))
            go_wp2
            go_roundw
            case rel =>
              refine ⟨k + 1, by omega, by go_num, fun i hi => ?_, _, rfl⟩
              by_cases e : i = k
              · subst e; rw [← HLL.out]; exact M.okR_y HV.out (by rw [HN.out, HW.out])
              · exact HA.out i (by omega)
            case measure => simp [intOf]; omega
          · have HLL0 := Lib.hid hLL
            have hne : (L == L0) = false := by simpa using hLL
            have hne2 : (L != L0) = true := by simpa using hLL
            go_wp2
            go_quiet ((go_at_call 79; exact q_more_s (HC _ HI.out)))
            go_wp2
            go_ret
            exact ⟨retB (M.isMat_bad k (by have := HL.out; omega) (by rw [← HLL.out]; exact M.okR_n (by rw [HN.out, ← HW.out]; exact HLL0.out))).symm, _, World.drewN_drewN _ _ _⟩
        · simp only [Bool.not_eq_true] at hv
          have HV := Lib.hid hv
          have HC : ∀ w : World, Ints .i64 w ra L l → Calls Tryd.prog 79 #[.slice ra L rc] w fun e w' => e = .returned (.bool false) ∧ w = w' := by
            intro w hI
            refine (sVector _ _ _ l _ hI).mono ?_
            rintro e w' ⟨rfl, rfl⟩
            exact ⟨by rw [HV.out], rfl⟩
          clear hv
          go_wp2
          go_quiet ((go_at_call 79; exact q_more_s (HC _ HI.out)))
          go_wp2
          go_ret
          exact ⟨retB (M.isMat_bad k (by have := HL.out; omega) (by rw [← HLL.out]; exact M.okR_v HV.out)).symm, _, World.drewN_drewN _ _ _⟩
      · have hkn : k = n := by omega
        subst hkn
        go_wp2
        go_ret
        exact ⟨retB (M.isMat_good (by have := HL.out; omega) (by have := HL.out; omega) (by have := HL.out; rw [this]; exact HA.out)).symm, _, rfl⟩
  · by_cases h0 : n = 0
    · subst h0
      go_enter Tryd.func52, Tryd.ntmps52
      go_wp2
      go_ret
      exact ⟨retB (M.isMat_no (by have := HL.out; omega)).symm, 0, rfl⟩
    · have h1 : 10 < n := by omega
      go_enter Tryd.func52, Tryd.ntmps52
      go_wp2
      go_ret
      exact ⟨retB (M.isMat_no (by have := HL.out; omega)).symm, 0, rfl⟩

theorem isMatrix_b (a : Option Addr) (n cap : Nat) (R : List (List Int)) (w : World) (b : Bool) (hb : M.isMat R = b) (h : Mat w a n R) :
    Calls Tryd.prog 47 #[.slice a n cap] w fun e w' => e = .returned (.bool b) ∧ w = w' := by
  subst hb
  exact isMatrix _ _ _ _ _ h

theorem sIsMatrix_b (a : Option Addr) (n cap : Nat) (R : List (List Int)) (w : World) (b : Bool) (hb : M.isMat R = b) (h : Mat w a n R) :
    Calls Tryd.prog 52 #[.slice a n cap] w fun e w' => e = .returned (.bool b) ∧ ∃ q, w' = w.drewN q := by
  subst hb
  exact sIsMatrix _ _ _ _ _ h
theorem sIsMatrixB (a : Option Addr) (n cap : Nat) (R : List (List Int)) (w : World) (h : Mat w a n R) :
    Calls Tryd.prog 52 #[.slice a n cap] w fun e w' => e = .returned (.bool (M.isMat R)) ∧ Below w.heap.size w w' := by
  refine (sIsMatrix _ _ _ _ _ h).mono ?_
  rintro e w' ⟨rfl, q, rfl⟩
  exact ⟨rfl, b_draws _ _⟩
theorem sIsMatrixB_b (a : Option Addr) (n cap : Nat) (R : List (List Int)) (w : World) (b : Bool) (hb : M.isMat R = b) (h : Mat w a n R) :
    Calls Tryd.prog 52 #[.slice a n cap] w fun e w' => e = .returned (.bool b) ∧ Below w.heap.size w w' := by
  subst hb
  exact sIsMatrixB _ _ _ _ _ h
end Go.Proofs.YtlcjmcoljclpgaaDoor.V

namespace Go.Proofs.YtlcjmcoljclpgaaDoor.V
open Go.RowKit

/-- The text of a row, and of a matrix. -/
def rtxt (l : List Int) : List UInt8 := Lib.join (l.map vtxt) [44]
def mtxt (R : List (List Int)) : List UInt8 := if M.isMat R then Lib.join (R.map rtxt) [59] else []
theorem rtxt_len (l : List Int) : (rtxt l).length ≤ 21 * l.length := by
  have := joinT_len (l.map vtxt) [44] 20 (fun x hx => by
    obtain ⟨a, _, rfl⟩ := List.mem_map.1 hx
    exact vtxt_len a)
  simpa [rtxt] using this
theorem range_map_getD {α β : Type} (l : List α) (d : α) (f : α → β) : (List.range l.length).map (fun j => f (l.getD j d)) = l.map f := by
  apply List.ext_getElem
  · simp
  · intro i h1 h2
    simp only [List.length_map, List.length_range] at h1
    simp [h1]

set_option maxRecDepth 100000 in
set_option maxHeartbeats 4000000 in
theorem matrixText (a : Option Addr) (n cap : Nat) (R : List (List Int)) (w : World) (h : Mat w a n R) (htab : ∀ W, Below w.heap.size w W → Lib.TabIs Tryd.prog W "internal/strconv.uint64pow10" .u64 Lib.pow10Tab) :
    Calls Tryd.prog 18 #[.slice a n cap] w (TxtPost (mtxt R) w) := by
  have HA := Lib.hid h
  have HT := Lib.hid htab
  clear htab
  by_cases hm : M.isMat R = true
  · have hr := rect_mat hm
    have hln : R.length = n := h.1
    obtain ⟨q1, q2, q3, q4, -, -⟩ := M.isMat_t hm
    rw [hln] at hr q1 q2
    have HR := Lib.hid hr
    obtain ⟨L, hL⟩ : ∃ L, L = M.wid R := ⟨_, rfl⟩
    rw [← hL] at HR q3 q4
    have HM := Lib.hid hm
    have HLN := Lib.hid hln
    obtain ⟨b, off, -, -, rfl, -, -⟩ := h.rect_first HR.out (by omega)
    have hmk := run_make_row' (P := Tryd.prog) 53 9 (.string ⟨#[]⟩) 16 Tryd.underlying53 infoT rfl .i64 .i64 n (by omega) (by omega)
    have hmk2 := run_make_row' (P := Tryd.prog) 53 9 (.string ⟨#[]⟩) 16 Tryd.underlying53 infoT rfl .i64 .i64 L (by omega) (by omega)
    have hO0 : Hid (OwnT (w.alloc (.cells (madeCells #[.string ⟨#[]⟩] n) 9)) w.heap.size (.slice (some ⟨w.heap.size, 0, none⟩) n n) (fillT (fun i => rtxt (R.getD i [])) n 0)) := by
      rw [fillT_zero]; exact ownT_made w _ n (Nat.le_refl _) (by unfold maxLen; omega)
    have HB0 : Hid (Below w.heap.size w (w.alloc (.cells (madeCells #[.string ⟨#[]⟩] n) 9))) := b_alloc w _
    clear h hr hm hL hln
    go_enter Tryd.func18, Tryd.ntmps18
    go_wp2_with (go_at_call 47; refine (isMatrix_b _ _ _ _ _ _ HM.out HA.out).mono ?_; rintro e w' ⟨rfl, rfl⟩)
    go_loopw [4, 5, 6, 7, 8, 17] (fun _ _ _ _ _ i wr => ∃ k : Nat, k ≤ n ∧ i = .int .i64 k ∧ OwnT wr w.heap.size (.slice (some ⟨w.heap.size, 0, none⟩) n n) (fillT (fun i => rtxt (R.getD i [])) n k) ∧ Below w.heap.size w wr) (fun _ _ _ _ _ i _ => n - (intOf i).toNat)
    case atStart => exact ⟨0, Nat.zero_le _, rfl, hO0.out, HB0.out⟩
    case round =>
      obtain ⟨k, hk, rfl, hO, hb⟩ := hrel
      obtain ⟨wo, rfl⟩ : ∃ x, x = wr := ⟨_, rfl⟩
      have HO := Lib.hid hO
      have HB := Lib.hid hb
      clear hO hb hO0 HB0
      by_cases hlt : k < n
      · have hki : (k : Int) < (n : Int) := by omega
        obtain ⟨d, od, rr, rcr, hdd, hbr, hcr, hIr⟩ := (HA.out.below HB.out).rect_at HR.out k hlt
        injection hdd with hdd
        injection hdd with e1 e2
        subst e1 e2
        obtain ⟨l, hl⟩ : ∃ l, l = R.getD k [] := ⟨_, rfl⟩
        rw [← hl] at hIr
        have HL := Lib.hid hl
        clear hl
        have hll : l.length = L := hIr.1
        have HLL := Lib.hid hll
        clear hll
        obtain ⟨rb, ro, -, rfl, -, -, -⟩ := hIr.at 0 (by omega)
        have HIR := Lib.hid hIr
        clear hIr
        have hI0 : Hid (OwnT (wo.alloc (.cells (madeCells #[.string ⟨#[]⟩] L) 9)) wo.heap.size (.slice (some ⟨wo.heap.size, 0, none⟩) L L) (fillT (fun j => vtxt (l.getD j 0)) L 0)) := by
          rw [fillT_zero]; exact ownT_made wo _ L (Nat.le_refl _) (by unfold maxLen; omega)
        have HI0 : Hid (Below wo.heap.size wo (wo.alloc (.cells (madeCells #[.string ⟨#[]⟩] L) 9))) := b_alloc wo _
        go_wp2
        go_loopw [7, 8, 27] (fun _ _ j wr => ∃ t : Nat, t ≤ L ∧ j = .int .i64 t ∧ OwnT wr wo.heap.size (.slice (some ⟨wo.heap.size, 0, none⟩) L L) (fillT (fun j => vtxt (l.getD j 0)) L t) ∧ Below wo.heap.size wo wr) (fun _ _ j _ => L - (intOf j).toNat)
        case atStart => exact ⟨0, Nat.zero_le _, rfl, hI0.out, HI0.out⟩
        case round =>
          obtain ⟨t, ht, rfl, hO, hb⟩ := hrel
          have HOi := Lib.hid hO
          have HBi := Lib.hid hb
          clear hO hb hI0 HI0
          by_cases htl : t < L
          · have hti : (t : Int) < (L : Int) := by omega
            obtain ⟨d2, od2, x, hdd2, -, hx, hcx⟩ := (HIR.out.below HBi.out).at t htl
            injection hdd2 with hdd2
            injection hdd2 with e1 e2
            subst e1 e2
            have HX := Lib.hid hx
            clear hx
            go_wp2_with fail
            refine (valueText x _ (HT.out _ (bnext HB.out HBi.out))).mono ?_
            rintro e w1 ⟨s, rfl, hs, hb1⟩
            have HS := Lib.hid hs
            clear hs
            have HB1 := Lib.hid hb1
            have HO1 := Lib.hid (HOi.out.below hb1)
            clear hb1
            have hc1 := HO1.out.cellAt t htl
            have hf1 := HO1.out.frozenAt t
            have HN : Hid (OwnT (w1.setCell ⟨wo.heap.size, t, none⟩ (.string s)) wo.heap.size (.slice (some ⟨wo.heap.size, 0, none⟩) L L) (fillT (fun j => vtxt (l.getD j 0)) L (t + 1))) := by
              have := HO1.out.set t (vtxt x)
              rw [HX.out, fillT_set (fun j => vtxt (l.getD j 0))] at this
              rw [HS.out, HX.out]
              exact this
            go_wp2
            go_roundw
            case rel => exact ⟨t + 1, by omega, by go_num, HN.out, (bnext HBi.out HB1.out).setCell (Nat.le_refl _) _⟩
            case measure => simp [intOf]; omega
          · obtain rfl : t = L := by omega
            have hO2 := HOi.out
            rw [fillT_all] at hO2
            have HO2 := Lib.hid hO2
            clear hO2
            have hj : Lib.join ((List.range t).map fun j => vtxt (l.getD j 0)) [44] = rtxt l := by
              rw [← HLL.out, range_map_getD]; rfl
            have HJ := Lib.hid hj
            clear hj
            have hjl := rtxt_len l
            rw [HLL.out] at hjl
            go_wp2_with fail
            refine (joinT _ _ _ _ _ _ [44] HO2.out (Nat.le_refl _) (by omega) (by rw [HJ.out]; omega)).mono ?_
            rintro e w1 ⟨s, rfl, hs, hb1⟩
            rw [HJ.out] at hs
            have HS := Lib.hid hs
            clear hs
            have HB1 := Lib.hid (bnext HBi.out hb1)
            clear hb1
            have HO1 := Lib.hid (HO.out.below HB1.out)
            have hc1 := HO1.out.cellAt k hlt
            have hf1 := HO1.out.frozenAt k
            have HN : Hid (OwnT (w1.setCell ⟨w.heap.size, k, none⟩ (.string s)) w.heap.size (.slice (some ⟨w.heap.size, 0, none⟩) n n) (fillT (fun i => rtxt (R.getD i [])) n (k + 1))) := by
              have := HO1.out.set k (rtxt l)
              rw [HL.out, fillT_set (fun i => rtxt (R.getD i []))] at this
              rw [HS.out, HL.out]
              exact this
            go_wp2
            go_roundw
            case rel => exact ⟨k + 1, by omega, by go_num, HN.out, (bnext HB.out HB1.out).setCell (Nat.le_refl _) _⟩
            case measure => simp [intOf]; omega
      · obtain rfl : k = n := by omega
        have hO2 := HO.out
        rw [fillT_all] at hO2
        have HO2 := Lib.hid hO2
        clear hO2
        have hj : Lib.join ((List.range k).map fun i => rtxt (R.getD i [])) [59] = mtxt R := by
          rw [← HLN.out, range_map_getD, mtxt, if_pos HM.out]
        have HJ := Lib.hid hj
        clear hj
        have hjl : (Lib.join ((List.range k).map fun i => rtxt (R.getD i [])) [59]).length ≤ 211 * k := by
          have := joinT_len ((List.range k).map fun i => rtxt (R.getD i [])) [59] 210 (fun x hx => by
            obtain ⟨i, hi, rfl⟩ := List.mem_map.1 hx
            have h1 := rtxt_len (R.getD i [])
            rw [HR.out.2 i (List.mem_range.1 hi)] at h1
            omega)
          simpa using this
        have HJL := Lib.hid hjl
        clear hjl
        go_wp2_with fail
        refine (joinT _ _ _ _ _ _ [59] HO2.out (Nat.le_refl _) (by omega) (by have := HJL.out; omega)).mono ?_
        rintro e w1 ⟨s, rfl, hs, hb1⟩
        rw [HJ.out] at hs
        have HS := Lib.hid hs
        clear hs
        have HB1 := Lib.hid (bnext HB.out hb1)
        clear hb1
        go_wp2
        go_ret
        exact ⟨_, rfl, HS.out, HB1.out⟩
  · simp only [Bool.not_eq_true] at hm
    have HM := Lib.hid hm
    clear h hm
    go_enter Tryd.func18, Tryd.ntmps18
    go_wp2_with (go_at_call 47; refine (isMatrix_b _ _ _ _ _ _ HM.out HA.out).mono ?_; rintro e w' ⟨rfl, rfl⟩)
    go_ret
    exact ⟨_, rfl, by rw [mtxt, if_neg (by rw [HM.out]; exact Bool.false_ne_true)], Below.refl _ _⟩
end Go.Proofs.YtlcjmcoljclpgaaDoor.V

namespace Go.Proofs.YtlcjmcoljclpgaaDoor.V
open Go.RowKit

theorem join_snoc (L : List (List UInt8)) (x sep : List UInt8) (h : L ≠ []) : Lib.join (L ++ [x]) sep = Lib.join L sep ++ sep ++ x := by
  cases L with
  | nil => exact absurd rfl h
  | cons y r =>
    rw [List.cons_append, Lib.join_cons, Lib.join_cons, Lib.joinTail, Lib.joinTail, List.map_append, List.flatten_append]
    simp
theorem take_snoc {α : Type} (l : List α) (d : α) (k : Nat) (h : k < l.length) : l.take (k + 1) = l.take k ++ [l.getD k d] := by
  rw [List.take_add_one, List.getElem?_eq_getElem h]
  simp [h]
theorem join_take {α : Type} (f : α → List UInt8) (l : List α) (d : α) (sep : List UInt8) (k : Nat) (h : k < l.length) (h0 : 0 < k) :
    Lib.join ((l.take (k + 1)).map f) sep = Lib.join ((l.take k).map f) sep ++ sep ++ f (l.getD k d) := by
  rw [take_snoc l d k h, List.map_append, List.map_singleton, join_snoc]
  intro e
  have := congrArg List.length e
  simp at this
  rcases this with this | this
  · omega
  · subst this; simp at h
theorem join_take0 {α : Type} (f : α → List UInt8) (l : List α) (d : α) (sep : List UInt8) (h : 0 < l.length) :
    Lib.join ((l.take (0 + 1)).map f) sep = f (l.getD 0 d) := by
  rw [take_snoc l d 0 h]
  simp [Lib.join_one]
theorem app_eq {s t : ByteArray} {l m : List UInt8} (hs : s = ⟨l.toArray⟩) (ht : t = ⟨m.toArray⟩) : s ++ t = ⟨(l ++ m).toArray⟩ := by
  subst hs ht
  exact toArray_eq (by simp [ByteArray.data_append])

set_option maxRecDepth 100000 in
set_option maxHeartbeats 4000000 in
theorem sRow (a : Option Addr) (n cap : Nat) (l : List Int) (w : World) (h : Ints .i64 w a n l) (hn : n ≤ 10) (hv : ∀ j, j < n → M.isVal (l.getD j 0) = true) :
    Calls Tryd.prog 53 #[.slice a n cap] w (TxtPost (rtxt l) w) := by
  have HA := Lib.hid h
  have HV := Lib.hid hv
  have HL := Lib.hid h.1
  clear h hv
  go_enter Tryd.func53, Tryd.ntmps53
  go_wp2
  go_loopw [3, 4] (fun o i wr => ∃ (k : Nat) (s : ByteArray), k ≤ n ∧ i = .int .i64 k ∧ o = .string s ∧ Hid (s = ⟨(Lib.join ((l.take k).map vtxt) [44]).toArray⟩) ∧ s.size ≤ 21 * k ∧ Below w.heap.size w wr) (fun _ i _ => n - (intOf i).toNat)
  case atStart => exact ⟨0, ⟨#[]⟩, Nat.zero_le _, rfl, rfl, rfl, (by decide), Below.refl _ _⟩
  case round =>
    obtain ⟨k, s, hk, rfl, rfl, HS, hsz, hb⟩ := hrel
    have HB := Lib.hid hb
    clear hb
    by_cases hlt : k < n
    · have hki : (k : Int) < (n : Int) := by omega
      have hvk := Lib.hid (HV.out k hlt)
      have hlk : k < l.length := by rw [HL.out]; exact hlt
      obtain ⟨d, od, x, rfl, -, hx, hcx⟩ := (HA.out.below HB.out).at k hlt
      have HX := Lib.hid hx
      clear hx
      have HVX : Hid (M.isVal x = true) := by show _ = _; rw [HX.out]; exact hvk.out
      clear hvk
      by_cases h0 : k = 0
      · subst h0
        rw [Nat.add_zero] at hcx
        go_wp2_with fail
        refine (sText x _ HVX.out).mono ?_
        rintro e w1 ⟨t, rfl, ht, hb1⟩
        have HT : Hid (t = ⟨(vtxt x).toArray⟩) := by show _ = _; rw [ht, vtxt, if_pos HVX.out]
        have htz : t.size ≤ 20 := by rw [HT.out]; have := vtxt_len x; simpa [ByteArray.size] using this
        clear ht
        have HB1 := Lib.hid (bnext HB.out hb1)
        clear hb1
        go_wp2
        go_roundw
        case rel =>
          refine ⟨0 + 1, s ++ t, by omega, by go_num, by first | rfl | trivial, ?_, by rw [ByteArray.size_append]; omega, HB1.out⟩
          show _ = _
          rw [app_eq HS.out HT.out, join_take0 vtxt l 0 [44] hlk, ← HX.out]
          simp [Lib.join_nil]
        case measure => simp [intOf]; omega
      · have h0i : (0 : Int) < (k : Int) := by omega
        have h0n : 0 < k := by omega
        go_wp2_with fail
        refine (sText x _ HVX.out).mono ?_
        rintro e w1 ⟨t, rfl, ht, hb1⟩
        have HT : Hid (t = ⟨(vtxt x).toArray⟩) := by show _ = _; rw [ht, vtxt, if_pos HVX.out]
        have htz : t.size ≤ 20 := by rw [HT.out]; have := vtxt_len x; simpa [ByteArray.size] using this
        clear ht
        have HB1 := Lib.hid (bnext HB.out hb1)
        clear hb1
        go_wp2
        go_roundw
        case rel =>
          refine ⟨k + 1, s ++ ⟨#[44]⟩ ++ t, by omega, by go_num, by first | rfl | trivial, ?_, ?_, HB1.out⟩
          · show _ = _
            rw [app_eq (app_eq HS.out (show (⟨#[44]⟩ : ByteArray) = ⟨([44] : List UInt8).toArray⟩ from rfl)) HT.out, join_take vtxt l 0 [44] k hlk h0n, ← HX.out]
          · rw [ByteArray.size_append, ByteArray.size_append]
            have : (⟨#[44]⟩ : ByteArray).size = 1 := rfl
            omega
        case measure => simp [intOf]; omega
    · obtain rfl : k = n := by omega
      go_wp2
      go_ret
      refine ⟨_, rfl, ?_, HB.out⟩
      have := HS.out
      rw [List.take_of_length_le (by rw [HL.out]; exact Nat.le_refl _)] at this
      exact this

set_option maxRecDepth 100000 in
set_option maxHeartbeats 4000000 in
theorem sMatrixText (a : Option Addr) (n cap : Nat) (R : List (List Int)) (w : World) (h : Mat w a n R) :
    Calls Tryd.prog 22 #[.slice a n cap] w (TxtPost (mtxt R) w) := by
  have HA := Lib.hid h
  by_cases hm : M.isMat R = true
  · have hr := rect_mat hm
    have hln : R.length = n := h.1
    obtain ⟨q1, q2, q3, q4, -, -⟩ := M.isMat_t hm
    rw [hln] at hr q1 q2
    have HR := Lib.hid hr
    obtain ⟨L, hL⟩ : ∃ L, L = M.wid R := ⟨_, rfl⟩
    rw [← hL] at HR q3 q4
    have HV : Hid (∀ i j, i < R.length → j < L → M.isVal ((R.getD i []).getD j 0) = true) := fun i j hi hj => M.isMat_val hm hi (by rw [← hL]; exact hj)
    have HM := Lib.hid hm
    have HLN := Lib.hid hln
    obtain ⟨b, off, -, -, rfl, -, -⟩ := h.rect_first HR.out (by omega)
    clear h hr hm hL hln
    go_enter Tryd.func22, Tryd.ntmps22
    go_wp2_with (go_at_call 52; refine (sIsMatrixB_b _ _ _ _ _ _ HM.out HA.out).mono ?_; rintro e wm ⟨rfl, hbm⟩)
    have HBm := Lib.hid hbm
    clear hbm
    go_loopw [3, 4] (fun o i wr => ∃ (k : Nat) (s : ByteArray), k ≤ n ∧ i = .int .i64 k ∧ o = .string s ∧ Hid (s = ⟨(Lib.join ((R.take k).map rtxt) [59]).toArray⟩) ∧ s.size ≤ 211 * k ∧ Below w.heap.size w wr) (fun _ i _ => n - (intOf i).toNat)
    case atStart => exact ⟨0, ⟨#[]⟩, Nat.zero_le _, rfl, rfl, rfl, (by decide), HBm.out⟩
    case round =>
      obtain ⟨k, s, hk, rfl, rfl, HS, hsz, hb⟩ := hrel
      have HB := Lib.hid hb
      clear hb
      by_cases hlt : k < n
      · have hki : (k : Int) < (n : Int) := by omega
        have hlk : k < R.length := by rw [HLN.out]; exact hlt
        obtain ⟨d, od, rr, rcr, hdd, hbr, hcr, hIr⟩ := (HA.out.below HB.out).rect_at HR.out k hlt
        injection hdd with hdd
        injection hdd with e1 e2
        subst e1 e2
        obtain ⟨l, hl⟩ : ∃ l, l = R.getD k [] := ⟨_, rfl⟩
        rw [← hl] at hIr
        have HVL : Hid (∀ j, j < L → M.isVal (l.getD j 0) = true) := fun j hj => by rw [hl]; exact HV.out k j hlk hj
        have HLL : Hid (l.length = L) := hIr.1
        have HL := Lib.hid hl
        have HIR := Lib.hid hIr
        clear hIr hl
        by_cases h0 : k = 0
        · subst h0
          rw [Nat.add_zero] at hcr
          go_wp2_with fail
          refine (sRow _ _ _ _ _ HIR.out (by omega) HVL.out).mono ?_
          rintro e w1 ⟨t, rfl, ht, hb1⟩
          have HT := Lib.hid ht
          have htz : t.size ≤ 210 := by
            rw [ht]; have := rtxt_len l; rw [HLL.out] at this
            have e : (⟨(rtxt l).toArray⟩ : ByteArray).size = (rtxt l).length := by simp [ByteArray.size]
            omega
          clear ht
          have HB1 := Lib.hid (bnext HB.out hb1)
          clear hb1
          go_wp2
          go_roundw
          case rel =>
            refine ⟨0 + 1, s ++ t, by omega, by go_num, by first | rfl | trivial, ?_, by rw [ByteArray.size_append]; omega, HB1.out⟩
            show _ = _
            rw [app_eq HS.out HT.out, join_take0 rtxt R [] [59] hlk, ← HL.out]
            simp [Lib.join_nil]
          case measure => simp [intOf]; omega
        · have h0i : (0 : Int) < (k : Int) := by omega
          have h0n : 0 < k := by omega
          go_wp2_with fail
          refine (sRow _ _ _ _ _ HIR.out (by omega) HVL.out).mono ?_
          rintro e w1 ⟨t, rfl, ht, hb1⟩
          have HT := Lib.hid ht
          have htz : t.size ≤ 210 := by
            rw [ht]; have := rtxt_len l; rw [HLL.out] at this
            have e : (⟨(rtxt l).toArray⟩ : ByteArray).size = (rtxt l).length := by simp [ByteArray.size]
            omega
          clear ht
          have HB1 := Lib.hid (bnext HB.out hb1)
          clear hb1
          go_wp2
          go_roundw
          case rel =>
            refine ⟨k + 1, s ++ ⟨#[59]⟩ ++ t, by omega, by go_num, by first | rfl | trivial, ?_, ?_, HB1.out⟩
            · show _ = _
              rw [app_eq (app_eq HS.out (show (⟨#[59]⟩ : ByteArray) = ⟨([59] : List UInt8).toArray⟩ from rfl)) HT.out, join_take rtxt R [] [59] k hlk h0n, ← HL.out]
            · rw [ByteArray.size_append, ByteArray.size_append]
              have : (⟨#[59]⟩ : ByteArray).size = 1 := rfl
              omega
          case measure => simp [intOf]; omega
      · obtain rfl : k = n := by omega
        go_wp2
        go_ret
        refine ⟨_, rfl, ?_, HB.out⟩
        have := HS.out
        rw [List.take_of_length_le (by rw [HLN.out]; exact Nat.le_refl _)] at this
        rw [mtxt, if_pos HM.out]
        exact this
  · simp only [Bool.not_eq_true] at hm
    have HM := Lib.hid hm
    clear h hm
    go_enter Tryd.func22, Tryd.ntmps22
    go_wp2_with (go_at_call 52; refine (sIsMatrixB_b _ _ _ _ _ _ HM.out HA.out).mono ?_; rintro e wm ⟨rfl, hbm⟩)
    go_ret
    exact ⟨_, rfl, by rw [mtxt, if_neg (by rw [HM.out]; exact Bool.false_ne_true)], hbm⟩
end Go.Proofs.YtlcjmcoljclpgaaDoor.V
