/- l01Split in the model; appending a text. -/
import Derived.Test.YtackennmjmobdaaDoorRows
import Derived.Test.YtackennmjmobdaaDoorMath1
import Derived.Test.YtackennmjmobdaaDoorList
import Derived.Test.YtackennmjmobdaaDoorMatM
import Derived.Test.YtackennmjmobdaaDoorHelp
import Derived.Test.YtackennmjmobdaaDoorRows0
import Derived.Test.YtackennmjmobdaaDoorOwn
import Derived.Test.YtackennmjmobdaaDoorMat0
import Derived.WalkKit
import Derived.ProofKit
import Derived.WalkSmall
import Derived.Deep.QuietTactic
import Derived.BigQuiet
import Derived.BigRegion
import Derived.Deep.Draws
import Derived.Lib.Hide
import Derived.OpenShut
import Derived.Deep.OwnRows
import Derived.Maps.AppendAt
import Derived.Test.YtackennmjmobdaaDoorApp
import Derived.Test.YtackennmjmobdaaDoorTxt
import Derived.Test.YtackennmjmobdaaDoorTm0
import Derived.Test.YtackennmjmobdaaDoorRm0
namespace Go.Proofs.YtackennmjmobdaaDoor.V
open Go.RowKit

theorem ownT_lit0 (w : World) (B : Nat) (hB : B ≤ w.heap.size) : OwnT (w.alloc (.cells #[] 9)) B (.slice (some ⟨w.heap.size, 0, none⟩) 0 0) [] :=
  World.ownsRow_lit w #[] 0 hB (by decide) rfl
theorem appendT (w : World) {ops : Array Oper} {rest : List Oper} {o : Oper} {a : Act} {Q : Exit → Act → World → Prop} (hgd : o.guard = none) (s x : Operand)
    (ho : o.op = .call { callee := .builtin .append, args := #[s, x], argTypes := #[38, 38] }) (B : Nat) (v : Value) (L : List (List UInt8)) (y : ByteArray) (n : Nat) (hn : L.length = n) (hs : a.eval s = v) (hown : OwnT w B v L)
    (hx : a.eval x = .slice (some ⟨w.heap.size, 0, none⟩) 1 1) (hlen : L.length ≤ 2000000) (hB : B ≤ w.heap.size)
    (h : ∀ b' c' w', OwnT w' B (.slice b' (n + 1) c') (L ++ [y.data.toList]) → Below B w w' → (∀ k, k < w.heap.size → v.ownBlock ≠ some k → w'.heap[k]? = w.heap[k]?) → wpList Tryd.prog ops Q rest (a.put o.dst (.slice b' (n + 1) c')) w') :
    wpList Tryd.prog ops Q (o :: rest) a (w.alloc (.cells #[.string y] 9)) := by
  subst hn
  obtain ⟨i0, hi, hz0, hz1, hz2⟩ := info_parts infoT
  have hown2 : (w.alloc (.cells #[.string y] 9)).ownsRow B 9 1 v L.length (L.map fun x => Value.string ⟨x.toArray⟩) := World.ownsRow.alloc hown _
  refine wpList_append_own_at (w := w.alloc (.cells #[.string y] 9)) hgd s x 38 ho B 9 i0 (.string ⟨#[]⟩) 1 16 Tryd.underlying38 hi hz0 hz1 hz2 rfl (by decide) v _ _ hs hown2 ⟨w.heap.size, 0, none⟩ 1 1 [.string y] hx rfl (cell_one_new _ _ _) ?c2 ?c3 ?c4 ?c5 ?_
  case c2 => intro u hu; simp at hu; subst hu; rfl
  case c3 => unfold maxLen; omega
  case c4 => omega
  case c5 => simp; omega
  · intro v' w' hown' hgrow hz hvb
    have ho' : OwnT w' B v' (L ++ [y.data.toList]) := by
      show w'.ownsRow B _ 1 v' (L ++ [y.data.toList]).length ((L ++ [y.data.toList]).map fun x => Value.string ⟨x.toArray⟩)
      simpa using hown'
    obtain ⟨b', c', hv', _⟩ := own_form ho'
    rw [show (L ++ [y.data.toList]).length = L.length + 1 by simp] at hv'
    subst hv'
    refine h b' c' w' ho' (((Below.refl B w).alloc hB _).grown hgrow (by simp; omega) (fun k hk => (own_lt hown hk).1)) (fun k hk hne => ?_)
    obtain ⟨g1, g2, g3, g4, g5⟩ := hgrow
    rw [g5 k (by simp; omega) (fun e => hne e.symm), Below.heap_alloc _ _ _ hk]

/-- A slice of texts that is handed out. -/
def TPost (L : List (List UInt8)) (w : World) (e : Ending) (w' : World) : Prop :=
  ∃ a cap, e = .returned (.slice a L.length cap) ∧ OwnT w' w.heap.size (.slice a L.length cap) L ∧ Below w.heap.size w w'

set_option maxRecDepth 100000 in
set_option maxHeartbeats 4000000 in
theorem sSplit (s : ByteArray) (ci : Int) (c : UInt8) (w : World) (hc : ci = (c.toNat : Int)) (hs : s.size ≤ 1048576) :
    Calls Tryd.prog 28 #[.string s, .int .u8 ci] w (TPost (M.splitL c s.data.toList) w) := by
  have hlen : s.data.toList.length = s.size := Array.length_toList
  have HLEN := Lib.hid hlen
  clear hlen
  have HC := Lib.hid hc
  clear hc
  have hO0 : Hid (OwnT (w.alloc (.cells #[] 9)) w.heap.size (.slice (some ⟨w.heap.size, 0, none⟩) 0 0) []) := ownT_lit0 w _ (Nat.le_refl _)
  go_enter Tryd.func28, Tryd.ntmps28
  go_wp2
  go_loopw [5, 6, 7] (fun out from_ i wr => ∃ (k f t : Nat) (b : Option Addr) (cp : Nat) (P : List (List UInt8)), k ≤ s.size + 1 ∧ f ≤ k ∧ i = .int .i64 k ∧ from_ = .int .i64 f ∧ out = .slice b t cp ∧ t ≤ f ∧ Hid (t = P.length) ∧ Hid (OwnT wr w.heap.size (.slice b t cp) P) ∧ Hid (M.SplitInv c s.data.toList f k P) ∧ Below w.heap.size w wr) (fun _ _ i _ => s.size + 1 - (intOf i).toNat)
  case atStart => exact ⟨0, 0, 0, _, _, [], Nat.zero_le _, Nat.le_refl _, rfl, rfl, rfl, Nat.le_refl _, rfl, hO0, M.inv0 _ _, b_alloc _ _⟩
  case round =>
    obtain ⟨k, f, t, b, cp, P, hk, hf, rfl, rfl, rfl, htf, HT, HO, HI, hb⟩ := hrel
    obtain ⟨wo, rfl⟩ : ∃ x, x = wr := ⟨_, rfl⟩
    have HB := Lib.hid hb
    clear hb hO0
    have hz : w.heap.size ≤ wo.heap.size := HB.out.size
    by_cases hk1 : k = s.size + 1
    · have hki : (s.size : Int) < (k : Int) := by omega
      have HK := Lib.hid hk1
      clear hk1
      go_wp2
      go_ret
      have e : P = M.splitL c s.data.toList := M.inv_fin (f := f) (by have := HI.out; rw [HK.out, ← HLEN.out] at this; exact this)
      have ht := HT.out
      rw [e] at ht
      subst ht
      exact ⟨b, cp, rfl, e ▸ HO.out, HB.out⟩
    · have hki : (k : Int) ≤ (s.size : Int) := by omega
      by_cases hke : k = s.size
      · subst hke
        have hfi : (f : Int) ≤ (s.size : Int) := by omega
        have HN : Hid (M.SplitInv c s.data.toList (s.size + 1) (s.size + 1) (P ++ [(s.data.toList.drop f).take (s.size - f)])) := by
          have := HI.out
          rw [← HLEN.out] at this
          have := M.inv_end this
          rw [HLEN.out] at this
          exact this
        go_wp2_with (at_builtin; refine appendT _ rfl (.tmp 26) (.tmp 31) rfl w.heap.size _ P (s.extract f s.size) t HT.out.symm rfl HO.out rfl (by rw [← HT.out]; omega) hz ?_)
        intro b2 c2 w2 hO2 hb2 _
        have HO2 := Lib.hid hO2
        have HB2 := Lib.hid (HB.out.trans hb2)
        clear hO2 hb2
        go_wp2
        go_roundw
        case rel => exact ⟨s.size + 1, s.size + 1, t + 1, _, _, _, by omega, by omega, by go_num, by go_num, rfl, by omega, (by show t + 1 = _; simp [HT.out]), HO2, HN, HB2.out⟩
        case measure => simp [intOf]
      · have hlt : k < s.size := by omega
        have hll : k < s.data.toList.length := by rw [HLEN.out]; exact hlt
        have hne : ¬ (k : Int) = (s.size : Int) := by omega
        have hke1 : (k : Int) < (s.size : Int) := by omega
        have hfi : (f : Int) ≤ (k : Int) := by omega
        clear hk1 hke
        have HG : Hid (s.data.toList[k] = s[k]) := rfl
        by_cases hc : s[k] = c
        · have hcc : (s[k].toNat : Int) = ci := by rw [HC.out, hc]
          have HN : Hid (M.SplitInv c s.data.toList (k + 1) (k + 1) (P ++ [(s.data.toList.drop f).take (k - f)])) := by
            exact M.inv_hit HI.out hll (by rw [HG.out, hc])
          clear hc
          go_wp2_with (at_builtin; refine appendT _ rfl (.tmp 26) (.tmp 31) rfl w.heap.size _ P (s.extract f k) t HT.out.symm rfl HO.out rfl (by rw [← HT.out]; omega) hz ?_)
          intro b2 c2 w2 hO2 hb2 _
          have HO2 := Lib.hid hO2
          have HB2 := Lib.hid (HB.out.trans hb2)
          clear hO2 hb2
          go_wp2
          go_roundw
          case rel => exact ⟨k + 1, k + 1, t + 1, _, _, _, by omega, by omega, by go_num, by go_num, rfl, by omega, (by show t + 1 = _; simp [HT.out]), HO2, HN, HB2.out⟩
          case measure => simp [intOf]; omega
        · have hcc : ((s[k].toNat : Int) == ci) = false := by
            rw [HC.out, beq_eq_false_iff_ne]
            intro e
            exact hc (UInt8.toNat_inj.1 (by omega))
          have hbe : ((k : Int) == (s.size : Int)) = false := by rw [beq_eq_false_iff_ne]; exact hne
          clear hne
          have HN : Hid (M.SplitInv c s.data.toList f (k + 1) P) := M.inv_miss HI.out hll (by rw [HG.out]; exact hc)
          clear hc
          go_wp2
          go_roundw
          case rel => exact ⟨k + 1, f, t, _, _, P, by omega, by omega, by go_num, rfl, rfl, htf, HT, HO, HN, HB.out⟩
          case measure => simp [intOf]; omega
end Go.Proofs.YtackennmjmobdaaDoor.V
