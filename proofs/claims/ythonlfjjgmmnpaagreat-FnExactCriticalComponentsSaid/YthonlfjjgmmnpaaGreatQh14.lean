/- Texts laid together: Dlf, Pth3, Pth4. -/
import Derived.Test.YthonlfjjgmmnpaaGreatQh6
import Derived.Test.YthonlfjjgmmnpaaGreatQh3
import Derived.Test.YthonlfjjgmmnpaaGreatQh13
import Derived.Lib.SliceRun
import Derived.Laws.IdiomCopy
import Derived.Test.YthonlfjjgmmnpaaGreatRows
import Derived.Test.YthonlfjjgmmnpaaGreatQh1
import Derived.Test.YthonlfjjgmmnpaaGreatQh2
import Derived.WalkKit
import Derived.ProofKit
import Derived.WalkSmall
import Derived.Deep.QuietTactic
import Derived.BigQuiet
import Derived.BigRegion
import Derived.Deep.Draws
import Derived.Deep.RegionWith
import Derived.Deep.RegionHeld3
import Derived.Lib.Hide
import Derived.IntWalk
import Derived.OpenShut
import Derived.Deep.OwnRows
import Derived.Test.YthonlfjjgmmnpaaGreatQh9
import Derived.Test.YthonlfjjgmmnpaaGreatQh7
import Derived.Test.YthonlfjjgmmnpaaGreatQh8
import Derived.Deep.AppendLies
namespace Go.Proofs.YthonlfjjgmmnpaaGreat
namespace M
def kept (p : Nat → Bool) (k : Nat) : List Nat := (List.range k).filter p
theorem kept_next (p : Nat → Bool) (k : Nat) : kept p (k + 1) = kept p k ++ (if p k then [k] else []) := by
  unfold kept
  rw [List.range_succ, List.filter_append]
  congr 1
  by_cases h : p k = true
  · rw [if_pos h]; simp [h]
  · rw [if_neg h]; simp [h]
theorem kept_len (p : Nat → Bool) (k : Nat) : (kept p k).length ≤ k := by
  unfold kept
  exact Nat.le_trans (List.length_filter_le _ _) (by simp)
theorem kept_all {p : Nat → Bool} {k : Nat} (h : ∀ x, x < k → p x = true) : kept p k = List.range k := by
  unfold kept
  exact List.filter_eq_self.2 fun x hx => h x (List.mem_range.1 hx)
end M
namespace V
set_option maxRecDepth 100000
open Go.RowKit
theorem Chg.drewN {S : Nat → Prop} {a b : World} (h : Chg S a b) (q : Nat) : Chg S a (b.drewN q) := ⟨h.os, h.tape, h.output, h.size, h.other⟩
theorem ownsRow_drewN {w : World} {B : Nat} {e : TypeId} {s n : Nat} {v : Value} {xs : List Value} (h : w.ownsRow B e s v n xs) (q : Nat) : (w.drewN q).ownsRow B e s v n xs := h
theorem ownsRow_cells {B : Nat} {e : TypeId} {g N c : Nat} : ∀ (vs : List Value) (o : Nat) (W : World) (VV : List Value), W.ownsRow B e 1 (.slice (some ⟨g, 0, none⟩) N c) N VV → 
    ∃ VV', (W.setCells g o vs).ownsRow B e 1 (.slice (some ⟨g, 0, none⟩) N c) N VV' ∧ VV'.take o = VV.take o ∧ Chg (fun k => k = g) W (W.setCells g o vs)
  | [], o, W, VV, h => ⟨VV, h, rfl, Chg.refl _ _⟩
  | v :: r, o, W, VV, h => by
    obtain ⟨VV', h1, h2, h3⟩ := ownsRow_cells r (o + 1) (W.setCell ⟨g, o, none⟩ v) (VV.set o v) (World.ownsRow.stored h o v).1
    refine ⟨VV', h1, ?_, ((Chg.refl (fun k => k = g) W).set rfl v).trans h3⟩
    have e : VV'.take o = (VV'.take (o + 1)).take o := by rw [List.take_take]; congr 1; omega
    rw [e, h2, List.take_take, show min o (o + 1) = o by omega, List.take_set_of_le (Nat.le_refl o)]
theorem ownsRow_cut {W : World} {B : Nat} {e : TypeId} {g N c i : Nat} {VV : List Value} (h : W.ownsRow B e 1 (.slice (some ⟨g, 0, none⟩) N c) N VV) (hi : i ≤ N) : W.ownsRow B e 1 (.slice (some ⟨g, 0, none⟩) i c) i (VV.take i) := by
  obtain ⟨h1, h2⟩ := h
  rcases h2 with ⟨h', -⟩ | ⟨g', cap', cur, h', hb, hg, hnc, hcm, hcs, htake⟩
  · simp at h'
  · simp only [Value.slice.injEq, Option.some.injEq, Addr.mk.injEq, and_true, true_and] at h'
    obtain ⟨rfl, rfl⟩ := h'
    refine ⟨by rw [List.length_take]; omega, .inr ⟨g, c, cur, rfl, hb, hg, by omega, hcm, hcs, ?_⟩⟩
    rw [← htake, List.take_take]
    congr 1
    omega
theorem ownsRow_at {W : World} {B N g c : Nat} {e : TypeId} {VV : List Value} (h : W.ownsRow B e 1 (.slice (some ⟨g, 0, none⟩) N c) N VV) (k : Nat) (hk : k < N) : W.cell? ⟨g, k, none⟩ = some (VV.getD k (.slice none 0 0)) := by
  have hl := h.1
  rw [World.ownsRow.cellAt h k (by omega), List.getD_eq_getElem?_getD, List.getElem?_eq_getElem (by omega), Option.getD_some]
set_option maxRecDepth 100000 in
set_option maxHeartbeats 2000000 in
theorem indexF (g N c : Nat) (fp : Value) (V : List Value) (p : Nat → Bool) (w : World) (hN : N ≤ 10) (hc : ∀ k, k < N → w.cell? ⟨g, k, none⟩ = some (V.getD k (.slice none 0 0)))
    (hp : ∀ q k, k < N → Calls Tryz.prog 120 #[V.getD k (.slice none 0 0), fp] (w.drewN q) fun e w' => e = .returned (.bool (!p k)) ∧ ∃ q', w' = (w.drewN q).drewN q') :
    Calls Tryz.prog 158 #[.slice (some ⟨g, 0, none⟩) N c, .func (.func 120) #[] #[fp]] w fun e w' => (∃ q, w' = w.drewN q) ∧
      ((e = .returned (.int .i64 (-1)) ∧ ∀ x, x < N → p x = true) ∨ ∃ j : Nat, j < N ∧ e = .returned (.int .i64 j) ∧ p j = false ∧ ∀ x, x < j → p x = true) := by
  have HP := Lib.hid hp
  have HC := Lib.hid hc
  clear hp hc
  go_enter Tryz.func158, Tryz.ntmps158
  go_wp2
  go_loopw [5, 8] (fun _ iv wr => ∃ k : Nat, k ≤ N ∧ iv = .int .i64 k ∧ Hid (∀ x, x < k → p x = true) ∧ Hid (∃ q, wr = w.drewN q)) (fun _ iv _ => N - (intOf iv).toNat)
  case atStart => exact ⟨0, Nat.zero_le _, rfl, fun x hx => absurd hx (Nat.not_lt_zero x), 0, rfl⟩
  case round =>
    obtain ⟨k, hk, rfl, HA, HW⟩ := hrel
    obtain ⟨q, hq⟩ := HW.out
    subst hq
    by_cases hkl : k < N
    · have hki : (k : Int) < (N : Int) := by omega
      have cr : (w.drewN q).cell? ⟨g, k, none⟩ = some (V.getD k (.slice none 0 0)) := HC.out k hkl
      have hcall := HP.out q k hkl
      have HV : Hid (V.getD k (.slice none 0 0) = V.getD k (.slice none 0 0)) := rfl
      generalize V.getD k (.slice none 0 0) = v at *
      clear HV
      obtain ⟨t, ht⟩ : ∃ t, t = p k := ⟨_, rfl⟩
      have HT := Lib.hid ht
      rw [← ht] at hcall
      clear ht
      cases t with
      | true =>
        have HCa := Lib.hid hcall
        clear hcall
        go_wp2_with (go_at_call 120; refine (HCa.out).mono ?_; rintro e w' ⟨rfl, q', rfl⟩)
        go_roundw
        case rel => exact ⟨k + 1, by omega, by go_num, fun x hx => by rcases Nat.lt_or_ge x k with h | h; exact HA.out x h; rw [show x = k by omega]; exact HT.out.symm, q + q', rfl⟩
        case measure => simp [intOf]; omega
      | false =>
        have HCa := Lib.hid hcall
        clear hcall
        go_wp2_with (go_at_call 120; refine (HCa.out).mono ?_; rintro e w' ⟨rfl, q', rfl⟩)
        go_ret
        exact ⟨⟨q + q', rfl⟩, .inr ⟨k, hkl, rfl, HT.out.symm, HA.out⟩⟩
    · obtain rfl : k = N := by omega
      go_wp2
      go_ret
      exact ⟨⟨q, rfl⟩, .inl ⟨rfl, HA.out⟩⟩
set_option maxRecDepth 100000 in
set_option maxHeartbeats 4000000 in
theorem deleteF (B g N c : Nat) (fp : Value) (V : List Value) (p : Nat → Bool) (w : World) (hN : N ≤ 10) (hV : w.ownsRow B 28 1 (.slice (some ⟨g, 0, none⟩) N c) N V)
    (hcap : N ≤ c) (hsl : ∀ k, k < N → ∃ ra m rc, V.getD k (.slice none 0 0) = .slice ra m rc)
    (hp : ∀ W k, k < N → Chg (fun b => b = g) w W → Calls Tryz.prog 120 #[V.getD k (.slice none 0 0), fp] W fun e w' => e = .returned (.bool (!p k)) ∧ ∃ q', w' = W.drewN q') :
    Calls Tryz.prog 118 #[.slice (some ⟨g, 0, none⟩) N c, .func (.func 120) #[] #[fp]] w fun e w' => e = .returned (.slice (some ⟨g, 0, none⟩) (M.kept p N).length c) ∧
      w'.ownsRow B 28 1 (.slice (some ⟨g, 0, none⟩) (M.kept p N).length c) (M.kept p N).length ((M.kept p N).map fun i => V.getD i (.slice none 0 0)) ∧ Chg (fun b => b = g) w w' := by
  have HP := Lib.hid hp
  have HV := Lib.hid hV
  have HS := Lib.hid hsl
  have hVl : V.length = N := by have := hV.1; omega
  have HI := Lib.hid (indexF g N c fp V p w hN (fun k hk => ownsRow_at hV k hk) fun q k hk => by
    refine (hp (w.drewN q) k hk ((Chg.refl _ _).drewN q)).mono ?_
    rintro e w' ⟨he, q', hq⟩
    exact ⟨he, q', hq⟩)
  clear hp hV hsl
  go_enter Tryz.func118, Tryz.ntmps118
  go_wp2_with fail
  refine (HI.out).mono ?_
  rintro e w1 ⟨⟨q1, rfl⟩, ⟨rfl, hall⟩ | ⟨j0, hj0, rfl, hj1, hj2⟩⟩
  · have hk := M.kept_all hall
    have HE : Hid ((M.kept p N).length = N ∧ (M.kept p N).map (fun i => V.getD i (.slice none 0 0)) = V) := by
      refine ⟨by rw [hk]; simp, ?_⟩
      rw [hk]
      apply List.ext_getElem
      · simp [hVl]
      · intro x h1 h2
        simp only [List.getElem_map, List.getElem_range]
        rw [List.getD_eq_getElem?_getD, List.getElem?_eq_getElem h2, Option.getD_some]
    clear hall hk
    go_wp2
    go_ret
    refine ⟨by rw [HE.out.1]; rfl, ?_, (Chg.refl _ _).drewN q1⟩
    rw [HE.out.2, HE.out.1]
    exact HV.out
  · have hk : M.kept p (j0 + 1) = List.range j0 := by rw [M.kept_next, hj1, M.kept_all hj2]; simp
    have HK := Lib.hid hk
    have hne : ((j0 : Int) == -1) = false := by rw [beq_eq_false_iff_ne]; omega
    clear hj1 hj2 hk
    go_wp2
    go_loopw [5, 6, 7] (fun iv jv _ wr => ∃ (k : Nat) (VV : List Value), k ≤ N ∧ jv = .int .i64 k ∧ iv = .int .i64 (M.kept p k).length ∧ (M.kept p k).length < k ∧ Hid (wr.ownsRow B 28 1 (.slice (some ⟨g, 0, none⟩) N c) N VV) ∧ Hid (∀ x, x < (M.kept p k).length → VV.getD x (.slice none 0 0) = V.getD ((M.kept p k).getD x 0) (.slice none 0 0)) ∧ Hid (∀ x, k ≤ x → x < N → VV.getD x (.slice none 0 0) = V.getD x (.slice none 0 0)) ∧ Hid (Chg (fun b => b = g) w wr)) (fun _ jv _ _ => N - (intOf jv).toNat)
    case atStart =>
      refine ⟨j0 + 1, V, by omega, by go_num, by rw [HK.out]; simp, by rw [HK.out]; simp, HV.out, fun x hx => ?_, fun x _ _ => rfl, (Chg.refl _ _).drewN q1⟩
      rw [HK.out] at hx ⊢
      have hx2 : x < j0 := by simpa using hx
      congr 1
      rw [List.getD_eq_getElem?_getD, List.getElem?_range hx2]
      rfl
    case round =>
      obtain ⟨k, VV, hk, rfl, rfl, hik, HO, HL, HH, HC⟩ := hrel
      have hVVl : VV.length = N := by have := HO.out.1; omega
      by_cases hkl : k < N
      · have hki : (k : Int) < (N : Int) := by omega
        obtain ⟨ra, m, rc, hv⟩ := HS.out k hkl
        have cr : wr.cell? ⟨g, k, none⟩ = some (.slice ra m rc) := by rw [ownsRow_at HO.out k hkl, HH.out k (Nat.le_refl _) hkl, hv]
        have hcall := HP.out wr k hkl HC.out
        rw [hv] at hcall
        have HVk := Lib.hid hv
        have ci := ownsRow_at HO.out (M.kept p k).length (by omega)
        have fi := World.ownsRow.frozenAt HO.out (M.kept p k).length
        have hii : ((M.kept p k).length : Int) < (N : Int) := by omega
        have hnx := M.kept_next p k
        obtain ⟨t, ht⟩ : ∃ t, t = p k := ⟨_, rfl⟩
        rw [← ht] at hcall hnx
        have HCa := Lib.hid hcall
        generalize VV.getD (M.kept p k).length (.slice none 0 0) = old at ci
        clear hcall ht hv
        cases t with
        | false =>
          have HN : Hid (M.kept p (k + 1) = M.kept p k) := by show _ = _; rw [hnx]; simp
          clear hnx ci fi
          generalize hgk : M.kept p k = kp at *
          clear hgk
          generalize hgl : kp.length = i at *
          have HGl := Lib.hid hgl
          clear hgl
          go_wp2_with (go_at_call 120; refine (HCa.out).mono ?_; rintro e w' ⟨rfl, q', rfl⟩)
          go_roundw
          case rel => exact ⟨k + 1, VV, by omega, by go_num, by rw [HN.out, HGl.out], by rw [HN.out, HGl.out]; omega, HO.out, by show ∀ x, _ → _; rw [HN.out, HGl.out]; exact HL.out, fun x h1 h2 => HH.out x (by omega) h2, HC.out.drewN q'⟩
          case measure => simp [intOf]; omega
        | true =>
          have HN : Hid (M.kept p (k + 1) = M.kept p k ++ [k]) := by show _ = _; rw [hnx]; simp
          clear hnx
          generalize hgk : M.kept p k = kp at *
          clear hgk
          generalize hgl : kp.length = i at *
          have HGl := Lib.hid hgl
          clear hgl
          go_wp2_with (go_at_call 120; refine (HCa.out).mono ?_; rintro e w' ⟨rfl, q', rfl⟩)
          go_roundw
          case rel =>
            refine ⟨k + 1, VV.set i (.slice ra m rc), by omega, by go_num, by rw [HN.out, List.length_append, HGl.out]; go_num, by rw [HN.out, List.length_append, HGl.out]; simp; omega, (World.ownsRow.stored (ownsRow_drewN HO.out q') i (.slice ra m rc)).1, fun x hx => ?_, fun x h1 h2 => ?_, (HC.out.drewN q').set rfl _⟩
            · rw [HN.out] at hx ⊢
              rw [List.length_append, HGl.out] at hx
              rw [getD_set _ _ _ _ _ (by omega)]
              by_cases e : x = i
              · have e1 : (kp ++ [k]).getD kp.length 0 = k := by simp
                rw [if_pos e, e, ← HGl.out, e1, HVk.out]
              · have hx2 : x < i := by simp at hx; omega
                have e0 : (kp ++ [k]).getD x 0 = kp.getD x 0 := by rw [List.getD_eq_getElem?_getD, List.getD_eq_getElem?_getD, List.getElem?_append_left (by have := HGl.out; omega)]
                rw [if_neg e, HL.out x hx2, e0]
            · rw [getD_set _ _ _ _ _ (by omega), if_neg (by omega)]
              exact HH.out x (by omega) h2
          case measure => simp [intOf]; omega
      · obtain rfl : k = N := by omega
        have hkk : ¬ (k : Int) < (k : Int) := by omega
        have hcl : ∀ ty, (Builtin.clear_ #[24] ty #[.slice (some ⟨g, (M.kept p k).length, none⟩) (k - (M.kept p k).length) (c - (M.kept p k).length)]).run Tryz.prog wr = .ok (.tuple #[]) (wr.setCells g (M.kept p k).length (List.replicate (k - (M.kept p k).length) (.slice none 0 0))) :=
          fun ty => Lib.run_clear_slice wr _ _ ty _ Tryz.underlying24 Tryz.zeroValue28 rfl rfl g _ _ _ (by omega) (fun t ht => by rw [ownsRow_at HO.out _ (by omega)]; rfl) (fun t ht => World.ownsRow.frozenAt HO.out _)
        obtain ⟨VV', h1, h2, h3⟩ := ownsRow_cells (List.replicate (k - (M.kept p k).length) (.slice none 0 0)) (M.kept p k).length wr VV HO.out
        have hcut := ownsRow_cut h1 (i := (M.kept p k).length) (by omega)
        have e : VV'.take (M.kept p k).length = (M.kept p k).map (fun i => V.getD i (.slice none 0 0)) := by
          rw [h2]
          apply List.ext_getElem
          · simp; omega
          · intro x k1 k2
            have hx : x < (M.kept p k).length := by simpa using k2
            have := HL.out x hx
            rw [List.getD_eq_getElem?_getD, List.getElem?_eq_getElem (by omega), Option.getD_some] at this
            rw [List.getElem_take, this, List.getElem_map]
            congr 1
            rw [List.getD_eq_getElem?_getD, List.getElem?_eq_getElem hx, Option.getD_some]
        rw [e] at hcut
        have HCut := Lib.hid hcut
        have HCg := Lib.hid (HC.out.trans h3)
        clear hcut e h1 h2 h3
        generalize hgi : (M.kept p k).length = i at *
        have HGi := Lib.hid hgi
        clear hgi
        go_wp2
        go_ret
        have hgi := HGi.out
        subst hgi
        exact ⟨rfl, HCut.out, HCg.out⟩
end V
end Go.Proofs.YthonlfjjgmmnpaaGreat

namespace Go.Proofs.YthonlfjjgmmnpaaGreat.V
open Go.RowKit

theorem caps_own {w : World} {B n cap : Nat} {a : Option Addr} {l : List Int} (h : Own w B (.slice a n cap) l) : n ≤ cap ∧ cap ≤ maxLen := by
  obtain ⟨a', c', hv, h1, h2, _⟩ := own_form h
  injection hv with e1 e2 e3
  subst e2 e3
  exact ⟨h1, h2⟩
theorem has_snoc (l : List Int) (k : Nat) (h : k < l.length) (x : Int) : M.hasB (l.take (k + 1)) x = (M.hasB (l.take k) x || decide (x = l.getD k 0)) := by
  rw [M.take_snoc l k h, Bool.eq_iff_iff]
  simp [M.hasB, List.contains_iff_mem]

set_option maxRecDepth 100000 in
set_option maxHeartbeats 1000000 in
theorem areDifferent (n : Nat) (a' : Option Addr) (N cap' : Nat) (l : List Int) (w : World) (h' : Ints .i64 w a' N l) (hv : M.nodesB n l = true) (n2 : n ≤ 10) :
    Calls Tryz.prog 64 #[.slice a' N cap'] w fun e w' => e = .returned (.bool (M.diffB l)) ∧ Below w.heap.size w w' := by
  have HI := Lib.hid h'
  have HV := Lib.hid hv
  have HL := Lib.hid h'.1
  have hm := h'.2.1
  unfold maxLen at hm
  have hr0 : Hid ((w.alloc (.cells #[.bool false, .bool false, .bool false, .bool false, .bool false, .bool false, .bool false, .bool false, .bool false, .bool false] 109)).rowIs w.heap.size 109 10 (fun s => .bool (M.hasB (l.take 0) (s : Int)))) :=
    World.rowIs_alloc w _ _ _ (fun i hi => by
      have : i = 0 ∨ i = 1 ∨ i = 2 ∨ i = 3 ∨ i = 4 ∨ i = 5 ∨ i = 6 ∨ i = 7 ∨ i = 8 ∨ i = 9 := by simp at hi; omega
      rcases this with rfl | rfl | rfl | rfl | rfl | rfl | rfl | rfl | rfl | rfl <;> rfl)
  have hb0 : Hid (Below w.heap.size w (w.alloc (.cells #[.bool false, .bool false, .bool false, .bool false, .bool false, .bool false, .bool false, .bool false, .bool false, .bool false] 109))) := b_alloc w _
  have hd0 : Hid (∀ i, i < 0 → M.hasB (l.take i) (l.getD i 0) = false) := fun i hi => absurd hi (Nat.not_lt_zero i)
  clear h' hv
  go_enter Tryz.func64, Tryz.ntmps64
  go_wp2
  go_loopw [5, 8] (fun _ i wr => ∃ k : Nat, k ≤ N ∧ i = .int .i64 k ∧ wr.rowIs w.heap.size 109 10 (fun s => .bool (M.hasB (l.take k) (s : Int))) ∧ Below w.heap.size w wr ∧ Hid (∀ i, i < k → M.hasB (l.take i) (l.getD i 0) = false)) (fun _ i _ => N - (intOf i).toNat)
  case atStart => exact ⟨0, Nat.zero_le _, rfl, hr0.out, hb0.out, hd0⟩
  case round =>
    obtain ⟨k, hk, rfl, hR, hB, HD⟩ := hrel
    have HR := Lib.hid hR
    have HB := Lib.hid hB
    clear hR hB hr0 hb0 hd0
    by_cases hlt : k < N
    · have hki : (k : Int) < (N : Int) := by omega
      have hl := HL.out
      obtain ⟨b', off', x, rfl, hd, hx, c1⟩ := (HI.out.below HB.out).at k hlt
      have hb1 := M.nodesB_at HV.out (k := k) (by omega)
      have hv1 : x = ((M.vx l k : Nat) : Int) := by rw [hx]; unfold M.vx; omega
      have hw1 := M.vx_lt HV.out (k := k) (by omega)
      have hx2 : ((M.vx l k : Nat) : Int) = l.getD k 0 := by rw [← hv1, hx]
      generalize M.vx l k = u at hv1 hw1 hx2
      subst hv1
      have hu : u < 10 := by omega
      have hu2 : (u : Int) < 10 := by omega
      obtain ⟨q, hq⟩ : ∃ q, q = M.hasB (l.take k) (u : Int) := ⟨_, rfl⟩
      have hc := HR.out.cell (i := u) hu
      rw [← hq] at hc
      have hf := HR.out.frozen u
      cases q with
      | true =>
        have HF : Hid (M.diffB l = false) := M.diffB_f (i := k) (by omega) (by rw [← hx2]; exact hq.symm)
        clear hq hx hx2 hl hb1
        go_wp2
        go_ret
        exact ⟨retB HF.out.symm, HB.out⟩
      | false =>
        have HD2 : Hid (∀ i, i < k + 1 → M.hasB (l.take i) (l.getD i 0) = false) := fun i hi => by
          by_cases e : i = k
          · subst e; rw [← hx2]; exact hq.symm
          · exact HD.out i (by omega)
        have HR2 : Hid ((wr.setCell ⟨w.heap.size, u, none⟩ (.bool true)).rowIs w.heap.size 109 10 (fun s => .bool (M.hasB (l.take (k + 1)) (s : Int)))) :=
          (HR.out.set u (.bool true)).congr (fun s hs => by
            have := has_snoc l k (by have := HL.out; omega) (s : Int)
            show (if s = u then Value.bool true else Value.bool (M.hasB (l.take k) (s : Int))) = Value.bool (M.hasB (l.take (k + 1)) (s : Int))
            rw [this, ← hx2]
            by_cases e : s = u
            · subst e; simp
            · have e2 : ¬ ((s : Int) = (u : Int)) := by omega
              simp [e, e2])
        clear hq hx hx2 hl hb1 HD
        go_wp2
        go_roundw
        case rel => exact ⟨k + 1, by omega, by go_num, HR2.out, HB.out.setCell (Nat.le_refl _) _, HD2⟩
        case measure => simp [intOf]; omega
    · obtain rfl : k = N := by omega
      go_wp2
      go_ret
      exact ⟨retB (M.diffB_of (fun i hi => HD.out i (by have := HL.out; omega))).symm, HB.out⟩

set_option maxRecDepth 100000 in
set_option maxHeartbeats 400000 in
theorem sHas (a' : Option Addr) (N cap' : Nat) (l : List Int) (x : Int) (w : World) (h : Ints .i64 w a' N l) :
    Calls Tryz.prog 71 #[.slice a' N cap', .int .i64 x] w fun e w' => e = .returned (.bool (M.hasB l x)) ∧ w = w' := by
  obtain ⟨hl, hm, hr⟩ := h
  unfold maxLen at hm
  have HL := Lib.hid hl
  clear hl
  go_enter Tryz.func71, Tryz.ntmps71
  go_wp2
  go_loop [5] (fun i => ∃ k : Nat, k ≤ N ∧ i = .int .i64 k ∧ Hid (M.hasB (l.take k) x = false)) (fun i => N - (intOf i).toNat)
  case atStart => exact ⟨0, Nat.zero_le _, rfl, rfl⟩
  case round =>
    obtain ⟨k, hk, rfl, HA⟩ := hrel
    by_cases hlt : k < N
    · rcases hr with h0 | ⟨b, off, rfl, hbl, hc⟩
      · omega
      · have hck := hc k hlt
        have hsn := has_snoc l k (by have := HL.out; omega) x
        obtain ⟨y, hy⟩ : ∃ y, y = l.getD k 0 := ⟨_, rfl⟩
        rw [← hy] at hck hsn
        have HY := Lib.hid hy
        have HS := Lib.hid hsn
        clear hc hy hsn
        by_cases hv : y = x
        · subst hv
          have HF : Hid (M.hasB l y = true) := by
            show _ = _
            rw [M.hasB_iff]
            have : k < l.length := by have := HL.out; omega
            have e := HY.out
            simp only [List.getD_eq_getElem?_getD, List.getElem?_eq_getElem this, Option.getD_some] at e
            rw [e]; exact List.getElem_mem this
          go_wp2
          go_ret
          exact ⟨retB HF.out.symm, rfl⟩
        · have HA2 : Hid (M.hasB (l.take (k + 1)) x = false) := by
            show _ = _; rw [HS.out, HA.out]; simp; omega
          have hv2 : (y == x) = false := by simpa using hv
          go_wp2
          go_round
          case rel => exact ⟨k + 1, by omega, by go_num, HA2⟩
          case measure => simp [intOf]; omega
    · have hkn : k = N := by omega
      subst hkn
      have HT : Hid (l.take k = l) := M.take_all l k (by have := HL.out; omega)
      clear hr
      go_wp2
      go_ret
      exact ⟨retB (by have h2 := HA.out; rw [HT.out] at h2; exact h2.symm), rfl⟩
theorem ints_take {w : World} {a : Option Addr} {n : Nat} {l : List Int} (h : Ints .i64 w a n l) (k : Nat) (hk : k ≤ n) : Ints .i64 w a k (l.take k) := by
  obtain ⟨h1, h2, h3⟩ := h
  refine ⟨by rw [List.length_take]; omega, by omega, ?_⟩
  rcases h3 with h0 | ⟨b, off, rfl, hb, hc⟩
  · left; omega
  · right
    refine ⟨b, off, rfl, hb, fun i hi => ?_⟩
    rw [hc i (by omega)]
    simp [List.getD_eq_getElem?_getD, List.getElem?_take, hi]
end Go.Proofs.YthonlfjjgmmnpaaGreat.V

namespace Go.Proofs.YthonlfjjgmmnpaaGreat.V
open Go.RowKit

/-- One integer is appended to an owned list, at a step of a region. -/
theorem step_append1 (w : World) {ops : Array Oper} {o : Oper} {a : Act} {K : Act → World → Prop} {Q : Exit → Act → World → Prop} {E : Prop} (hgd : o.guard = none) (s x : Operand)
    (ho : o.op = .call { callee := .builtin .append, args := #[s, x], argTypes := #[28, 28] }) (B : Nat) (v : Value) (l : List Int) (y : Int) (g n : Nat) (hn : l.length = n) (hs : a.eval s = v) (hown : Own w B v l)
    (hx : a.eval x = .slice (some ⟨g, 0, none⟩) 1 1) (hy : w.cell? ⟨g, 0, none⟩ = some (.int .i64 y)) (hlen : n ≤ 2000000) (hB : B ≤ w.heap.size)
    (h : ∀ b' c' w', Own w' B (.slice b' (n + 1) c') (l ++ [y]) → Below B w w' → K (a.put o.dst (.slice b' (n + 1) c')) w') :
    if Region.wanted o (yielded ops a.tmps) = true then Oper.wp Tryz.prog o a w K Q else E := by
  subst hn
  obtain ⟨i0, hi, hz0, hz1, hz2⟩ := info_parts info64
  refine step_append_lies w hgd s x 28 ho B 2 i0 (.int .i64 0) 1 8 Tryz.underlying28 hi hz0 hz1 hz2 rfl (by decide) v l.length (l.map (Value.int .i64)) hs hown ⟨g, 0, none⟩ 1 1 [.int .i64 y] hx rfl ?c1 ?c2 (by decide) ?c3 ?c4 hB w.heap.size rfl ?_
  case c1 =>
    intro j u hj
    have : j = 0 := by
      cases j with
      | zero => rfl
      | succ j => simp at hj
    subst this
    simp at hj
    subst hj
    exact hy
  case c2 => intro u hu; simp at hu; subst hu; rfl
  case c3 => unfold maxLen; omega
  case c4 => omega
  · intro g' cap' w' hown' hgrow hat hlt
    have ho' : Own w' B (.slice (some ⟨g', 0, none⟩) (l.length + 1) cap') (l ++ [y]) := by
      show w'.ownsRow B _ 1 _ (l ++ [y]).length ((l ++ [y]).map (Value.int .i64))
      simpa using hown'
    exact h _ _ w' ho' ((Below.refl B w).grown hgrow hB (fun k hk => (own_lt hown hk).1))

theorem new_kept {wd w1 : World} {x : Int} (hb : Below (wd.alloc (.cells #[.int .i64 x] 2)).heap.size (wd.alloc (.cells #[.int .i64 x] 2)) w1) : w1.cell? ⟨wd.heap.size, 0, none⟩ = some (.int .i64 x) := by
  rw [hb.cell (p := ⟨wd.heap.size, 0, none⟩) (by simp)]
  simp
set_option maxRecDepth 100000 in
set_option maxHeartbeats 1000000 in
theorem sCycle (a : Option Addr) (n cap : Nat) (R : List (List Int)) (a' : Option Addr) (N cap' : Nat) (l : List Int) (w : World) (h : Sq w a n R) (h' : Ints .i64 w a' N l) (hc1 : N ≤ cap') (hc2 : cap' ≤ maxLen) :
    Calls Tryz.prog 110 #[.slice a n cap, .slice a' N cap'] w fun e w' => e = .returned (.tuple #[.int .i64 (M.cycleR R l).1, .bool (M.cycleR R l).2]) ∧ Below w.heap.size w w' := by
  have HM := Lib.hid hc2
  unfold maxLen at hc2
  have HS := Lib.hid h
  have HI := Lib.hid h'
  have HL := Lib.hid h'.1
  have HR := Lib.hid h.1.1
  obtain ⟨n1, n2⟩ := h.2.2.2
  by_cases h0 : N = 0
  · subst h0
    have HE : Hid (M.cycleR R l = (0, false)) := by show _ = _; unfold M.cycleR M.cycB; rw [HL.out]; simp
    clear h h'
    go_enter Tryz.func110, Tryz.ntmps110
    go_wp2
    go_ret2
    rw [HE.out]
    exact ⟨rfl, Below.refl _ _⟩
  · by_cases hv : M.nodesB n l = true
    · have HV := Lib.hid hv
      have hN : (N == 0) = false := by simpa using h0
      have hN2 : ((N : Int) == 0) = false := by simp; omega
      have hD0 : Hid (∀ i, i < 0 → M.hasB (l.take i) (l.getD i 0) = false) := fun i hi => absurd hi (Nat.not_lt_zero i)
      obtain ⟨b', off', x0, rfl, hd0, hx0, c0⟩ := h'.at 0 (by omega)
      have HD0 := Lib.hid hd0
      clear h h' hv hd0
      go_enter Tryz.func110, Tryz.ntmps110
      go_wp2_with (go_at_call 154; refine (sNodes_b _ n _ _ _ _ l _ true HV.out (by omega) HI.out).mono ?_; rintro e w' ⟨rfl, rfl⟩)
      go_loopw [6] (fun i wr => ∃ k : Nat, k ≤ N ∧ i = .int .i64 k ∧ Hid (∀ i, i < k → M.hasB (l.take i) (l.getD i 0) = false) ∧ ∃ q, wr = w.drewN q) (fun i _ => N - (intOf i).toNat)
      case atStart => exact ⟨0, Nat.zero_le _, rfl, hD0, 0, rfl⟩
      case round =>
        obtain ⟨k, hk, rfl, HD, q2, rfl⟩ := hrel
        clear hD0
        by_cases hlt : k < N
        · have hki : (k : Int) < (N : Int) := by omega
          have hkc : k ≤ cap' := by omega
          obtain ⟨d, od, x, hdd, hd, hx, c1⟩ := HI.out.at k hlt
          injection hdd with hdd
          injection hdd with e1 e2
          subst e1 e2
          obtain ⟨q, hq⟩ : ∃ q, q = M.hasB (l.take k) x := ⟨_, rfl⟩
          have HQ := Lib.hid hq
          have HX := Lib.hid hx
          have HC : ∀ q3, Calls Tryz.prog 71 #[.slice (some ⟨b', off', none⟩) k cap', .int .i64 x] (w.drewN q3) fun e w' => e = .returned (.bool q) ∧ w.drewN q3 = w' := by
            intro q3
            rw [HQ.out]
            exact sHas _ _ _ _ _ _ (ints_take (HI.out.below (b_draws w _)) k (by omega))
          clear hq hx hd
          cases q with
          | true =>
            have HF : Hid (M.cycleR R l = (0, false)) := by
              show _ = _; unfold M.cycleR M.cycB
              rw [M.diffB_f (i := k) (by have := HL.out; omega) (by rw [← HX.out]; exact HQ.out.symm)]; simp
            go_wp2
            go_quiet ((go_at_call 71; exact q_more_s (HC _)))
            go_wp2
            go_ret2
            rw [HF.out]
            exact ⟨rfl, below_drewN (b_draws _ _) _⟩
          | false =>
            have HD2 : Hid (∀ i, i < k + 1 → M.hasB (l.take i) (l.getD i 0) = false) := fun i hi => by
              by_cases e : i = k
              · subst e; rw [← HX.out]; exact HQ.out.symm
              · exact HD.out i (by omega)
            go_wp2
            go_quiet ((go_at_call 71; exact q_more_s (HC _)))
            go_wp2
            go_roundw
            case rel => exact ⟨k + 1, by omega, by go_num, HD2, _, rfl⟩
            case measure => simp [intOf]; omega
        · obtain rfl : k = N := by omega
          have hdf : M.diffB l = true := M.diffB_of (fun i hi => HD.out i (by have := HL.out; omega))
          have HDF := Lib.hid hdf
          have hN10 := M.diffB_len HV.out hdf
          rw [HL.out] at hN10
          clear hdf
          obtain ⟨wq, hwq⟩ : ∃ wq, wq = w.drewN q2 := ⟨_, rfl⟩
          have HIq : Hid (Ints .i64 wq.drew (some ⟨b', off', none⟩) k l) := by show Ints _ _ _ _ _; rw [hwq]; exact HI.out.below (b_draws _ _).drew
          have HBq : Hid (Below w.heap.size w wq.drew) := by show Below _ _ _; rw [hwq]; exact (b_draws _ _).drew
          have hcq : wq.cell? ⟨b', off', none⟩ = some (.int .i64 x0) := by rw [hwq]; simpa using c0
          have hbq : b' < wq.heap.size := by rw [hwq]; exact HD0.out
          have HX0 := Lib.hid hx0
          have HN1 : Hid (M.nodesB n (l ++ [x0]) = true) := by
            show _ = _
            have h1 := M.nodesB_at HV.out (k := 0) (by have := HL.out; omega)
            unfold M.nodesB
            rw [List.all_append]
            have e1 : l.all (M.inN n) = true := HV.out
            have e2 : M.inN n x0 = true := by rw [hx0]; unfold M.inN; rw [decide_eq_true h1.1, decide_eq_true h1.2]; rfl
            rw [e1]
            simp [e2]
          rw [← hwq]
          have hk0 : (0 : Int) < (k : Int) := by omega
          have hk00 : 0 < k := by omega
          have hbw : b' < w.heap.size := HD0.out
          have hz : w.heap.size ≤ wq.drew.heap.size := HBq.out.size
          have hz2 : w.heap.size ≤ wq.heap.size := hz
          have HBa : Hid (Below w.heap.size w (wq.alloc (.cells #[.int .i64 x0] 2)).drew) := (HBq.out.alloc hz (.cells #[.int .i64 x0] 2))
          have hz4 : w.heap.size ≤ (wq.alloc (.cells #[.int .i64 x0] 2)).drew.heap.size := HBa.out.size
          obtain ⟨r, hr⟩ : ∃ r, r = M.walkR R (l ++ [x0]) := ⟨_, rfl⟩
          have HW := Lib.hid hr
          have HF : Hid (M.cycleR R l = r) := by
            show _ = _
            have e := M.around_snoc R l (by have := HL.out; omega)
            rw [← hx0] at e
            rw [hr]
            unfold M.cycleR M.walkR M.cycB
            rw [e, HR.out, HV.out, HDF.out, HL.out]
            by_cases h5 : M.aroundW R l = -1000000000000000
            · simp [h5]
            · have : 1 ≤ k := by omega
              simp [h5, this]
          have HCW : ∀ (b2 : Option Addr) (c2 : Nat) (w2 : World), Below w.heap.size w w2 → Own w2 w.heap.size (.slice b2 (k + 1) c2) (l ++ [x0]) → Calls Tryz.prog 155 #[.slice a n cap, .slice b2 (k + 1) c2] w2 fun e w' => e = .returned (.tuple #[.int .i64 r.1, .bool r.2]) ∧ ∃ q, w' = w2.drewN q := by
            intro b2 c2 w2 hb ho
            rw [hr]
            exact sWalk _ n _ R _ (k + 1) _ (l ++ [x0]) _ (HS.out.below hb) ho.ints' HN1.out (by omega) (by omega)
          clear hwq hx0 c0 HI hr
          go_wp2_with fail
          go_region_held3 (fun w' => w'.cell? ⟨b', off', none⟩ = some (.int .i64 x0))
            (first | go_keep | exact (HB2.out.cell (p := ⟨b', off', none⟩) hbw).trans ‹_› | exact (HB1.out.cell (p := ⟨b', off', none⟩) (by simp; omega)).trans ‹_›)
            (first
              | (go_at_call 59; refine (sOwn _ _ _ l _ ?hh ?h1 ?h2).mono ?_; (case hh => (first | exact HIq.out | exact HIq.out.below (b_alloc _ _))); (case h1 => omega); (case h2 => omega); rintro e w1 ⟨b1, c1, rfl, ho, hb⟩; have HO := Lib.hid ho; have HB1 := Lib.hid hb; have hs1 := hb.size; simp at hs1; clear ho hb)
              | (go_at_call 155; refine (HCW _ _ _ ?hh HO2.out).mono ?_; (case hh => (first | exact ((HBq.out.trans (HB1.out.mono hz)).alloc (Nat.le_trans hz HB1.out.size) _).trans HB2.out | exact (HBa.out.trans (HB1.out.mono hz4)).trans HB2.out)); rintro e w3 ⟨rfl, q3, rfl⟩)
              | (refine step_append1 _ rfl _ _ rfl w.heap.size _ l x0 _ k HL.out rfl ?ho rfl ?hy ?hl ?hb ?_; (case ho => (first | exact HO.out.mono hz | exact HO.out.mono hz4 | exact (HO.out.below (b_alloc _ _)).mono hz)); (case hy => (first | (simp; done) | exact new_kept (wd := wq.drew) HB1.out)); (case hl => omega); (case hb => (first | omega | (simp; omega))); intro b2 c2 w2 ho hb; have HO2 := Lib.hid ho; have HB2 := Lib.hid hb; clear ho hb))
          all_goals
            go_wp2
            go_ret2
            refine ⟨?_, ?_⟩
            · rw [HF.out]; rfl
            · first | exact below_drewN (((HBq.out.trans (HB1.out.mono hz)).alloc (Nat.le_trans hz HB1.out.size) _).trans HB2.out) _ | exact below_drewN ((HBa.out.trans (HB1.out.mono hz4)).trans HB2.out) _
    · simp only [Bool.not_eq_true] at hv
      have HV := Lib.hid hv
      have hN : (N == 0) = false := by simpa using h0
      have hN2 : ((N : Int) == 0) = false := by simp; omega
      have HE : Hid (M.cycleR R l = (0, false)) := by show _ = _; unfold M.cycleR M.cycB; rw [HR.out, HV.out]; simp
      clear h h' hv
      go_enter Tryz.func110, Tryz.ntmps110
      go_wp2_with (go_at_call 154; refine (sNodes_b _ n _ _ _ _ l _ false HV.out (by omega) HI.out).mono ?_; rintro e w' ⟨rfl, rfl⟩)
      go_ret2
      rw [HE.out]
      exact ⟨rfl, Below.refl _ _⟩
end Go.Proofs.YthonlfjjgmmnpaaGreat.V
