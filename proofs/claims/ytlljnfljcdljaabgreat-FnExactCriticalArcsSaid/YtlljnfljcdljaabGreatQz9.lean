/- Texts laid together: SAdd, Pth3, Pth4, Gr1. -/
import Derived.Test.YtlljnfljcdljaabGreatRows
import Derived.Test.YtlljnfljcdljaabGreatQz1
import Derived.Test.YtlljnfljcdljaabGreatQz2
import Derived.WalkKit
import Derived.ProofKit
import Derived.WalkSmall
import Derived.Deep.QuietTactic
import Derived.BigQuiet
import Derived.BigRegion
import Derived.Deep.Draws
import Derived.Lib.Hide
import Derived.OpenShut
import Derived.Deep.OwnRows
import Derived.Test.YtlljnfljcdljaabGreatQz3
import Derived.Test.YtlljnfljcdljaabGreatQz5
import Derived.Test.YtlljnfljcdljaabGreatQz6
import Derived.StillTailTactics
import Derived.Deep.RegionWith
import Derived.Deep.RegionHeld3
import Derived.IntWalk
import Derived.Test.YtlljnfljcdljaabGreatQz8
import Derived.Test.YtlljnfljcdljaabGreatQz7
import Derived.Deep.AppendLies
set_option linter.unusedSimpArgs false
set_option linter.unusedVariables false
set_option linter.unusedSectionVars false
namespace Go.Proofs.YtlljnfljcdljaabGreat.V
open Go.RowKit

theorem ints_cells {w : World} {b off n : Nat} {l : List Int} (hc : ∀ i, i < n → w.cell? ⟨b, off + i, none⟩ = some (.int .i64 (l.getD i 0))) (hl : l.length = n) : ∀ j u, (l.map (Value.int .i64))[j]? = some u → w.cell? ((⟨b, off, none⟩ : Addr).add j) = some u := by
  intro j u hj
  have hjn : j < n := by
    by_cases e : j < n
    · exact e
    · rw [List.getElem?_eq_none (by simp; omega)] at hj; cases hj
  rw [Go.WideShapes.add_plain, hc j hjn]
  rw [← hj]
  simp [show j < l.length by omega]

set_option maxRecDepth 100000 in
set_option maxHeartbeats 1000000 in
theorem sOwn (a : Option Addr) (n cap : Nat) (l : List Int) (w : World) (h : Ints .i64 w a n l) (h0 : 0 < n) (hn : n ≤ 1000) :
    Calls Tryz.prog 45 #[.slice a n cap] w fun e w' => ∃ b c, e = .returned (.slice b n c) ∧ Own w' w.heap.size (.slice b n c) l ∧ Below w.heap.size w w' := by
  obtain ⟨hl, hm, hr⟩ := h
  rcases hr with hr | ⟨b, off, rfl, hb, hc⟩
  · omega
  have HL := Lib.hid hl
  have HC := Lib.hid hc
  have HO : Hid (Own (w.alloc (.cells #[] 2)) w.heap.size (.slice (some ⟨w.heap.size, 0, none⟩) 0 0) []) := own_lit0 w _ (Nat.le_refl _)
  obtain ⟨i0, hi, hz0, hz1, hz2⟩ := info_parts info64
  clear hl hc hm
  have HI := Lib.hid hi
  clear hi
  go_enter Tryz.func45, Tryz.ntmps45
  go_wp2_with (at_builtin; refine wpList_append_own_at (w := w.alloc (.cells #[] 2)) rfl (.tmp 3) (.tmp 4) 32 rfl w.heap.size 2 i0 (.int .i64 0) 1 8 Tryz.underlying32 HI.out hz0 hz1 hz2 rfl (by decide) (.slice (some ⟨w.heap.size, 0, none⟩) 0 0) 0 [] rfl HO.out ⟨b, off, none⟩ n cap (l.map (Value.int .i64)) rfl ?c0 ?c1 ?c2 ?c3 ?c4 ?c5 ?_)
  case c0 => have := HL.out; simp [this]
  case c1 =>
    refine ints_cells (fun i hi' => ?_) HL.out
    rw [(b_alloc w _).cell (p := ⟨b, off + i, none⟩) hb]; exact HC.out i hi'
  case c2 => intro u hu; obtain ⟨x, _, rfl⟩ := List.mem_map.1 hu; rfl
  case c3 => unfold maxLen; omega
  case c4 => omega
  case c5 => simp
  intro v' w' ho hg hz hv
  have ho' : Own w' w.heap.size v' l := by
    show w'.ownsRow w.heap.size _ 1 v' l.length (l.map (Value.int .i64))
    rw [HL.out]
    simpa using ho
  obtain ⟨b', c', rfl, _⟩ := own_form ho'
  rw [HL.out] at ho' ⊢
  have HB : Hid (Below w.heap.size w w') := (b_alloc w _).grown hg (by simp) (fun k hk => by simp [Value.ownBlock] at hk; omega)
  have HO' := Lib.hid ho'
  clear ho ho' hg hz hv
  go_wp2
  go_ret
  exact ⟨_, _, rfl, HO'.out, HB.out⟩

set_option maxRecDepth 100000 in
set_option maxHeartbeats 1000000 in
theorem sOwnM (a : Option Addr) (n cap : Nat) (R : List (List Int)) (w : World) (h : Mat w a n R) (hn : n ≤ 1000) (h0 : ∀ i, i < n → 0 < (R.getD i []).length ∧ (R.getD i []).length ≤ 1000) :
    Calls Tryz.prog 81 #[.slice a n cap] w (MPost n R w) := by
  have HA := Lib.hid h
  have HL := Lib.hid h.1
  have H0 := Lib.hid h0
  have hO0 : Hid (OwnM (w.alloc (.cells #[] 32)) w.heap.size (.slice (some ⟨w.heap.size, 0, none⟩) 0 0) []) := ownM_lit0 w _ (Nat.le_refl _)
  clear h h0
  go_enter Tryz.func81, Tryz.ntmps81
  go_wp2
  go_loopw [3, 4] (fun out i wr => ∃ k : Nat, k ≤ n ∧ i = .int .i64 k ∧ ∃ b c, out = .slice b k c ∧ OwnM wr w.heap.size (.slice b k c) (R.take k) ∧ Below w.heap.size w wr) (fun _ i _ => n - (intOf i).toNat)
  case atStart => exact ⟨0, Nat.zero_le _, rfl, _, _, rfl, hO0.out, b_alloc _ _⟩
  case round =>
    obtain ⟨k, hk, rfl, b, c, rfl, hO, hb⟩ := hrel
    have HO := Lib.hid hO
    have HB := Lib.hid hb
    clear hO hb hO0
    by_cases hlt : k < n
    · have hki : (k : Int) < (n : Int) := by omega
      obtain ⟨d, od, ra, rc, L, l, rfl, -, hl, hc, hI⟩ := (HA.out.below HB.out).at k hlt
      have hz := H0.out k hlt
      rw [← hl, hI.1] at hz
      obtain ⟨z1, z2⟩ := hz
      have HI := Lib.hid hI
      have HLl := Lib.hid hl
      clear hI hl
      go_wp2_with fail
      refine (sOwn _ _ _ l _ HI.out z1 z2).mono ?_
      rintro e w1 ⟨b1, c1, rfl, ho1, hb1⟩
      have HO1 := Lib.hid ho1
      have HB1 := Lib.hid hb1
      clear ho1 hb1
      have hs1 := HB.out.size
      have hlen := HO.out.len
      have HLn := Lib.hid hlen
      clear hlen
      go_wp2_with (at_builtin; refine appendRow wr _ rfl (.tmp 12) (.tmp 18) rfl w.heap.size _ _ _ _ k HO.out.len.symm rfl HO.out HB1.out HO1.out rfl (by rw [← HLn.out]; omega) hs1 ?_)
      intro b2 c2 w2 hO2 hb2 _
      have HO2 : Hid (OwnM w2 w.heap.size (.slice b2 (k + 1) c2) (R.take (k + 1))) := by
        show OwnM _ _ _ _
        rw [List.take_succ_eq_append_getElem (by have := HL.out; omega)]
        rw [HLl.out] at hO2
        simpa [show k < R.length by have := HL.out; omega] using hO2
      have HB2 := Lib.hid (HB.out.trans ((HB1.out.mono hs1).trans hb2))
      clear hO2 hb2
      go_wp2
      go_roundw
      case rel => exact ⟨k + 1, by omega, by go_num, _, _, rfl, HO2.out, HB2.out⟩
      case measure => simp [intOf]; omega
    · obtain rfl : k = n := by omega
      have hO2 := HO.out
      rw [List.take_of_length_le (by have := HL.out; omega)] at hO2
      have HO2 := Lib.hid hO2
      clear hO2
      go_wp2
      go_ret
      exact ⟨_, _, rfl, HO2.out, HB.out⟩

set_option maxRecDepth 100000 in
set_option maxHeartbeats 4000000 in
theorem sAddB (a : Option Addr) (n cap : Nat) (R : List (List Int)) (a' : Option Addr) (cap' : Nat) (R' : List (List Int)) (L : Nat) (w : World) (h : Mat w a n R) (h' : Mat w a' n R') (hr : Rect R n L) (hr' : Rect R' n L) (m1 : 1 ≤ n) (m2 : n ≤ 10) (c1 : 1 ≤ L) (c2 : L ≤ 10) :
    Calls Tryz.prog 83 #[.slice a n cap, .slice a' n cap'] w (MPost n (M.mk n L (fun i j => max (M.ent R i j) (M.ent R' i j))) w) := by
  have HA := Lib.hid h
  have HA' := Lib.hid h'
  have HL := Lib.hid h.1
  have HL' := Lib.hid h'.1
  have HR := Lib.hid hr
  have HR' := Lib.hid hr'
  have HE : Hid (R = M.mk n L (M.ent R)) := by
    show _ = _
    rw [← hr.1]
    exact (M.mk_self R L (fun i hi => hr.2 i (by rw [← hr.1]; exact hi))).symm
  have H0 : Hid (∀ i, i < n → 0 < (R.getD i []).length ∧ (R.getD i []).length ≤ 1000) := fun i hi => by
    rw [hr.2 i hi]; omega
  clear h h' hr hr'
  go_enter Tryz.func83, Tryz.ntmps83
  go_wp2_with fail
  refine (sOwnM _ _ _ R _ HA.out (by omega) H0.out).mono ?_
  rintro e w1 ⟨a2, cap2, rfl, ho, hb⟩
  have hO0 : OwnM w1 w.heap.size (.slice a2 n cap2) (M.mk n L (fun i j => if i < 0 then max (M.ent R i j) (M.ent R' i j) else M.ent R i j)) := by
    rw [HE.out] at ho
    exact (congrArg (OwnM _ _ _) (M.mk_congr fun i _ j _ => by rw [if_neg (Nat.not_lt_zero i)])).mp ho
  have HO0 := Lib.hid hO0
  have HB0 := Lib.hid hb
  clear ho hb hO0
  go_wp2
  go_loopw [6] (fun i wr => ∃ k : Nat, k ≤ n ∧ i = .int .i64 k ∧ OwnM wr w.heap.size (.slice a2 n cap2) (M.mk n L (fun i j => if i < k then max (M.ent R i j) (M.ent R' i j) else M.ent R i j)) ∧ Below w.heap.size w wr) (fun i _ => n - (intOf i).toNat)
  case atStart => exact ⟨0, Nat.zero_le _, rfl, HO0.out, HB0.out⟩
  case round =>
    obtain ⟨k, hk, rfl, hO, hb⟩ := hrel
    obtain ⟨wo, rfl⟩ : ∃ x, x = wr := ⟨_, rfl⟩
    have HO := Lib.hid hO
    have HB := Lib.hid hb
    clear hO hb HO0 HB0
    by_cases hlt : k < n
    · have hki : (k : Int) < (n : Int) := by omega
      have HO2 : Hid (OwnM wo w.heap.size (.slice a2 n cap2) (M.mk n L (fun i j => if i < k ∨ (i = k ∧ j < 0) then max (M.ent R i j) (M.ent R' i j) else M.ent R i j))) :=
        (congrArg (OwnM _ _ _) (M.mk_congr fun i _ j _ => by
          by_cases e : i < k
          · rw [if_pos e, if_pos (.inl e)]
          · rw [if_neg e, if_neg (by omega)])).mp HO.out
      go_wp2
      go_loopw [7] (fun j wr => ∃ t : Nat, t ≤ L ∧ j = .int .i64 t ∧ OwnM wr w.heap.size (.slice a2 n cap2) (M.mk n L (fun i j => if i < k ∨ (i = k ∧ j < t) then max (M.ent R i j) (M.ent R' i j) else M.ent R i j)) ∧ Below w.heap.size w wr) (fun j _ => L - (intOf j).toNat)
      case atStart => exact ⟨0, Nat.zero_le _, rfl, HO2.out, HB.out⟩
      case round =>
        obtain ⟨t, ht, rfl, hO, hb⟩ := hrel
        have HOi := Lib.hid hO
        have HBi := Lib.hid hb
        clear hO hb HO2 HB HO
        by_cases htl : t < L
        · have hti : (t : Int) < (L : Int) := by omega
          have hkR' : k < R'.length := by have := HL'.out; omega
          obtain ⟨g, q, L3, c3, x3, rfl, hg3, hq3, hL3, hx3, c31, c32, f31, ho3⟩ := HOi.out.at k t hlt (by rw [M.mk_rowlen _ _ _ _ hlt]; exact htl)
          rw [M.mk_rowlen _ _ _ _ hlt] at hL3
          subst hL3
          obtain ⟨d, od, rd', ro', L5, c5, x5, rfl, hL5, hx5, c51, c52⟩ := (HA'.out.below HBi.out).ent k t hlt (by rw [HR'.out.2 k hlt]; exact htl)
          rw [HR'.out.2 k hlt] at hL5
          subst hL5
          rw [M.mk_ent _ _ _ _ _ hlt htl, if_neg (by omega)] at hx3
          have HN : Hid (OwnM (wr.setCell ⟨q, t, none⟩ (.int .i64 (if x3 < x5 then x5 else x3))) w.heap.size (.slice (some ⟨g, 0, none⟩) n cap2) (M.mk n L5 (fun i j => if i < k ∨ (i = k ∧ j < t + 1) then max (M.ent R i j) (M.ent R' i j) else M.ent R i j))) := by
            refine (congrArg (OwnM _ _ _) ?_).mp (ho3 (if x3 < x5 then x5 else x3))
            rw [M.mk_set _ _ _ _ _ _ hlt]
            refine M.mk_congr fun i _ j _ => ?_
            by_cases e : i = k
            · subst e
              rw [if_pos rfl]
              by_cases e2 : j = t
              · subst e2; rw [if_pos rfl, ← M.ifmax, if_pos (.inr ⟨rfl, by omega⟩), hx3, hx5]; rfl
              · rw [if_neg e2]
                by_cases e3 : j < t
                · rw [if_pos (.inr ⟨rfl, e3⟩), if_pos (.inr ⟨rfl, by omega⟩)]
                · rw [if_neg (by omega), if_neg (by omega)]
            · rw [if_neg e]
              by_cases e3 : i < k
              · rw [if_pos (.inl e3), if_pos (.inl e3)]
              · rw [if_neg (by omega), if_neg (by omega)]
          clear ho3 hx3 hx5 hkR'
          go_wp2
          go_still_tail 21, (by kernel_rfl)
          change wpList _ _ _ _ _ wr.drew
          go_wp2
          first
            | exact ⟨⟨t + 1, by omega, by go_num, HN.out.keep (fun _ _ _ => rfl), HBi.out.drew.setCell hq3 _⟩, by simp [intOf]; omega⟩
            | (have HN2 := HN.out
               rw [← M.ifmax] at HN2
               exact ⟨⟨t + 1, by omega, by go_num, HN2.keep (fun _ _ _ => rfl), HBi.out.drew.setCell hq3 _⟩, by simp [intOf]; omega⟩)
        · obtain rfl : t = L := by omega
          have HO2 : Hid (OwnM wr w.heap.size (.slice a2 n cap2) (M.mk n t (fun i j => if i < k + 1 then max (M.ent R i j) (M.ent R' i j) else M.ent R i j))) :=
            (congrArg (OwnM _ _ _) (M.mk_congr fun i _ j hj => by
              by_cases e : i < k + 1
              · rw [if_pos e, if_pos (by omega)]
              · rw [if_neg e, if_neg (by omega)])).mp HOi.out
          obtain ⟨g, o, ra, rc, L3, l3, rfl, -, hl3, hc3, hI3⟩ := HOi.out.mat.at k hlt
          have e3 : L3 = t := by rw [← hI3.1, hl3, M.mk_rowlen _ _ _ _ hlt]
          subst e3
          clear hl3 hI3
          go_wp2
          go_roundw
          case rel => exact ⟨k + 1, by omega, by go_num, HO2.out, HBi.out⟩
          case measure => simp [intOf]; omega
    · obtain rfl : k = n := by omega
      go_wp2
      go_ret
      refine ⟨_, _, rfl, ?_, HB.out⟩
      exact (congrArg (OwnM _ _ _) (M.mk_congr fun i hi j _ => by rw [if_pos hi])).mp HO.out
theorem sAddM (a : Option Addr) (n cap : Nat) (R : List (List Int)) (a' : Option Addr) (n' cap' : Nat) (R' : List (List Int)) (w : World) (h : Mat w a n R) (h' : Mat w a' n' R') (hR : M.isMat R = true) (hR' : M.isMat R' = true) (hl : n = n') (hw : M.wid R = M.wid R') :
    Calls Tryz.prog 83 #[.slice a n cap, .slice a' n' cap'] w (MPost n (M.addM R R') w) := by
  subst hl
  obtain ⟨m1, m2, c1, c2, -, -⟩ := M.isMat_t hR
  have e1 := h.1
  have e2 := h'.1
  have t1 := rect_mat hR
  have t2 := rect_mat hR'
  rw [e1] at t1 m1 m2
  rw [e2, ← hw] at t2
  have := sAddB a n cap R a' cap' R' _ w h h' t1 t2 m1 m2 c1 c2
  unfold M.addM
  rw [e1]
  exact this

end Go.Proofs.YtlljnfljcdljaabGreat.V

namespace Go.Proofs.YtlljnfljcdljaabGreat.V
open Go.RowKit

theorem caps_own {w : World} {B n cap : Nat} {a : Option Addr} {l : List Int} (h : Own w B (.slice a n cap) l) : n ≤ cap ∧ cap ≤ maxLen := by
  obtain ⟨a', c', hv, h1, h2, _⟩ := own_form h
  injection hv with e1 e2 e3
  subst e2 e3
  exact ⟨h1, h2⟩
theorem has_snoc (l : List Int) (k : Nat) (h : k < l.length) (x : Int) : M.hasB (l.take (k + 1)) x = (M.hasB (l.take k) x || decide (x = l.getD k 0)) := by
  rw [M.take_snoc l k h, Bool.eq_iff_iff]
  simp [M.hasB, List.contains_iff_mem]

set_option maxRecDepth 100000 in
set_option maxHeartbeats 1000000 in
theorem areDifferent (n : Nat) (a' : Option Addr) (N cap' : Nat) (l : List Int) (w : World) (h' : Ints .i64 w a' N l) (hv : M.nodesB n l = true) (n2 : n ≤ 10) :
    Calls Tryz.prog 50 #[.slice a' N cap'] w fun e w' => e = .returned (.bool (M.diffB l)) ∧ Below w.heap.size w w' := by
  have HI := Lib.hid h'
  have HV := Lib.hid hv
  have HL := Lib.hid h'.1
  have hm := h'.2.1
  unfold maxLen at hm
  have hr0 : Hid ((w.alloc (.cells #[.bool false, .bool false, .bool false, .bool false, .bool false, .bool false, .bool false, .bool false, .bool false, .bool false] 97)).rowIs w.heap.size 97 10 (fun s => .bool (M.hasB (l.take 0) (s : Int)))) :=
    World.rowIs_alloc w _ _ _ (fun i hi => by
      have : i = 0 ∨ i = 1 ∨ i = 2 ∨ i = 3 ∨ i = 4 ∨ i = 5 ∨ i = 6 ∨ i = 7 ∨ i = 8 ∨ i = 9 := by simp at hi; omega
      rcases this with rfl | rfl | rfl | rfl | rfl | rfl | rfl | rfl | rfl | rfl <;> rfl)
  have hb0 : Hid (Below w.heap.size w (w.alloc (.cells #[.bool false, .bool false, .bool false, .bool false, .bool false, .bool false, .bool false, .bool false, .bool false, .bool false] 97))) := b_alloc w _
  have hd0 : Hid (∀ i, i < 0 → M.hasB (l.take i) (l.getD i 0) = false) := fun i hi => absurd hi (Nat.not_lt_zero i)
  clear h' hv
  go_enter Tryz.func50, Tryz.ntmps50
  go_wp2
  go_loopw [5, 8] (fun _ i wr => ∃ k : Nat, k ≤ N ∧ i = .int .i64 k ∧ wr.rowIs w.heap.size 97 10 (fun s => .bool (M.hasB (l.take k) (s : Int))) ∧ Below w.heap.size w wr ∧ Hid (∀ i, i < k → M.hasB (l.take i) (l.getD i 0) = false)) (fun _ i _ => N - (intOf i).toNat)
  case atStart => exact ⟨0, Nat.zero_le _, rfl, hr0.out, hb0.out, hd0⟩
  case round =>
    obtain ⟨k, hk, rfl, hR, hB, HD⟩ := hrel
    have HR := Lib.hid hR
    have HB := Lib.hid hB
    clear hR hB hr0 hb0 hd0
    by_cases hlt : k < N
    · have hki : (k : Int) < (N : Int) := by omega
      have hl := HL.out
      obtain ⟨b', off', x, rfl, hd, hx, c1⟩ := (HI.out.below HB.out).at k hlt
      have hb1 := M.nodesB_at HV.out (k := k) (by omega)
      have hv1 : x = ((M.vx l k : Nat) : Int) := by rw [hx]; unfold M.vx; omega
      have hw1 := M.vx_lt HV.out (k := k) (by omega)
      have hx2 : ((M.vx l k : Nat) : Int) = l.getD k 0 := by rw [← hv1, hx]
      generalize M.vx l k = u at hv1 hw1 hx2
      subst hv1
      have hu : u < 10 := by omega
      have hu2 : (u : Int) < 10 := by omega
      obtain ⟨q, hq⟩ : ∃ q, q = M.hasB (l.take k) (u : Int) := ⟨_, rfl⟩
      have hc := HR.out.cell (i := u) hu
      rw [← hq] at hc
      have hf := HR.out.frozen u
      cases q with
      | true =>
        have HF : Hid (M.diffB l = false) := M.diffB_f (i := k) (by omega) (by rw [← hx2]; exact hq.symm)
        clear hq hx hx2 hl hb1
        go_wp2
        go_ret
        exact ⟨retB HF.out.symm, HB.out⟩
      | false =>
        have HD2 : Hid (∀ i, i < k + 1 → M.hasB (l.take i) (l.getD i 0) = false) := fun i hi => by
          by_cases e : i = k
          · subst e; rw [← hx2]; exact hq.symm
          · exact HD.out i (by omega)
        have HR2 : Hid ((wr.setCell ⟨w.heap.size, u, none⟩ (.bool true)).rowIs w.heap.size 97 10 (fun s => .bool (M.hasB (l.take (k + 1)) (s : Int)))) :=
          (HR.out.set u (.bool true)).congr (fun s hs => by
            have := has_snoc l k (by have := HL.out; omega) (s : Int)
            show (if s = u then Value.bool true else Value.bool (M.hasB (l.take k) (s : Int))) = Value.bool (M.hasB (l.take (k + 1)) (s : Int))
            rw [this, ← hx2]
            by_cases e : s = u
            · subst e; simp
            · have e2 : ¬ ((s : Int) = (u : Int)) := by omega
              simp [e, e2])
        clear hq hx hx2 hl hb1 HD
        go_wp2
        go_roundw
        case rel => exact ⟨k + 1, by omega, by go_num, HR2.out, HB.out.setCell (Nat.le_refl _) _, HD2⟩
        case measure => simp [intOf]; omega
    · obtain rfl : k = N := by omega
      go_wp2
      go_ret
      exact ⟨retB (M.diffB_of (fun i hi => HD.out i (by have := HL.out; omega))).symm, HB.out⟩

set_option maxRecDepth 100000 in
set_option maxHeartbeats 400000 in
theorem sHas (a' : Option Addr) (N cap' : Nat) (l : List Int) (x : Int) (w : World) (h : Ints .i64 w a' N l) :
    Calls Tryz.prog 69 #[.slice a' N cap', .int .i64 x] w fun e w' => e = .returned (.bool (M.hasB l x)) ∧ w = w' := by
  obtain ⟨hl, hm, hr⟩ := h
  unfold maxLen at hm
  have HL := Lib.hid hl
  clear hl
  go_enter Tryz.func69, Tryz.ntmps69
  go_wp2
  go_loop [5] (fun i => ∃ k : Nat, k ≤ N ∧ i = .int .i64 k ∧ Hid (M.hasB (l.take k) x = false)) (fun i => N - (intOf i).toNat)
  case atStart => exact ⟨0, Nat.zero_le _, rfl, rfl⟩
  case round =>
    obtain ⟨k, hk, rfl, HA⟩ := hrel
    by_cases hlt : k < N
    · rcases hr with h0 | ⟨b, off, rfl, hbl, hc⟩
      · omega
      · have hck := hc k hlt
        have hsn := has_snoc l k (by have := HL.out; omega) x
        obtain ⟨y, hy⟩ : ∃ y, y = l.getD k 0 := ⟨_, rfl⟩
        rw [← hy] at hck hsn
        have HY := Lib.hid hy
        have HS := Lib.hid hsn
        clear hc hy hsn
        by_cases hv : y = x
        · subst hv
          have HF : Hid (M.hasB l y = true) := by
            show _ = _
            rw [M.hasB_iff]
            have : k < l.length := by have := HL.out; omega
            have e := HY.out
            simp only [List.getD_eq_getElem?_getD, List.getElem?_eq_getElem this, Option.getD_some] at e
            rw [e]; exact List.getElem_mem this
          go_wp2
          go_ret
          exact ⟨retB HF.out.symm, rfl⟩
        · have HA2 : Hid (M.hasB (l.take (k + 1)) x = false) := by
            show _ = _; rw [HS.out, HA.out]; simp; omega
          have hv2 : (y == x) = false := by simpa using hv
          go_wp2
          go_round
          case rel => exact ⟨k + 1, by omega, by go_num, HA2⟩
          case measure => simp [intOf]; omega
    · have hkn : k = N := by omega
      subst hkn
      have HT : Hid (l.take k = l) := M.take_all l k (by have := HL.out; omega)
      clear hr
      go_wp2
      go_ret
      exact ⟨retB (by have h2 := HA.out; rw [HT.out] at h2; exact h2.symm), rfl⟩
theorem ints_take {w : World} {a : Option Addr} {n : Nat} {l : List Int} (h : Ints .i64 w a n l) (k : Nat) (hk : k ≤ n) : Ints .i64 w a k (l.take k) := by
  obtain ⟨h1, h2, h3⟩ := h
  refine ⟨by rw [List.length_take]; omega, by omega, ?_⟩
  rcases h3 with h0 | ⟨b, off, rfl, hb, hc⟩
  · left; omega
  · right
    refine ⟨b, off, rfl, hb, fun i hi => ?_⟩
    rw [hc i (by omega)]
    simp [List.getD_eq_getElem?_getD, List.getElem?_take, hi]
end Go.Proofs.YtlljnfljcdljaabGreat.V

namespace Go.Proofs.YtlljnfljcdljaabGreat.V
open Go.RowKit

/-- One integer is appended to an owned list, at a step of a region. -/
theorem step_append1 (w : World) {ops : Array Oper} {o : Oper} {a : Act} {K : Act → World → Prop} {Q : Exit → Act → World → Prop} {E : Prop} (hgd : o.guard = none) (s x : Operand)
    (ho : o.op = .call { callee := .builtin .append, args := #[s, x], argTypes := #[32, 32] }) (B : Nat) (v : Value) (l : List Int) (y : Int) (g n : Nat) (hn : l.length = n) (hs : a.eval s = v) (hown : Own w B v l)
    (hx : a.eval x = .slice (some ⟨g, 0, none⟩) 1 1) (hy : w.cell? ⟨g, 0, none⟩ = some (.int .i64 y)) (hlen : n ≤ 2000000) (hB : B ≤ w.heap.size)
    (h : ∀ b' c' w', Own w' B (.slice b' (n + 1) c') (l ++ [y]) → Below B w w' → K (a.put o.dst (.slice b' (n + 1) c')) w') :
    if Region.wanted o (yielded ops a.tmps) = true then Oper.wp Tryz.prog o a w K Q else E := by
  subst hn
  obtain ⟨i0, hi, hz0, hz1, hz2⟩ := info_parts info64
  refine step_append_lies w hgd s x 32 ho B 2 i0 (.int .i64 0) 1 8 Tryz.underlying32 hi hz0 hz1 hz2 rfl (by decide) v l.length (l.map (Value.int .i64)) hs hown ⟨g, 0, none⟩ 1 1 [.int .i64 y] hx rfl ?c1 ?c2 (by decide) ?c3 ?c4 hB w.heap.size rfl ?_
  case c1 =>
    intro j u hj
    have : j = 0 := by
      cases j with
      | zero => rfl
      | succ j => simp at hj
    subst this
    simp at hj
    subst hj
    exact hy
  case c2 => intro u hu; simp at hu; subst hu; rfl
  case c3 => unfold maxLen; omega
  case c4 => omega
  · intro g' cap' w' hown' hgrow hat hlt
    have ho' : Own w' B (.slice (some ⟨g', 0, none⟩) (l.length + 1) cap') (l ++ [y]) := by
      show w'.ownsRow B _ 1 _ (l ++ [y]).length ((l ++ [y]).map (Value.int .i64))
      simpa using hown'
    exact h _ _ w' ho' ((Below.refl B w).grown hgrow hB (fun k hk => (own_lt hown hk).1))

theorem new_kept {wd w1 : World} {x : Int} (hb : Below (wd.alloc (.cells #[.int .i64 x] 2)).heap.size (wd.alloc (.cells #[.int .i64 x] 2)) w1) : w1.cell? ⟨wd.heap.size, 0, none⟩ = some (.int .i64 x) := by
  rw [hb.cell (p := ⟨wd.heap.size, 0, none⟩) (by simp)]
  simp
set_option maxRecDepth 100000 in
set_option maxHeartbeats 1000000 in
theorem sCycle (a : Option Addr) (n cap : Nat) (R : List (List Int)) (a' : Option Addr) (N cap' : Nat) (l : List Int) (w : World) (h : Sq w a n R) (h' : Ints .i64 w a' N l) (hc1 : N ≤ cap') (hc2 : cap' ≤ maxLen) :
    Calls Tryz.prog 75 #[.slice a n cap, .slice a' N cap'] w fun e w' => e = .returned (.tuple #[.int .i64 (M.cycleR R l).1, .bool (M.cycleR R l).2]) ∧ Below w.heap.size w w' := by
  have HM := Lib.hid hc2
  unfold maxLen at hc2
  have HS := Lib.hid h
  have HI := Lib.hid h'
  have HL := Lib.hid h'.1
  have HR := Lib.hid h.1.1
  obtain ⟨n1, n2⟩ := h.2.2.2
  by_cases h0 : N = 0
  · subst h0
    have HE : Hid (M.cycleR R l = (0, false)) := by show _ = _; unfold M.cycleR M.cycB; rw [HL.out]; simp
    clear h h'
    go_enter Tryz.func75, Tryz.ntmps75
    go_wp2
    go_ret2
    rw [HE.out]
    exact ⟨rfl, Below.refl _ _⟩
  · by_cases hv : M.nodesB n l = true
    · have HV := Lib.hid hv
      have hN : (N == 0) = false := by simpa using h0
      have hN2 : ((N : Int) == 0) = false := by simp; omega
      have hD0 : Hid (∀ i, i < 0 → M.hasB (l.take i) (l.getD i 0) = false) := fun i hi => absurd hi (Nat.not_lt_zero i)
      obtain ⟨b', off', x0, rfl, hd0, hx0, c0⟩ := h'.at 0 (by omega)
      have HD0 := Lib.hid hd0
      clear h h' hv hd0
      go_enter Tryz.func75, Tryz.ntmps75
      go_wp2_with (go_at_call 103; refine (sNodes_b _ n _ _ _ _ l _ true HV.out (by omega) HI.out).mono ?_; rintro e w' ⟨rfl, rfl⟩)
      go_loopw [6] (fun i wr => ∃ k : Nat, k ≤ N ∧ i = .int .i64 k ∧ Hid (∀ i, i < k → M.hasB (l.take i) (l.getD i 0) = false) ∧ ∃ q, wr = w.drewN q) (fun i _ => N - (intOf i).toNat)
      case atStart => exact ⟨0, Nat.zero_le _, rfl, hD0, 0, rfl⟩
      case round =>
        obtain ⟨k, hk, rfl, HD, q2, rfl⟩ := hrel
        clear hD0
        by_cases hlt : k < N
        · have hki : (k : Int) < (N : Int) := by omega
          have hkc : k ≤ cap' := by omega
          obtain ⟨d, od, x, hdd, hd, hx, c1⟩ := HI.out.at k hlt
          injection hdd with hdd
          injection hdd with e1 e2
          subst e1 e2
          obtain ⟨q, hq⟩ : ∃ q, q = M.hasB (l.take k) x := ⟨_, rfl⟩
          have HQ := Lib.hid hq
          have HX := Lib.hid hx
          have HC : ∀ q3, Calls Tryz.prog 69 #[.slice (some ⟨b', off', none⟩) k cap', .int .i64 x] (w.drewN q3) fun e w' => e = .returned (.bool q) ∧ w.drewN q3 = w' := by
            intro q3
            rw [HQ.out]
            exact sHas _ _ _ _ _ _ (ints_take (HI.out.below (b_draws w _)) k (by omega))
          clear hq hx hd
          cases q with
          | true =>
            have HF : Hid (M.cycleR R l = (0, false)) := by
              show _ = _; unfold M.cycleR M.cycB
              rw [M.diffB_f (i := k) (by have := HL.out; omega) (by rw [← HX.out]; exact HQ.out.symm)]; simp
            go_wp2
            go_quiet ((go_at_call 69; exact q_more_s (HC _)))
            go_wp2
            go_ret2
            rw [HF.out]
            exact ⟨rfl, below_drewN (b_draws _ _) _⟩
          | false =>
            have HD2 : Hid (∀ i, i < k + 1 → M.hasB (l.take i) (l.getD i 0) = false) := fun i hi => by
              by_cases e : i = k
              · subst e; rw [← HX.out]; exact HQ.out.symm
              · exact HD.out i (by omega)
            go_wp2
            go_quiet ((go_at_call 69; exact q_more_s (HC _)))
            go_wp2
            go_roundw
            case rel => exact ⟨k + 1, by omega, by go_num, HD2, _, rfl⟩
            case measure => simp [intOf]; omega
        · obtain rfl : k = N := by omega
          have hdf : M.diffB l = true := M.diffB_of (fun i hi => HD.out i (by have := HL.out; omega))
          have HDF := Lib.hid hdf
          have hN10 := M.diffB_len HV.out hdf
          rw [HL.out] at hN10
          clear hdf
          obtain ⟨wq, hwq⟩ : ∃ wq, wq = w.drewN q2 := ⟨_, rfl⟩
          have HIq : Hid (Ints .i64 wq.drew (some ⟨b', off', none⟩) k l) := by show Ints _ _ _ _ _; rw [hwq]; exact HI.out.below (b_draws _ _).drew
          have HBq : Hid (Below w.heap.size w wq.drew) := by show Below _ _ _; rw [hwq]; exact (b_draws _ _).drew
          have hcq : wq.cell? ⟨b', off', none⟩ = some (.int .i64 x0) := by rw [hwq]; simpa using c0
          have hbq : b' < wq.heap.size := by rw [hwq]; exact HD0.out
          have HX0 := Lib.hid hx0
          have HN1 : Hid (M.nodesB n (l ++ [x0]) = true) := by
            show _ = _
            have h1 := M.nodesB_at HV.out (k := 0) (by have := HL.out; omega)
            unfold M.nodesB
            rw [List.all_append]
            have e1 : l.all (M.inN n) = true := HV.out
            have e2 : M.inN n x0 = true := by rw [hx0]; unfold M.inN; rw [decide_eq_true h1.1, decide_eq_true h1.2]; rfl
            rw [e1]
            simp [e2]
          rw [← hwq]
          have hk0 : (0 : Int) < (k : Int) := by omega
          have hk00 : 0 < k := by omega
          have hbw : b' < w.heap.size := HD0.out
          have hz : w.heap.size ≤ wq.drew.heap.size := HBq.out.size
          have hz2 : w.heap.size ≤ wq.heap.size := hz
          have HBa : Hid (Below w.heap.size w (wq.alloc (.cells #[.int .i64 x0] 2)).drew) := (HBq.out.alloc hz (.cells #[.int .i64 x0] 2))
          have hz4 : w.heap.size ≤ (wq.alloc (.cells #[.int .i64 x0] 2)).drew.heap.size := HBa.out.size
          obtain ⟨r, hr⟩ : ∃ r, r = M.walkR R (l ++ [x0]) := ⟨_, rfl⟩
          have HW := Lib.hid hr
          have HF : Hid (M.cycleR R l = r) := by
            show _ = _
            have e := M.around_snoc R l (by have := HL.out; omega)
            rw [← hx0] at e
            rw [hr]
            unfold M.cycleR M.walkR M.cycB
            rw [e, HR.out, HV.out, HDF.out, HL.out]
            by_cases h5 : M.aroundW R l = -1000000000000000
            · simp [h5]
            · have : 1 ≤ k := by omega
              simp [h5, this]
          have HCW : ∀ (b2 : Option Addr) (c2 : Nat) (w2 : World), Below w.heap.size w w2 → Own w2 w.heap.size (.slice b2 (k + 1) c2) (l ++ [x0]) → Calls Tryz.prog 104 #[.slice a n cap, .slice b2 (k + 1) c2] w2 fun e w' => e = .returned (.tuple #[.int .i64 r.1, .bool r.2]) ∧ ∃ q, w' = w2.drewN q := by
            intro b2 c2 w2 hb ho
            rw [hr]
            exact sWalk _ n _ R _ (k + 1) _ (l ++ [x0]) _ (HS.out.below hb) ho.ints' HN1.out (by omega) (by omega)
          clear hwq hx0 c0 HI hr
          go_wp2_with fail
          go_region_held3 (fun w' => w'.cell? ⟨b', off', none⟩ = some (.int .i64 x0))
            (first | go_keep | exact (HB2.out.cell (p := ⟨b', off', none⟩) hbw).trans ‹_› | exact (HB1.out.cell (p := ⟨b', off', none⟩) (by simp; omega)).trans ‹_›)
            (first
              | (go_at_call 45; refine (sOwn _ _ _ l _ ?hh ?h1 ?h2).mono ?_; (case hh => (first | exact HIq.out | exact HIq.out.below (b_alloc _ _))); (case h1 => omega); (case h2 => omega); rintro e w1 ⟨b1, c1, rfl, ho, hb⟩; have HO := Lib.hid ho; have HB1 := Lib.hid hb; have hs1 := hb.size; simp at hs1; clear ho hb)
              | (go_at_call 104; refine (HCW _ _ _ ?hh HO2.out).mono ?_; (case hh => (first | exact ((HBq.out.trans (HB1.out.mono hz)).alloc (Nat.le_trans hz HB1.out.size) _).trans HB2.out | exact (HBa.out.trans (HB1.out.mono hz4)).trans HB2.out)); rintro e w3 ⟨rfl, q3, rfl⟩)
              | (refine step_append1 _ rfl _ _ rfl w.heap.size _ l x0 _ k HL.out rfl ?ho rfl ?hy ?hl ?hb ?_; (case ho => (first | exact HO.out.mono hz | exact HO.out.mono hz4 | exact (HO.out.below (b_alloc _ _)).mono hz)); (case hy => (first | (simp; done) | exact new_kept (wd := wq.drew) HB1.out)); (case hl => omega); (case hb => (first | omega | (simp; omega))); intro b2 c2 w2 ho hb; have HO2 := Lib.hid ho; have HB2 := Lib.hid hb; clear ho hb))
          all_goals
            go_wp2
            go_ret2
            refine ⟨?_, ?_⟩
            · rw [HF.out]; rfl
            · first | exact below_drewN (((HBq.out.trans (HB1.out.mono hz)).alloc (Nat.le_trans hz HB1.out.size) _).trans HB2.out) _ | exact below_drewN ((HBa.out.trans (HB1.out.mono hz4)).trans HB2.out) _
    · simp only [Bool.not_eq_true] at hv
      have HV := Lib.hid hv
      have hN : (N == 0) = false := by simpa using h0
      have hN2 : ((N : Int) == 0) = false := by simp; omega
      have HE : Hid (M.cycleR R l = (0, false)) := by show _ = _; unfold M.cycleR M.cycB; rw [HR.out, HV.out]; simp
      clear h h' hv
      go_enter Tryz.func75, Tryz.ntmps75
      go_wp2_with (go_at_call 103; refine (sNodes_b _ n _ _ _ _ l _ false HV.out (by omega) HI.out).mono ?_; rintro e w' ⟨rfl, rfl⟩)
      go_ret2
      rw [HE.out]
      exact ⟨rfl, Below.refl _ _⟩
end Go.Proofs.YtlljnfljcdljaabGreat.V

namespace Go.Proofs.YtlljnfljcdljaabGreat.V
open Go.RowKit

theorem keepg {w0 w w' : World} {B : Nat} {p q : Addr} {x y : Value} (h : w.cell? p = some x ∧ w.cell? q = some y ∧ Below B w0 w) (hp : p.block < B) (hq : q.block < B) (hb : Below B w w') : w'.cell? p = some x ∧ w'.cell? q = some y ∧ Below B w0 w' :=
  ⟨(hb.cell hp).trans h.1, (hb.cell hq).trans h.2.1, h.2.2.trans hb⟩
theorem belowg {w0 w : World} {B : Nat} {P Q : Prop} (h : P ∧ Q ∧ Below B w0 w) : Below B w0 w := h.2.2
set_option maxRecDepth 100000 in
set_option maxHeartbeats 4000000 in
theorem sGrow (a : Option Addr) (n cap : Nat) (R : List (List Int)) (over : Int) (f : Nat) : ∀ (b : Option Addr) (N c : Nat) (p : List Int) (wt : Int) (B : Nat) (w : World), Sq w a n R → Own w B (.slice b N c) p → M.nodesB n p = true → M.diffB p = true → 1 ≤ N → n + 1 ≤ f + N → -1000001000000 * (N : Int) ≤ wt → wt ≤ 1000001000000 * (N : Int) → B ≤ w.heap.size →
    Calls Tryz.prog 102 #[.slice a n cap, .slice b N c, .int .i64 wt, .int .i64 over] w fun e w' => ∃ b' n' c', e = .returned (.slice b' n' c') ∧ Own w' B (.slice b' n' c') (M.grow (M.ent R) n over f p wt) ∧ Below w.heap.size w w' := by
  induction f with
  | zero =>
    intro b N c p wt B w hS hO hn hd h1 hf hw1 hw2 hB
    have := M.diffB_len hn hd
    have := hO.len
    omega
  | succ f IH =>
    intro b N c p wt B w hS hO hn hd h1 hf hw1 hw2 hB
    obtain ⟨N, rfl⟩ : ∃ m, N = m + 1 := ⟨N - 1, by omega⟩
    have HIH := Lib.hid IH
    have hpl : p.length = N + 1 := hO.len.symm
    have hle := M.diffB_len hn hd
    have hn10 := hS.2.2.2.2
    have h0 := M.nodesB_at hn (k := 0) (by omega)
    have hN := M.nodesB_at hn (k := N) (by omega)
    obtain ⟨pb, po, x0, rfl, -, hx0, c0⟩ := hO.ints'.at 0 (by omega)
    obtain ⟨pb2, po2, x1, hpe, -, hx1, c1⟩ := hO.ints'.at N (by omega)
    injection hpe with hpe
    injection hpe with e1 e2 e3
    subst e1 e2
    rw [← hx0] at h0
    rw [← hx1] at hN
    obtain ⟨i, rfl⟩ := Int.eq_ofNat_of_zero_le h0.1
    obtain ⟨j, rfl⟩ := Int.eq_ofNat_of_zero_le hN.1
    have hi : i < n := by omega
    have hj : j < n := by omega
    have hvi : M.vx p 0 = i := by unfold M.vx; rw [← hx0]; simp
    have hvj : M.lastV p = j := by unfold M.lastV M.vx; rw [hpl, Nat.add_sub_cancel, ← hx1]; simp
    obtain ⟨ab, ao, ra, rc, L, lr, rfl, -, hlr, cr, hIr⟩ := hS.1.at i hi
    have hL : L = n := by rw [← hIr.1, hlr]; exact hS.2.1.2 i hi
    subst hL
    obtain ⟨rb, ro, z, rfl, -, hz, cz⟩ := hIr.at j hj
    have hze : z = M.ent R i j := by rw [hz, hlr]; rfl
    have hzs := hS.2.2.1 i j hi hj
    rw [← hze] at hzs
    unfold M.Sm at hzs
    have HS := Lib.hid hS
    have HO := Lib.hid hO
    have HNd := Lib.hid hn
    have HDf := Lib.hid hd
    have HPl := Lib.hid hpl
    have HVi := Lib.hid hvi
    have HVj := Lib.hid hvj
    have ht1 : ((N : Int) + 1 - 1) = (N : Int) := by omega
    have hNb : N ≤ 10 := by omega
    simp only [Nat.add_zero] at c0
    have HC : Hid (M.clB (M.ent R) over p wt = (decide (z ≠ -1000000000000000) && decide (over < wt + z))) := by show _ = _; unfold M.clB; rw [hvi, hvj, ← hze]
    clear hlr hIr hz hze hx0 hx1 h0 hN hvi hvj hn hd IH e3 hpl hS hO
    have HCR := Lib.hid cr
    have HCZ := Lib.hid cz
    clear cr cz
    go_enter Tryz.func102, Tryz.ntmps102
    go_wp2
    go_quiet (fail)
    generalize hwq : World.drewN w _ = wq
    have hbq : Below w.heap.size w wq := by rw [← hwq]; exact b_draws w _
    have cr := (hbq.cell (cell_lt HCR.out)).trans HCR.out
    have cz := (hbq.cell (cell_lt HCZ.out)).trans HCZ.out
    have HBq := Lib.hid hbq
    clear hwq c0 c1 hbq
    by_cases hc : M.clB (M.ent R) over p wt = true
    · have hcc := hc
      rw [HC.out, Bool.and_eq_true, decide_eq_true_eq, decide_eq_true_eq] at hcc
      obtain ⟨g1, g2⟩ := hcc
      have g3 : (z != -1000000000000000) = true := by simpa using g1
      have HG := Lib.hid (M.grow_yes (A := M.ent R) (n := L) (f := f) hc)
      clear hc g1
      go_wp2
      go_ret
      exact ⟨_, _, _, rfl, by rw [HG.out]; exact HO.out.below HBq.out, HBq.out⟩
    · simp only [Bool.not_eq_true] at hc
      have HG := Lib.hid (M.grow_no (A := M.ent R) (n := L) (f := f) hc)
      have hi1 : IntKind.i64.wrap ((i : Int) + 1) = (i : Int) + 1 := IntWalk.i64_in _ (by omega)
      obtain ⟨g, hg⟩ : ∃ g, g = M.stepG (M.ent R) L over f p wt := ⟨_, rfl⟩
      have HGg := Lib.hid hg
      rw [← hg, HVi.out] at HG
      have hgd : z ≠ -1000000000000000 → decide (over < wt + z) = false := fun hz => by
        rw [HC.out] at hc
        simpa [hz] using hc
      clear hc hg
      by_cases hzb : z = -1000000000000000
      · subst hzb
        clear hgd
        go_wp2
        go_loopw [11, 12] (fun v _ wr => ∃ k : Nat, i + 1 ≤ k ∧ k ≤ L ∧ v = .int .i64 k ∧ Hid (M.pick g (L - (i + 1)) (i + 1) = M.pick g (L - k) k) ∧ Below w.heap.size w wr) (fun v _ _ => L - (intOf v).toNat)
        case atStart => exact ⟨i + 1, by omega, by omega, by go_num, rfl, HBq.out⟩
        case round =>
          obtain ⟨k, hk1, hk2, rfl, HK, hb⟩ := hrel
          have HB1 := Lib.hid hb
          have hz1 : w.heap.size ≤ wr.heap.size := hb.size
          clear hb
          by_cases hk : k < L
          · have hki : (k : Int) < (L : Int) := by omega
            obtain ⟨ab', ao', ra', rc', L', lr, e', -, hlr, ck, hIr⟩ := (HS.out.below HB1.out).1.at k hk
            injection e' with e'
            injection e' with e1 e2 e3
            subst e1 e2
            have hL' : L' = L := by rw [← hIr.1, hlr]; exact HS.out.2.1.2 k hk
            subst hL'
            obtain ⟨rb', ro', y, rfl, -, hy, cy⟩ := hIr.at j hj
            have hye : y = M.ent R k j := by rw [hy, hlr]; rfl
            have hys := HS.out.2.2.1 k j hk hj
            rw [← hye] at hys
            unfold M.Sm at hys
            have HYe := Lib.hid hye
            clear hlr hIr hy hye e3
            by_cases hyb : y = -1000000000000000
            · have hg0 : (g k).length = 0 := by rw [HGg.out]; exact M.step_bot (by rw [HVj.out, ← HYe.out]; exact hyb)
              have HKn : Hid (M.pick g (L' - (i + 1)) (i + 1) = M.pick g (L' - (k + 1)) (k + 1)) := HK.out.trans (M.pick_no hk hg0)
              subst hyb
              clear hg0
              go_wp2
              go_roundw
              case rel => exact ⟨k + 1, by omega, by omega, by go_num, HKn, HB1.out⟩
              case measure => simp [intOf]; omega
            · have gy : (y == -1000000000000000) = false := by simpa using hyb
              have HIr := Lib.hid (HO.out.below HB1.out).ints'
              obtain ⟨hb0, hhb⟩ : ∃ hb0, hb0 = M.hasB p (k : Int) := ⟨_, rfl⟩
              have HHb := Lib.hid hhb
              clear hhb
              cases hb0 with
              | true =>
                have hg0 : (g k).length = 0 := by rw [HGg.out]; exact M.step_has HHb.out.symm
                have HKn : Hid (M.pick g (L' - (i + 1)) (i + 1) = M.pick g (L' - (k + 1)) (k + 1)) := HK.out.trans (M.pick_no hk hg0)
                clear hg0
                go_wp2_with (go_at_call 69; refine (sHas _ _ _ p _ _ (by exact HIr.out)).mono ?_; rintro e w' ⟨rfl, rfl⟩; rw [← HHb.out])
                go_roundw
                case rel => exact ⟨k + 1, by omega, by omega, by go_num, HKn, HB1.out⟩
                case measure => simp [intOf]; omega
              | false =>
                obtain ⟨t, ht⟩ : ∃ t, t = M.grow (M.ent R) L' over f (p ++ [(k : Int)]) (wt + y) := ⟨_, rfl⟩
                have HTt := Lib.hid ht
                have HGk : Hid (g k = t) := by show _ = _; rw [HGg.out, M.step_go (by rw [HVj.out, ← HYe.out]; exact hyb) HHb.out.symm, HVj.out, ← HYe.out]; exact ht.symm
                have HN2 := Lib.hid (M.nodesB_snoc HNd.out hk)
                have HD2 := Lib.hid (M.diffB_snoc HDf.out HHb.out.symm)
                have HIq : Hid (Ints .i64 wr.drew (some ⟨pb, po, none⟩) (N + 1) p) := HIr.out.below (Below.refl _ _).drew
                have hwy : IntKind.i64.wrap (wt + y) = wt + y := IntWalk.i64_in _ (by omega)
                have hA := cell_lt ck
                have hBb := cell_lt cy
                clear ht
                go_wp2_with (go_at_call 69; refine (sHas _ _ _ p _ _ (by exact HIr.out)).mono ?_; rintro e w' ⟨rfl, rfl⟩; rw [← HHb.out])
                go_region_held3 (fun w' => w'.cell? ⟨ab, ao + k, none⟩ = some (.slice (some ⟨rb', ro', none⟩) L' rc') ∧ w'.cell? ⟨rb', ro' + j, none⟩ = some (.int .i64 y) ∧ Below wr.heap.size wr w')
                  (first
                    | exact ⟨ck, cy, (Below.refl _ _).drew⟩
                    | exact keepg ‹_ ∧ _ ∧ Below _ _ _› hA hBb HBa.out
                    | exact keepg ‹_ ∧ _ ∧ Below _ _ _› hA hBb (HBo.out.mono (belowg ‹_ ∧ _ ∧ Below _ _ _›).size)
                    | exact keepg ‹_ ∧ _ ∧ Below _ _ _› hA hBb (HBc.out.mono (belowg ‹_ ∧ _ ∧ Below _ _ _›).size)
                    | exact keepg ‹_ ∧ _ ∧ Below _ _ _› hA hBb ((b_alloc _ _).mono (belowg ‹_ ∧ _ ∧ Below _ _ _›).size))
                  (first
                    | (go_at_call 45; refine (sOwn _ _ _ p _ ?hh ?h1 ?h2).mono ?_; (case hh => (first | exact HIq.out | exact HIq.out.below (b_alloc _ _))); (case h1 => omega); (case h2 => omega); rintro e w1 ⟨b1, c1, rfl, ho, hb⟩; have HO1 := Lib.hid ho; have HBo := Lib.hid hb; clear ho hb)
                    | (go_at_call 102; refine (HIH.out _ (N + 1 + 1) _ _ (wt + y) wr.heap.size _ ?hs HO2.out HN2.out HD2.out (by omega) (by omega) (by omega) (by omega) ?hz).mono ?_; (case hs => exact HS.out.below (HB1.out.trans ((belowg ‹_ ∧ _ ∧ Below _ _ _›).mono hz1))); (case hz => exact (belowg ‹_ ∧ _ ∧ Below _ _ _›).size); rintro e w3 ⟨b3, n3, c3, rfl, ho, hb⟩; have HO3 := Lib.hid ho; have HBc := Lib.hid hb; clear ho hb)
                    | (refine step_append1 _ rfl _ _ rfl wr.heap.size _ p (k : Int) _ (N + 1) HPl.out rfl ?ho rfl ?hy ?hl ?hb ?_; (case ho => (first | exact HO1.out.mono (Nat.le_refl _) | exact HO1.out.mono (by simp) | exact (HO1.out.below (b_alloc _ _)).mono (Nat.le_refl _))); (case hy => (first | (simp; done) | exact new_kept (wd := wr.drew) HBo.out)); (case hl => omega); (case hb => exact (belowg ‹_ ∧ _ ∧ Below _ _ _›).size); intro b2 c2 w2 ho hb; have HO2 := Lib.hid ho; have HBa := Lib.hid hb; clear ho hb))
                all_goals
                  have hbz : Below wr.heap.size wr w3 := by
                    first
                      | exact belowg ‹_ ∧ _ ∧ Below _ _ _›
                      | exact (belowg ‹_ ∧ _ ∧ Below wr.heap.size wr w2›).trans (HBc.out.mono (belowg ‹_ ∧ _ ∧ Below wr.heap.size wr w2›).size)
                  have HBz := Lib.hid (HB1.out.trans (hbz.mono hz1))
                  rw [← HTt.out] at HO3
                  have hlt := HO3.out.len
                  clear hbz
                  by_cases hn3 : n3 = 0
                  · subst hn3
                    have HKn : Hid (M.pick g (L' - (i + 1)) (i + 1) = M.pick g (L' - (k + 1)) (k + 1)) := HK.out.trans (M.pick_no hk (by rw [HGk.out]; exact hlt.symm))
                    clear hlt
                    go_wp2
                    go_roundw
                    case rel => exact ⟨k + 1, by omega, by omega, by go_num, HKn, HBz.out⟩
                    case measure => simp [intOf]; omega
                  · have HE : Hid (M.grow (M.ent R) L' over (f + 1) p wt = t) := HG.out.trans (HK.out.trans ((M.pick_yes hk (by rw [HGk.out]; omega)).trans HGk.out))
                    have hn3p : 0 < n3 := by omega
                    clear hlt
                    go_wp2
                    go_ret
                    exact ⟨_, _, _, rfl, by rw [HE.out]; exact HO3.out.mono (Nat.le_trans hB hz1), HBz.out⟩
          · obtain rfl : k = L := by omega
            have HE : Hid (M.grow (M.ent R) k over (f + 1) p wt = []) := HG.out.trans (HK.out.trans M.pick_end)
            go_wp2
            go_ret
            exact ⟨_, _, _, rfl, by rw [HE.out]; exact own_nil _ _, HB1.out⟩
      · have g3 : (z != -1000000000000000) = true := by simpa using hzb
        have g4 := hgd hzb
        clear hgd hzb
        go_wp2
        go_loopw [11, 12] (fun v _ wr => ∃ k : Nat, i + 1 ≤ k ∧ k ≤ L ∧ v = .int .i64 k ∧ Hid (M.pick g (L - (i + 1)) (i + 1) = M.pick g (L - k) k) ∧ Below w.heap.size w wr) (fun v _ _ => L - (intOf v).toNat)
        case atStart => exact ⟨i + 1, by omega, by omega, by go_num, rfl, HBq.out⟩
        case round =>
          obtain ⟨k, hk1, hk2, rfl, HK, hb⟩ := hrel
          have HB1 := Lib.hid hb
          have hz1 : w.heap.size ≤ wr.heap.size := hb.size
          clear hb
          by_cases hk : k < L
          · have hki : (k : Int) < (L : Int) := by omega
            obtain ⟨ab', ao', ra', rc', L', lr, e', -, hlr, ck, hIr⟩ := (HS.out.below HB1.out).1.at k hk
            injection e' with e'
            injection e' with e1 e2 e3
            subst e1 e2
            have hL' : L' = L := by rw [← hIr.1, hlr]; exact HS.out.2.1.2 k hk
            subst hL'
            obtain ⟨rb', ro', y, rfl, -, hy, cy⟩ := hIr.at j hj
            have hye : y = M.ent R k j := by rw [hy, hlr]; rfl
            have hys := HS.out.2.2.1 k j hk hj
            rw [← hye] at hys
            unfold M.Sm at hys
            have HYe := Lib.hid hye
            clear hlr hIr hy hye e3
            by_cases hyb : y = -1000000000000000
            · have hg0 : (g k).length = 0 := by rw [HGg.out]; exact M.step_bot (by rw [HVj.out, ← HYe.out]; exact hyb)
              have HKn : Hid (M.pick g (L' - (i + 1)) (i + 1) = M.pick g (L' - (k + 1)) (k + 1)) := HK.out.trans (M.pick_no hk hg0)
              subst hyb
              clear hg0
              go_wp2
              go_roundw
              case rel => exact ⟨k + 1, by omega, by omega, by go_num, HKn, HB1.out⟩
              case measure => simp [intOf]; omega
            · have gy : (y == -1000000000000000) = false := by simpa using hyb
              have HIr := Lib.hid (HO.out.below HB1.out).ints'
              obtain ⟨hb0, hhb⟩ : ∃ hb0, hb0 = M.hasB p (k : Int) := ⟨_, rfl⟩
              have HHb := Lib.hid hhb
              clear hhb
              cases hb0 with
              | true =>
                have hg0 : (g k).length = 0 := by rw [HGg.out]; exact M.step_has HHb.out.symm
                have HKn : Hid (M.pick g (L' - (i + 1)) (i + 1) = M.pick g (L' - (k + 1)) (k + 1)) := HK.out.trans (M.pick_no hk hg0)
                clear hg0
                go_wp2_with (go_at_call 69; refine (sHas _ _ _ p _ _ (by exact HIr.out)).mono ?_; rintro e w' ⟨rfl, rfl⟩; rw [← HHb.out])
                go_roundw
                case rel => exact ⟨k + 1, by omega, by omega, by go_num, HKn, HB1.out⟩
                case measure => simp [intOf]; omega
              | false =>
                obtain ⟨t, ht⟩ : ∃ t, t = M.grow (M.ent R) L' over f (p ++ [(k : Int)]) (wt + y) := ⟨_, rfl⟩
                have HTt := Lib.hid ht
                have HGk : Hid (g k = t) := by show _ = _; rw [HGg.out, M.step_go (by rw [HVj.out, ← HYe.out]; exact hyb) HHb.out.symm, HVj.out, ← HYe.out]; exact ht.symm
                have HN2 := Lib.hid (M.nodesB_snoc HNd.out hk)
                have HD2 := Lib.hid (M.diffB_snoc HDf.out HHb.out.symm)
                have HIq : Hid (Ints .i64 wr.drew (some ⟨pb, po, none⟩) (N + 1) p) := HIr.out.below (Below.refl _ _).drew
                have hwy : IntKind.i64.wrap (wt + y) = wt + y := IntWalk.i64_in _ (by omega)
                have hA := cell_lt ck
                have hBb := cell_lt cy
                clear ht
                go_wp2_with (go_at_call 69; refine (sHas _ _ _ p _ _ (by exact HIr.out)).mono ?_; rintro e w' ⟨rfl, rfl⟩; rw [← HHb.out])
                go_region_held3 (fun w' => w'.cell? ⟨ab, ao + k, none⟩ = some (.slice (some ⟨rb', ro', none⟩) L' rc') ∧ w'.cell? ⟨rb', ro' + j, none⟩ = some (.int .i64 y) ∧ Below wr.heap.size wr w')
                  (first
                    | exact ⟨ck, cy, (Below.refl _ _).drew⟩
                    | exact keepg ‹_ ∧ _ ∧ Below _ _ _› hA hBb HBa.out
                    | exact keepg ‹_ ∧ _ ∧ Below _ _ _› hA hBb (HBo.out.mono (belowg ‹_ ∧ _ ∧ Below _ _ _›).size)
                    | exact keepg ‹_ ∧ _ ∧ Below _ _ _› hA hBb (HBc.out.mono (belowg ‹_ ∧ _ ∧ Below _ _ _›).size)
                    | exact keepg ‹_ ∧ _ ∧ Below _ _ _› hA hBb ((b_alloc _ _).mono (belowg ‹_ ∧ _ ∧ Below _ _ _›).size))
                  (first
                    | (go_at_call 45; refine (sOwn _ _ _ p _ ?hh ?h1 ?h2).mono ?_; (case hh => (first | exact HIq.out | exact HIq.out.below (b_alloc _ _))); (case h1 => omega); (case h2 => omega); rintro e w1 ⟨b1, c1, rfl, ho, hb⟩; have HO1 := Lib.hid ho; have HBo := Lib.hid hb; clear ho hb)
                    | (go_at_call 102; refine (HIH.out _ (N + 1 + 1) _ _ (wt + y) wr.heap.size _ ?hs HO2.out HN2.out HD2.out (by omega) (by omega) (by omega) (by omega) ?hz).mono ?_; (case hs => exact HS.out.below (HB1.out.trans ((belowg ‹_ ∧ _ ∧ Below _ _ _›).mono hz1))); (case hz => exact (belowg ‹_ ∧ _ ∧ Below _ _ _›).size); rintro e w3 ⟨b3, n3, c3, rfl, ho, hb⟩; have HO3 := Lib.hid ho; have HBc := Lib.hid hb; clear ho hb)
                    | (refine step_append1 _ rfl _ _ rfl wr.heap.size _ p (k : Int) _ (N + 1) HPl.out rfl ?ho rfl ?hy ?hl ?hb ?_; (case ho => (first | exact HO1.out.mono (Nat.le_refl _) | exact HO1.out.mono (by simp) | exact (HO1.out.below (b_alloc _ _)).mono (Nat.le_refl _))); (case hy => (first | (simp; done) | exact new_kept (wd := wr.drew) HBo.out)); (case hl => omega); (case hb => exact (belowg ‹_ ∧ _ ∧ Below _ _ _›).size); intro b2 c2 w2 ho hb; have HO2 := Lib.hid ho; have HBa := Lib.hid hb; clear ho hb))
                all_goals
                  have hbz : Below wr.heap.size wr w3 := by
                    first
                      | exact belowg ‹_ ∧ _ ∧ Below _ _ _›
                      | exact (belowg ‹_ ∧ _ ∧ Below wr.heap.size wr w2›).trans (HBc.out.mono (belowg ‹_ ∧ _ ∧ Below wr.heap.size wr w2›).size)
                  have HBz := Lib.hid (HB1.out.trans (hbz.mono hz1))
                  rw [← HTt.out] at HO3
                  have hlt := HO3.out.len
                  clear hbz
                  by_cases hn3 : n3 = 0
                  · subst hn3
                    have HKn : Hid (M.pick g (L' - (i + 1)) (i + 1) = M.pick g (L' - (k + 1)) (k + 1)) := HK.out.trans (M.pick_no hk (by rw [HGk.out]; exact hlt.symm))
                    clear hlt
                    go_wp2
                    go_roundw
                    case rel => exact ⟨k + 1, by omega, by omega, by go_num, HKn, HBz.out⟩
                    case measure => simp [intOf]; omega
                  · have HE : Hid (M.grow (M.ent R) L' over (f + 1) p wt = t) := HG.out.trans (HK.out.trans ((M.pick_yes hk (by rw [HGk.out]; omega)).trans HGk.out))
                    have hn3p : 0 < n3 := by omega
                    clear hlt
                    go_wp2
                    go_ret
                    exact ⟨_, _, _, rfl, by rw [HE.out]; exact HO3.out.mono (Nat.le_trans hB hz1), HBz.out⟩
          · obtain rfl : k = L := by omega
            have HE : Hid (M.grow (M.ent R) k over (f + 1) p wt = []) := HG.out.trans (HK.out.trans M.pick_end)
            go_wp2
            go_ret
            exact ⟨_, _, _, rfl, by rw [HE.out]; exact own_nil _ _, HB1.out⟩
end Go.Proofs.YtlljnfljcdljaabGreat.V
