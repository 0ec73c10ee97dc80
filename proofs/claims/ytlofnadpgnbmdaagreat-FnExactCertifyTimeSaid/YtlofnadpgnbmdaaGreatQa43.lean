/- Texts laid together: Cjd. -/
import Derived.Test.YtlofnadpgnbmdaaGreatQa41
set_option linter.unusedSimpArgs false
set_option linter.unusedVariables false
set_option linter.unusedSectionVars false
namespace Go.Proofs.YtlofnadpgnbmdaaGreat
namespace V
set_option maxRecDepth 100000
open Go.RowKit
set_option maxRecDepth 100000 in
set_option maxHeartbeats 400000 in
theorem tokensOne (G : Nat) (x : Int) (a : Option Addr) (n cap : Nat) (l : List M.Pc) (i : Nat) (w : World) (hG : GBox w G x a n cap) (h : Pls w a n l) (hi : i < n) :
    Calls Tryz.prog 139 #[.int .i64 i, .pointer (some ⟨G, 0, none⟩)] w fun e w' => e = .returned (.int .i64 (M.tkI l i)) ∧ w = w' := by
  obtain ⟨g0, g1⟩ := hG
  obtain ⟨pb, off, p0, p1, p2, p3, rfl, -, hp, c0, c1, c2, c3⟩ := h.at i hi
  have hi2 : (i : Int) < (n : Int) := by omega
  have HF : Hid (M.tkI l (i : Int) = p3) := by show (l.getD i M.pz).2.2.2 = p3; rw [hp]
  clear hp h
  go_enter Tryz.func139, Tryz.ntmps139
  go_wp2
  go_ret
  rw [HF.out]
  exact ⟨rfl, rfl⟩
set_option maxRecDepth 100000 in
set_option maxHeartbeats 1000000 in
theorem tokensSum (G : Nat) (x : Int) (a : Option Addr) (n cap : Nat) (l : List M.Pc) (N : Nat) (ca : Option Addr) (m cc : Nat) (c : List Int) (w : World) (hG : GBox w G x a n cap) (h : Pls w a n l) (he : M.evOk l N) (hI : Ints .i64 w ca m c) (hc : M.nodesB n c = true) (hm : m ≤ 1048576) :
    Calls Tryz.prog 138 #[.slice ca m cc, .func (.func 139) #[] #[.pointer (some ⟨G, 0, none⟩)]] w fun e w' => e = .returned (.int .i64 (M.smK (M.tkI l) c m)) ∧ w = w' := by
  have hL := h.1
  have HM : Hid (c.length = m) := hI.1
  have HN := Lib.hid hc
  have HI := Lib.hid hI
  have HC1 : Hid (∀ i : Nat, i < n → Calls Tryz.prog 139 #[.int .i64 i, .pointer (some ⟨G, 0, none⟩)] w fun e w' => e = .returned (.int .i64 (M.tkI l i)) ∧ w = w') := fun i hi => tokensOne G x a n cap l i w hG h hi
  have HBd : Hid (∀ k, k ≤ m → 0 ≤ M.smK (M.tkI l) c k ∧ M.smK (M.tkI l) c k ≤ 1000 * k) := fun k hk => by
    subst hL
    exact M.smK_bd (fun u hu => by have := M.ev_at he hc hu; omega) k (by rw [HM.out]; exact hk)
  have HV : Hid (∀ i : Nat, i < n → 0 ≤ M.tkI l i ∧ M.tkI l i ≤ 1000) := fun i hi => by
    have := he i (by omega)
    show 0 ≤ (l.getD i M.plz).2.2.2 ∧ (l.getD i M.plz).2.2.2 ≤ 1000
    omega
  clear hG h he hI hc hL
  go_enter Tryz.func138, Tryz.ntmps138
  go_wp2
  go_loopw [5, 7, 10] (fun sv _ kv wr => ∃ k : Nat, k ≤ m ∧ kv = .int .i64 k ∧ sv = .int .i64 (M.smK (M.tkI l) c k) ∧ wr = w) (fun _ _ kv _ => m - (intOf kv).toNat)
  case atStart => exact ⟨0, Nat.zero_le _, rfl, rfl, rfl⟩
  case round =>
    obtain ⟨k, hk, rfl, rfl, rfl⟩ := hrel
    obtain ⟨w, rfl⟩ : ∃ x, x = wr := ⟨_, rfl⟩
    by_cases hkm : k < m
    · have hki : (k : Int) < (m : Int) := by omega
      obtain ⟨cb, co, y, rfl, -, hy, cy⟩ := HI.out.at k hkm
      have hyn := M.nodesB_at HN.out (k := k) (by rw [HM.out]; exact hkm)
      rw [← hy] at hyn
      obtain ⟨i, rfl⟩ := Int.eq_ofNat_of_zero_le hyn.1
      have hin : i < n := by omega
      have hb1 := HBd.out k hk
      have hb2 := HV.out i hin
      have HD : Hid (M.smK (M.tkI l) c (k + 1) = M.smK (M.tkI l) c k + M.tkI l (i : Int)) := by show M.smK (M.tkI l) c k + _ = _; rw [← hy]
      have HC2 := Lib.hid (HC1.out i hin)
      obtain ⟨D, hD⟩ : ∃ D, D = M.smK (M.tkI l) c k := ⟨_, rfl⟩
      obtain ⟨V, hV⟩ : ∃ V, V = M.tkI l (i : Int) := ⟨_, rfl⟩
      rw [← hD] at hb1 HD ⊢
      rw [← hV] at hb2 HD HC2
      have a1 : IntKind.i64.wrap (D + V) = D + V := IntWalk.i64_in _ (by omega)
      clear hD hV hy hyn hb1 hb2
      go_wp2_with fail
      refine HC2.out.mono ?_
      rintro e w' ⟨rfl, rfl⟩
      go_wp2
      go_roundw
      case rel => exact ⟨k + 1, by omega, by go_num, by rw [HD.out], by first | rfl | trivial⟩
      case measure => simp [intOf]; omega
    · obtain rfl : k = m := by omega
      go_wp2
      go_ret
      exact ⟨rfl, rfl⟩
set_option maxRecDepth 100000 in
set_option maxHeartbeats 400000 in
theorem cirtokens (x : Int) (a : Option Addr) (n cap : Nat) (l : List M.Pc) (N : Nat) (ca : Option Addr) (m cc : Nat) (c : List Int) (w : World) (h : Pls w a n l) (he : M.evOk l N) (hI : Ints .i64 w ca m c) (hc : M.nodesB n c = true) (hm : m ≤ 1048576) :
    Calls Tryz.prog 89 #[.slice ca m cc, .agg #[.int .i64 x, .slice a n cap]] w fun e w' => e = .returned (.int .i64 (M.tkS l c)) ∧ Below w.heap.size w w' := by
  have hb0 := b_alloc w (.cells #[.int .i64 x, .slice a n cap] 26)
  have hG := gBox_new w x a n cap 26
  obtain ⟨wb, hwb⟩ : ∃ z, z = w.alloc (.cells #[.int .i64 x, .slice a n cap] 26) := ⟨_, rfl⟩
  rw [← hwb] at hb0 hG
  have HC := Lib.hid (tokensSum w.heap.size x a n cap l N ca m cc c wb hG (h.below hb0) he (hI.below hb0) hc hm)
  have HE : Hid (M.smK (M.tkI l) c m = M.tkS l c) := by show _ = _; unfold M.tkS; rw [hI.1]
  have HB0 := Lib.hid hb0
  have HWb := Lib.hid hwb.symm
  clear h he hI hc hb0 hG hwb
  go_enter Tryz.func89, Tryz.ntmps89
  go_wp2_with fail
  rw [HWb.out]
  refine HC.out.mono ?_
  rintro e w' ⟨rfl, rfl⟩
  go_wp2
  go_ret
  rw [HE.out]
  exact ⟨rfl, HB0.out⟩
set_option maxRecDepth 100000 in
set_option maxHeartbeats 400000 in
theorem delayOne (G : Nat) (x : Int) (a : Option Addr) (n cap : Nat) (l : List M.Pc) (i : Nat) (w : World) (hG : GBox w G x a n cap) (h : Pls w a n l) (hi : i < n) :
    Calls Tryz.prog 151 #[.int .i64 i, .pointer (some ⟨G, 0, none⟩)] w fun e w' => e = .returned (.int .i64 (M.dlI l i)) ∧ w = w' := by
  obtain ⟨g0, g1⟩ := hG
  obtain ⟨pb, off, p0, p1, p2, p3, rfl, -, hp, c0, c1, c2, c3⟩ := h.at i hi
  have hi2 : (i : Int) < (n : Int) := by omega
  have HF : Hid (M.dlI l (i : Int) = p2) := by show (l.getD i M.pz).2.2.1 = p2; rw [hp]
  clear hp h
  go_enter Tryz.func151, Tryz.ntmps151
  go_wp2
  go_ret
  rw [HF.out]
  exact ⟨rfl, rfl⟩
set_option maxRecDepth 100000 in
set_option maxHeartbeats 1000000 in
theorem delaySum (G : Nat) (x : Int) (a : Option Addr) (n cap : Nat) (l : List M.Pc) (N : Nat) (ca : Option Addr) (m cc : Nat) (c : List Int) (w : World) (hG : GBox w G x a n cap) (h : Pls w a n l) (he : M.evOk l N) (hI : Ints .i64 w ca m c) (hc : M.nodesB n c = true) (hm : m ≤ 1048576) :
    Calls Tryz.prog 138 #[.slice ca m cc, .func (.func 151) #[] #[.pointer (some ⟨G, 0, none⟩)]] w fun e w' => e = .returned (.int .i64 (M.smK (M.dlI l) c m)) ∧ w = w' := by
  have hL := h.1
  have HM : Hid (c.length = m) := hI.1
  have HN := Lib.hid hc
  have HI := Lib.hid hI
  have HC1 : Hid (∀ i : Nat, i < n → Calls Tryz.prog 151 #[.int .i64 i, .pointer (some ⟨G, 0, none⟩)] w fun e w' => e = .returned (.int .i64 (M.dlI l i)) ∧ w = w') := fun i hi => delayOne G x a n cap l i w hG h hi
  have HBd : Hid (∀ k, k ≤ m → 0 ≤ M.smK (M.dlI l) c k ∧ M.smK (M.dlI l) c k ≤ 1000 * k) := fun k hk => by
    subst hL
    exact M.smK_bd (fun u hu => by have := M.ev_at he hc hu; omega) k (by rw [HM.out]; exact hk)
  have HV : Hid (∀ i : Nat, i < n → 0 ≤ M.dlI l i ∧ M.dlI l i ≤ 1000) := fun i hi => by
    have := he i (by omega)
    show 0 ≤ (l.getD i M.plz).2.2.1 ∧ (l.getD i M.plz).2.2.1 ≤ 1000
    omega
  clear hG h he hI hc hL
  go_enter Tryz.func138, Tryz.ntmps138
  go_wp2
  go_loopw [5, 7, 10] (fun sv _ kv wr => ∃ k : Nat, k ≤ m ∧ kv = .int .i64 k ∧ sv = .int .i64 (M.smK (M.dlI l) c k) ∧ wr = w) (fun _ _ kv _ => m - (intOf kv).toNat)
  case atStart => exact ⟨0, Nat.zero_le _, rfl, rfl, rfl⟩
  case round =>
    obtain ⟨k, hk, rfl, rfl, rfl⟩ := hrel
    obtain ⟨w, rfl⟩ : ∃ x, x = wr := ⟨_, rfl⟩
    by_cases hkm : k < m
    · have hki : (k : Int) < (m : Int) := by omega
      obtain ⟨cb, co, y, rfl, -, hy, cy⟩ := HI.out.at k hkm
      have hyn := M.nodesB_at HN.out (k := k) (by rw [HM.out]; exact hkm)
      rw [← hy] at hyn
      obtain ⟨i, rfl⟩ := Int.eq_ofNat_of_zero_le hyn.1
      have hin : i < n := by omega
      have hb1 := HBd.out k hk
      have hb2 := HV.out i hin
      have HD : Hid (M.smK (M.dlI l) c (k + 1) = M.smK (M.dlI l) c k + M.dlI l (i : Int)) := by show M.smK (M.dlI l) c k + _ = _; rw [← hy]
      have HC2 := Lib.hid (HC1.out i hin)
      obtain ⟨D, hD⟩ : ∃ D, D = M.smK (M.dlI l) c k := ⟨_, rfl⟩
      obtain ⟨V, hV⟩ : ∃ V, V = M.dlI l (i : Int) := ⟨_, rfl⟩
      rw [← hD] at hb1 HD ⊢
      rw [← hV] at hb2 HD HC2
      have a1 : IntKind.i64.wrap (D + V) = D + V := IntWalk.i64_in _ (by omega)
      clear hD hV hy hyn hb1 hb2
      go_wp2_with fail
      refine HC2.out.mono ?_
      rintro e w' ⟨rfl, rfl⟩
      go_wp2
      go_roundw
      case rel => exact ⟨k + 1, by omega, by go_num, by rw [HD.out], by first | rfl | trivial⟩
      case measure => simp [intOf]; omega
    · obtain rfl : k = m := by omega
      go_wp2
      go_ret
      exact ⟨rfl, rfl⟩
set_option maxRecDepth 100000 in
set_option maxHeartbeats 400000 in
theorem cirdelay (x : Int) (a : Option Addr) (n cap : Nat) (l : List M.Pc) (N : Nat) (ca : Option Addr) (m cc : Nat) (c : List Int) (w : World) (h : Pls w a n l) (he : M.evOk l N) (hI : Ints .i64 w ca m c) (hc : M.nodesB n c = true) (hm : m ≤ 1048576) :
    Calls Tryz.prog 114 #[.slice ca m cc, .agg #[.int .i64 x, .slice a n cap]] w fun e w' => e = .returned (.int .i64 (M.dlS l c)) ∧ Below w.heap.size w w' := by
  have hb0 := b_alloc w (.cells #[.int .i64 x, .slice a n cap] 26)
  have hG := gBox_new w x a n cap 26
  obtain ⟨wb, hwb⟩ : ∃ z, z = w.alloc (.cells #[.int .i64 x, .slice a n cap] 26) := ⟨_, rfl⟩
  rw [← hwb] at hb0 hG
  have HC := Lib.hid (delaySum w.heap.size x a n cap l N ca m cc c wb hG (h.below hb0) he (hI.below hb0) hc hm)
  have HE : Hid (M.smK (M.dlI l) c m = M.dlS l c) := by show _ = _; unfold M.dlS; rw [hI.1]
  have HB0 := Lib.hid hb0
  have HWb := Lib.hid hwb.symm
  clear h he hI hc hb0 hG hwb
  go_enter Tryz.func114, Tryz.ntmps114
  go_wp2_with fail
  rw [HWb.out]
  refine HC.out.mono ?_
  rintro e w' ⟨rfl, rfl⟩
  go_wp2
  go_ret
  rw [HE.out]
  exact ⟨rfl, HB0.out⟩
end V
end Go.Proofs.YtlofnadpgnbmdaaGreat
