/- Texts laid together: Cjc. -/
import Derived.Test.YtlofnadpgnbmdaaGreatQa41
set_option linter.unusedSimpArgs false
set_option linter.unusedVariables false
set_option linter.unusedSectionVars false
namespace Go.Proofs.YtlofnadpgnbmdaaGreat
namespace V
set_option maxRecDepth 100000
open Go.RowKit
set_option maxRecDepth 100000 in
set_option maxHeartbeats 1000000 in
theorem sSums (x : Int) (a : Option Addr) (n cap : Nat) (l : List M.Pc) (N : Nat) (ca : Option Addr) (m cc : Nat) (c : List Int) (w : World) (h : Pls w a n l) (he : M.evOk l N) (hI : Ints .i64 w ca m c) (hc : M.nodesB n c = true) (hm : m ≤ 100) :
    Calls Tryz.prog 79 #[.agg #[.int .i64 x, .slice a n cap], .slice ca m cc] w fun e w' => e = .returned (.tuple #[.int .i64 (M.dlS l c), .int .i64 (M.tkS l c)]) ∧ Below w.heap.size w w' := by
  have HP := Lib.hid h
  have HI := Lib.hid hI
  have hL := h.1
  have HL := Lib.hid hL
  have HM : Hid (c.length = m) := hI.1
  have HE := Lib.hid he
  have HN := Lib.hid hc
  have HBd : Hid (∀ k, k ≤ m → (0 ≤ M.smK (M.dlI l) c k ∧ M.smK (M.dlI l) c k ≤ 1000 * k) ∧ 0 ≤ M.smK (M.tkI l) c k ∧ M.smK (M.tkI l) c k ≤ 5 * k) := fun k hk => by
    subst hL
    exact ⟨M.smK_bd (fun u hu => by have := M.ev_at he hc hu; omega) k (by rw [HM.out]; exact hk), M.smK_bd (fun u hu => by have := M.ev_at he hc hu; omega) k (by rw [HM.out]; exact hk)⟩
  have hb0 := b_alloc w (.cells #[.int .i64 x, .slice a n cap] 26)
  have hG := gBox_new w x a n cap 26
  obtain ⟨wb, hwb⟩ : ∃ z, z = w.alloc (.cells #[.int .i64 x, .slice a n cap] 26) := ⟨_, rfl⟩
  rw [← hwb] at hb0 hG
  have HG := Lib.hid hG
  have HB0 := Lib.hid hb0
  have HWb := Lib.hid hwb.symm
  clear h hI he hc hb0 hG hwb hL
  go_enter Tryz.func79, Tryz.ntmps79
  go_wp2
  rw [HWb.out]
  go_loopw [6, 7, 8] (fun dv mv kv wr => ∃ k : Nat, k ≤ m ∧ kv = .int .i64 k ∧ dv = .int .i64 (M.smK (M.dlI l) c k) ∧ mv = .int .i64 (M.smK (M.tkI l) c k) ∧ Hid (GBox wr w.heap.size x a n cap) ∧ Hid (Below w.heap.size w wr)) (fun _ _ kv _ => m - (intOf kv).toNat)
  case atStart => exact ⟨0, Nat.zero_le _, rfl, rfl, rfl, HG, HB0⟩
  case round =>
    obtain ⟨k, hk, rfl, rfl, rfl, HGr, HB⟩ := hrel
    obtain ⟨wo, rfl⟩ : ∃ x, x = wr := ⟨_, rfl⟩
    by_cases hkm : k < m
    · have hki : (k : Int) < (m : Int) := by omega
      obtain ⟨g0, g1⟩ := HGr.out
      obtain ⟨cb, co, y, rfl, -, hy, cy⟩ := (HI.out.below HB.out).at k hkm
      have hyn := M.nodesB_at HN.out (k := k) (by rw [HM.out]; exact hkm)
      rw [← hy] at hyn
      obtain ⟨i, rfl⟩ := Int.eq_ofNat_of_zero_le hyn.1
      have hin : i < n := by omega
      have hin2 : (i : Int) < (n : Int) := by omega
      obtain ⟨pb, off, p0, p1, p2, p3, rfl, -, hp, c0, c1, c2, c3⟩ := (HP.out.below HB.out).at i hin
      have hd : M.dlI l (c.getD k 0) = p2 := by rw [← hy]; show (l.getD i M.pz).2.2.1 = p2; rw [hp]
      have ht : M.tkI l (c.getD k 0) = p3 := by rw [← hy]; show (l.getD i M.pz).2.2.2 = p3; rw [hp]
      have hpe := HE.out i (by rw [HL.out]; exact hin)
      have hp' : l.getD i M.plz = (p0, p1, p2, p3) := hp
      rw [hp'] at hpe
      have hb1 := HBd.out k hk
      have HD : Hid (M.smK (M.dlI l) c (k + 1) = M.smK (M.dlI l) c k + p2) := by show M.smK (M.dlI l) c k + _ = _; rw [hd]
      have HT : Hid (M.smK (M.tkI l) c (k + 1) = M.smK (M.tkI l) c k + p3) := by show M.smK (M.tkI l) c k + _ = _; rw [ht]
      obtain ⟨D, hD⟩ : ∃ D, D = M.smK (M.dlI l) c k := ⟨_, rfl⟩
      obtain ⟨T, hT⟩ : ∃ T, T = M.smK (M.tkI l) c k := ⟨_, rfl⟩
      rw [← hD] at hb1 HD ⊢
      rw [← hT] at hb1 HT ⊢
      have hk3 : (k : Int) ≤ 100 := by omega
      obtain ⟨⟨d0, d1⟩, t0, t1⟩ := hb1
      obtain ⟨-, -, -, -, e0, e1, e2, e3⟩ := hpe
      have e0 : 0 ≤ p2 := e0
      have e1 : p2 ≤ 1000 := e1
      have e2 : 0 ≤ p3 := e2
      have e3 : p3 ≤ 5 := e3
      have a1 : IntKind.i64.wrap (D + p2) = D + p2 := IntWalk.i64_in _ (by omega)
      have a2 : IntKind.i64.wrap (T + p3) = T + p3 := IntWalk.i64_in _ (by omega)
      clear hD hT hd ht hp hp' hy hyn d0 d1 t0 t1 e0 e1 e2 e3
      go_wp2
      go_region
      all_goals
        go_wp2
        go_region
      all_goals
        go_wp2
        go_roundw
        case rel => exact ⟨k + 1, by omega, by go_num, by rw [HD.out], by rw [HT.out], by first | exact HGr | exact HGr.out.below (Below.refl _ _).drew.drew, HB.out.drew.drew⟩
        case measure => simp [intOf]; omega
    · obtain rfl : k = m := by omega
      have HD2 : Hid (M.smK (M.dlI l) c k = M.dlS l c) := by show _ = _; unfold M.dlS; rw [HM.out]
      have HT2 : Hid (M.smK (M.tkI l) c k = M.tkS l c) := by show _ = _; unfold M.tkS; rw [HM.out]
      go_wp2
      go_ret2
      rw [HD2.out, HT2.out]
      exact ⟨rfl, HB.out⟩
end V
end Go.Proofs.YtlofnadpgnbmdaaGreat
