/- UpstreamMean, in the program and in the model. -/
import Derived.Test.YtmldjmlihkcchaaReaZ
import Derived.Test.YtmldjmlihkcchaaVisZ
import Derived.Test.YtmldjmlihkcchaaRbt
import Derived.Test.YtmldjmlihkcchaaHv3
import Derived.Test.YtmldjmlihkcchaaRepeat
import Derived.Test.YtmldjmlihkcchaaPowm
import Derived.Test.YtmldjmlihkcchaaBstZ
namespace Go.Proofs.Ytmldjmlihkcchaa
namespace V
set_option maxRecDepth 100000
open Go.RowKit Go.Maps
set_option maxRecDepth 100000 in
set_option maxHeartbeats 2000000 in
theorem upstreamPart (a : Option Addr) (n cap : Nat) (R : List (List Int)) (v : Nat) (w : World) (h : Sq w a n R) (hv : v < n) :
    Calls Try.prog 69 #[.slice a n cap, .int .i64 v] w (MPost n (M.mk n n (M.upF (M.ent R) n v)) w) := by
  have HSq := Lib.hid h
  obtain ⟨n1, n2⟩ := h.2.2.2
  have HK0 : Hid (M.mk n n (M.upK (M.ent R) n v 0) = R) := by
    show _ = _
    have e := M.mk_self R n (fun i hi => h.2.1.2 i (by rw [← h.2.1.1]; exact hi))
    rw [h.2.1.1] at e
    exact (M.mk_congr fun i _ j _ => by unfold M.upK; rw [if_neg (by omega)]).trans e
  clear h
  go_enter Try.func69, Try.ntmps69
  go_wp2_with fail
  refine (reaching _ _ _ R v _ HSq.out hv).mono ?_
  rintro e w1 ⟨mb, rfl, hlo, hst, hb⟩
  have HS1 := Lib.hid hst
  have HB1 := Lib.hid hb
  clear hst hb
  go_wp2_with fail
  refine (copiedMatrix _ _ _ R n _ (HSq.out.1.below HB1.out) HSq.out.2.1 n1 n2 n1 n2).mono ?_
  rintro e w2 ⟨a2, cap2, rfl, hO, hb⟩
  obtain ⟨g, -, -, -, -, hgg, -⟩ := hO.tri HSq.out.2.1 0 0 0 (by omega) (by omega) (by omega)
  subst hgg
  rw [← HK0.out] at hO
  have HO0 := Lib.hid hO
  have HB0 := Lib.hid hb
  clear hO hb
  go_wp2
  go_loopw [7, 8, 16] (fun _ _ i wr => ∃ k : Nat, k ≤ n ∧ i = .int .i64 k ∧ Hid (OwnM wr w1.heap.size (.slice (some ⟨g, 0, none⟩) n cap2) (M.mk n n (M.upK (M.ent R) n v k))) ∧ Hid (Below w1.heap.size w1 wr)) (fun _ _ i _ => n - (intOf i).toNat)
  case atStart => exact ⟨0, Nat.zero_le _, rfl, HO0, HB0⟩
  case round =>
    clear HO0 HB0
    obtain ⟨k, hk, rfl, HO, HB⟩ := hrel
    obtain ⟨wo, rfl⟩ : ∃ x, x = wr := ⟨_, rfl⟩
    by_cases hlt : k < n
    · have hki : (k : Int) < (n : Int) := by omega
      have hlk : (Instr.lookup 123 (.map (some mb)) (.int .i64 (k : Int)) false).run Try.prog wo = .ok (.bool (M.rchB (M.ent R) n k v)) wo := (HS1.out.below HB.out HS1.out.lt).look n2 k hlt
      obtain ⟨g2, q, c, -, -, hgg, hq, hrow, hx0, -, -, -, -, -⟩ := HO.out.tri (rect_mk _ _ _) k 0 0 hlt (by omega) (by omega)
      injection hgg with hgg
      injection hgg with hgg
      subst hgg
      obtain ⟨x, hx⟩ : ∃ x, x = M.rchB (M.ent R) n k v := ⟨_, rfl⟩
      rw [← hx] at hlk
      cases x with
      | true =>
        have HO2 : Hid (OwnM wo w1.heap.size (.slice (some ⟨g, 0, none⟩) n cap2) (M.mk n n (M.upK (M.ent R) n v (k + 1)))) := by
          show OwnM _ _ _ _; rw [← M.upK_same hx.symm]; exact HO.out
        clear hx hx0
        go_wp2
        go_roundw
        case rel => exact ⟨k + 1, by omega, by go_num, HO2, HB⟩
        case measure => simp [intOf]; omega
      | false =>
        have HXf := Lib.hid hx.symm
        have hgl := cell_lt hrow
        have hfz0 := HO.out.outerFz k
        have hgb := HO.out.ge
        obtain ⟨wb, hwb⟩ : ∃ wb, wb = wo.alloc (.cells #[.int .i64 (-1000000000000000)] 2) := ⟨_, rfl⟩
        have HC : Hid (wb.cell? ⟨wo.heap.size, 0, none⟩ = some (.int .i64 (-1000000000000000))) := by show _ = _; rw [hwb]; exact one_lit _ _
        have HBb : Hid (Below wo.heap.size wo wb) := by show Below _ _ _; rw [hwb]; exact b_alloc _ _
        have hzb : wb.heap.size = wo.heap.size + 1 := by rw [hwb]; simp
        clear hx hx0
        go_wp2_with fail
        rw [← hwb]
        clear hwb
        refine (repeat1 wo.heap.size n _ (-1000000000000000) _ n1 n2 HC.out (by omega)).mono ?_
        rintro e w3 ⟨rfl, ho, hb⟩
        have hb3 := HBb.out.trans (hb.mono HBb.out.size)
        have hset := HO.out.setRow hb3 HB.out.size (ho.mono HBb.out.size) k hlt
        rw [M.upK_cut HXf.out] at hset
        have HN := Lib.hid hset
        have HBn := Lib.hid ((HB.out.trans (hb3.mono HB.out.size)).setCell (p := ⟨g, k, none⟩) hgb (.slice (some ⟨wb.heap.size, 0, none⟩) n n))
        have hcell : w3.cell? ⟨g, k, none⟩ = some (.slice (some ⟨q, 0, none⟩) n c) := (hb3.cell (p := ⟨g, k, none⟩) hgl).trans hrow
        have hfz : w3.frozen? ⟨g, k, none⟩ = false := (hb3.frozen (p := ⟨g, k, none⟩) hgl).trans hfz0
        clear ho hb hb3 hset hzb
        go_wp2
        go_roundw
        case rel => exact ⟨k + 1, by omega, by go_num, HN, HBn⟩
        case measure => simp [intOf]; omega
    · obtain rfl : k = n := by omega
      have HO2 : Hid (OwnM wo w1.heap.size (.slice (some ⟨g, 0, none⟩) k cap2) (M.mk k k (M.upF (M.ent R) k v))) := by
        show OwnM _ _ _ _
        rw [M.mk_congr (g := M.upK (M.ent R) k v k) fun i hi j _ => by unfold M.upK; rw [if_pos hi]]; exact HO.out
      go_wp2
      go_ret
      exact ⟨_, _, rfl, HO2.out.mono HB1.out.size, HB1.out.trans (HB.out.mono HB1.out.size)⟩
set_option maxRecDepth 100000 in
set_option maxHeartbeats 1000000 in
theorem upstreamMean (a : Option Addr) (n cap : Nat) (R : List (List Int)) (x : Int) (w : World) (h : Mat w a n R) :
    Calls Try.prog 39 #[.slice a n cap, .int .i64 x] w fun e w' => e = .returned (.tuple #[.agg #[.int .i64 (M.upRes R x).1.1, .int .i64 (M.upRes R x).1.2], .int .i64 (M.upRes R x).2]) ∧ Below w.heap.size w w' := by
  have HA := Lib.hid h
  have HRn := Lib.hid h.1
  by_cases hs : M.sqB R = true
  · have HS := Lib.hid hs
    have HQ := Lib.hid (sq_of h hs)
    obtain ⟨n1, n2⟩ := (sq_of h hs).2.2.2
    have HB0 : Hid (Below w.heap.size w (w.alloc (.cells #[.int .i64 0, .int .i64 0] 27))) := b_alloc _ _
    obtain ⟨c, hc⟩ : ∃ c, c = M.inN n x := ⟨_, rfl⟩
    have hnd : M.nodesB n [x] = M.inN n x := by unfold M.nodesB; simp
    have HC : Hid (M.nodesB n [x] = c) := by show _ = _; rw [hnd, hc]
    have HLit : Hid (∀ wx : World, Ints .i64 (wx.alloc (.cells #[.int .i64 x] 2)) (some ⟨wx.heap.size, 0, none⟩) 1 [x]) := fun wx => (rlit wx wx.heap.size x (Nat.le_refl _)).ints'
    cases c with
    | true =>
      obtain ⟨k, hk, rfl⟩ := M.inN_j hc.symm
      obtain ⟨r, hr⟩ : ∃ r, r = M.cycMeanRes (M.mk n n (M.upF (M.ent R) n k)) := ⟨_, rfl⟩
      have HR := Lib.hid hr.symm
      have HE : Hid (M.upRes R k = r) := by
        show _ = _
        unfold M.upRes
        rw [if_pos hs, h.1, ← hc, if_pos rfl, hr]; rfl
      clear h hs hc hr hnd
      obtain ⟨⟨r1, r2⟩, r3⟩ := r
      go_enter Try.func39, Try.ntmps39
      go_wp2_with fail
      refine (isSquare_b _ _ _ R _ true HS.out (HA.out.below HB0.out)).mono ?_
      rintro e w' ⟨rfl, rfl⟩
      go_wp2_with fail
      refine (areNodes_b _ _ _ _ _ _ [(k : Int)] _ true HC.out (by omega) (by have := HLit.out (w.alloc (.cells #[.int .i64 0, .int .i64 0] 27)); simpa using this)).mono ?_
      rintro e w' ⟨rfl, rfl⟩
      have HB1 : Hid (Below (w.alloc (.cells #[.int .i64 0, .int .i64 0] 27)).heap.size (w.alloc (.cells #[.int .i64 0, .int .i64 0] 27)) ((w.alloc (.cells #[.int .i64 0, .int .i64 0] 27)).alloc (.cells #[.int .i64 (k : Int)] 2))) := b_alloc _ _
      go_wp2_with fail
      refine (upstreamPart _ _ _ R k _ ((HQ.out.below HB0.out).below HB1.out) hk).mono ?_
      rintro e w1 ⟨b1, c1, rfl, ho, hb⟩
      have HO := Lib.hid ho
      have HB2 := Lib.hid (HB1.out.trans (hb.mono HB1.out.size))
      clear ho hb
      go_wp2_with fail
      refine (cycleMean _ _ _ _ _ HO.out.mat).mono ?_
      rintro e w2 ⟨rfl, hb⟩
      rw [HR.out]
      have hb1 := HB2.out.trans (hb.mono HB2.out.size)
      have hz := hb1.size
      simp at hz
      obtain ⟨hcc, hff⟩ := bcell hb1
      have z1 : w.heap.size < w2.heap.size := by omega
      clear hb
      go_wp2
      exact bodyPost_ret (v := .tuple #[.agg #[.int .i64 r1, .int .i64 r2], .int .i64 r3]) (by simp [results, Try.results39, go_sem, z1, hcc]) rfl ⟨by rw [HE.out], bel1s hb1⟩
    | false =>
      have HE : Hid (M.upRes R x = ((0, 0), 2)) := by
        show _ = _
        unfold M.upRes
        rw [if_pos hs, h.1, ← hc]; rfl
      clear h hs hc hnd
      go_enter Try.func39, Try.ntmps39
      go_wp2_with fail
      refine (isSquare_b _ _ _ R _ true HS.out (HA.out.below HB0.out)).mono ?_
      rintro e w' ⟨rfl, rfl⟩
      go_wp2_with fail
      refine (areNodes_b _ _ _ _ _ _ [x] _ false HC.out (by omega) (by have := HLit.out (w.alloc (.cells #[.int .i64 0, .int .i64 0] 27)); simpa using this)).mono ?_
      rintro e w' ⟨rfl, rfl⟩
      have hb1 : Below (w.alloc (.cells #[.int .i64 0, .int .i64 0] 27)).heap.size (w.alloc (.cells #[.int .i64 0, .int .i64 0] 27)) ((w.alloc (.cells #[.int .i64 0, .int .i64 0] 27)).alloc (.cells #[.int .i64 x] 2)) := b_alloc _ _
      go_wp2
      exact bodyPost_ret (v := .tuple #[.agg #[.int .i64 0, .int .i64 0], .int .i64 2]) (by simp [results, Try.results39, go_sem]) rfl ⟨by rw [HE.out], HB0.out.trans (hb1.mono (by simp))⟩
  · simp only [Bool.not_eq_true] at hs
    have HS := Lib.hid hs
    have HE : Hid (M.upRes R x = ((0, 0), 1)) := by show _ = _; unfold M.upRes; rw [hs]; rfl
    clear h hs
    go_enter Try.func39, Try.ntmps39
    go_wp2_with fail
    refine (isSquare_b _ _ _ R _ false HS.out (HA.out.below (b_alloc _ _))).mono ?_
    rintro e w' ⟨rfl, rfl⟩
    go_wp2
    exact bodyPost_ret (v := .tuple #[.agg #[.int .i64 0, .int .i64 0], .int .i64 1]) (by simp [results, Try.results39, go_sem]) rfl ⟨by rw [HE.out], b_alloc _ _⟩
end V
end Go.Proofs.Ytmldjmlihkcchaa
