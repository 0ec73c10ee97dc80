/- Texts laid together: Cje. -/
import Derived.Test.YtlofnadpgnbmdaaQa44
import Derived.BigQuiet
set_option linter.unusedSimpArgs false
set_option linter.unusedVariables false
set_option linter.unusedSectionVars false
namespace Go.Proofs.Ytlofnadpgnbmdaa
namespace M
theorem inN_of {n : Nat} {c : List Int} (h : ∀ i, i < c.length → inN n (c.getD i 0) = true) : nodesB n c = true := List.all_eq_true.2 fun z hz => by
  obtain ⟨i, hi, rfl⟩ := List.mem_iff_getElem.1 hz
  have := h i hi
  rwa [List.getD_eq_getElem?_getD, List.getElem?_eq_getElem hi] at this
theorem inN_no {n : Nat} {c : List Int} {i : Nat} (hi : i < c.length) (h : inN n (c.getD i 0) = false) : nodesB n c = false := by
  cases e : nodesB n c with
  | false => rfl
  | true =>
    have := List.all_eq_true.1 e (c.getD i 0) (by rw [List.getD_eq_getElem?_getD, List.getElem?_eq_getElem hi]; exact List.getElem_mem hi)
    rw [h] at this; cases this
theorem cir_no4 {l : List (Int × Int × Int × Int)} {c : List Int} (h : diffB (c.map (frI l)) = false) : cirB l c = false := by unfold cirB; rw [h]; simp
theorem cir_yes2 {l : List (Int × Int × Int × Int)} {c : List Int} (h1 : 1 ≤ c.length) (h2 : nodesB l.length c = true) (h3 : chnB l c = true) (h4 : diffB (c.map (frI l)) = true) : cirB l c = true := by rw [cir_yes h1 h2 h3, h4]
theorem map_take_has {l : List (Int × Int × Int × Int)} {c : List Int} {k : Nat} (hk : k < c.length) : hasB ((c.map (frI l)).take k) ((c.map (frI l)).getD k 0) = hasB ((c.take k).map (frI l)) (frI l (c.getD k 0)) := by
  rw [map_getD _ hk, List.map_take]
end M
namespace V
set_option maxRecDepth 100000
open Go.RowKit
set_option maxRecDepth 100000 in
set_option maxHeartbeats 2000000 in
theorem sCircuit (N : Nat) (a : Option Addr) (n cap : Nat) (l : List M.Pc) (ca : Option Addr) (m cc : Nat) (c : List Int) (w : World) (h : Pls w a n l) (hg : M.isGr (N : Int) l = true) (hI : Ints .i64 w ca m c) (hm : m ≤ 1048576) :
    Calls Try.prog 71 #[.agg #[.int .i64 N, .slice a n cap], .slice ca m cc] w fun e w' => e = .returned (.bool (M.cirB l c)) ∧ Below w.heap.size w w' := by
  obtain ⟨he, N1, N2, l30⟩ := M.gr_ev hg
  have hL := h.1
  have hM : c.length = m := hI.1
  have HP := Lib.hid h
  have HI := Lib.hid hI
  have HL := Lib.hid hL
  have HM := Lib.hid hM
  have HE := Lib.hid he
  have hn30 : n ≤ 30 := by omega
  have hw1 : IntKind.i64.wrap ((n : Int) - 1) = (n : Int) - 1 := IntWalk.i64_in _ (by omega)
  have HO0 : Hid (Own ((w.alloc (.cells #[.int .i64 N, .slice a n cap] 26)).alloc (.cells #[] 2)) (w.heap.size + 1) (.slice (some ⟨w.heap.size + 1, 0, none⟩) 0 0) ((c.take 0).map (M.frI l))) := by
    have := own_lit0 (w.alloc (.cells #[.int .i64 N, .slice a n cap] 26)) (w.heap.size + 1) (by simp)
    show Own _ _ _ []
    simpa using this
  have HB0 : Hid (Below w.heap.size w ((w.alloc (.cells #[.int .i64 N, .slice a n cap] 26)).alloc (.cells #[] 2))) := b_alloc2 w _ _
  have HG0 : Hid (GBox ((w.alloc (.cells #[.int .i64 N, .slice a n cap] 26)).alloc (.cells #[] 2)) w.heap.size N a n cap) := (gBox_new w N a n cap 26).below (b_alloc _ _)
  have HD0 : Hid (∀ i, i < 0 → M.inN n (c.getD i 0) = true ∧ M.hasB ((c.take i).map (M.frI l)) (M.frI l (c.getD i 0)) = false) := fun i hi => absurd hi (Nat.not_lt_zero i)
  clear h hg hI he hL hM
  go_enter Try.func71, Try.ntmps71
  go_wp2
  go_loopw [6, 7, 8] (fun ev kv _ wr => ∃ (k : Nat) (eb : Option Addr) (ec : Nat), k ≤ m ∧ kv = .int .i64 k ∧ ev = .slice eb k ec ∧ Hid (Own wr (w.heap.size + 1) (.slice eb k ec) ((c.take k).map (M.frI l))) ∧ Hid (GBox wr w.heap.size N a n cap) ∧ Hid (Below w.heap.size w wr) ∧ Hid (∀ i, i < k → M.inN n (c.getD i 0) = true ∧ M.hasB ((c.take i).map (M.frI l)) (M.frI l (c.getD i 0)) = false)) (fun _ kv _ _ => m - (intOf kv).toNat)
  case atStart => exact ⟨0, _, 0, Nat.zero_le _, rfl, rfl, HO0, HG0, HB0, HD0⟩
  case round =>
    obtain ⟨k, eb, ec, hk, rfl, rfl, HO, HGr, HB, HD⟩ := hrel
    obtain ⟨wo, rfl⟩ : ∃ x, x = wr := ⟨_, rfl⟩
    clear HO0 HG0 HB0 HD0
    obtain ⟨g0, g1⟩ := HGr.out
    have hs1 : w.heap.size < wo.heap.size := cell_lt g0
    by_cases hkm : k < m
    · have hki : (k : Int) < (m : Int) := by omega
      obtain ⟨cb, co, y, rfl, hd, hy, cy⟩ := (HI.out.below HB.out).at k hkm
      obtain ⟨t, ht⟩ : ∃ t, t = M.inN n y := ⟨_, rfl⟩
      have HIn : Hid (∀ q, Calls Try.prog 81 #[.int .i64 y, .int .i64 0, .int .i64 ((n : Int) - 1)] (wo.drewN q) fun e w' => e = .returned (.bool t) ∧ wo.drewN q = w') := fun q => by
        rw [ht, ← M.inB_inN]; exact (sIn _ _ _ _).mono (fun e w' h => ⟨h.1, h.2⟩)
      have HT : Hid (M.inN n (c.getD k 0) = t) := by show _ = _; rw [← hy, ht]
      have HY := Lib.hid hy
      clear hy
      cases t with
      | false =>
        have HR : Hid (M.cirB l c = false) := M.cir_no2 HL.out (M.inN_no (by rw [HM.out]; exact hkm) HT.out)
        clear ht
        go_wp2
        go_quiet ((go_at_call 81; first | with_reducible exact q_one_s (HIn.out _) | with_reducible exact q_more_s (HIn.out _)))
        go_wp2
        go_ret
        rw [HR.out]
        exact ⟨rfl, below_drewN HB.out _⟩
      | true =>
        have hyn : 0 ≤ y ∧ y < n := by
          have := ht.symm
          unfold M.inN at this
          simpa using this
        obtain ⟨j, rfl⟩ := Int.eq_ofNat_of_zero_le hyn.1
        have hjn : j < n := by omega
        have hjn2 : (j : Int) < (n : Int) := by omega
        clear ht hyn
        go_wp2
        go_quiet ((go_at_call 81; first | with_reducible exact q_one_s (HIn.out _) | with_reducible exact q_more_s (HIn.out _)))
        generalize hwq : World.drewN wo _ = wq
        have hbq : Below wo.heap.size wo wq := by rw [← hwq]; exact b_draws wo _
        have hHq : wq.heap.size = wo.heap.size := by rw [← hwq]; simp
        have HBq := Lib.hid (HB.out.trans (hbq.mono HB.out.size))
        have HOq := Lib.hid (HO.out.below hbq)
        have HGq := Lib.hid (HGr.out.below hbq)
        have cy := (hbq.cell (p := ⟨cb, co + k, none⟩) hd).trans cy
        clear hwq g0 g1 hbq hs1 HO HGr HB hd
        have hd : cb < wq.heap.size := cell_lt cy
        obtain ⟨g0, g1⟩ := HGq.out
        have hs1 : w.heap.size < wq.heap.size := cell_lt g0
        obtain ⟨pb, off, q0, q1, q2, q3, rfl, hpd, hp, c0, c1, c2, c3⟩ := (HP.out.below HBq.out).at j hjn
        have hfr : M.frI l (c.getD k 0) = q0 := by rw [← HY.out]; show (l.getD j M.pz).1 = q0; rw [hp]
        have hmp : (c.take (k + 1)).map (M.frI l) = (c.take k).map (M.frI l) ++ [q0] := by rw [M.take_map_snoc _ _ _ (by rw [HM.out]; exact hkm), hfr]
        have HMp := Lib.hid hmp
        have hel : ((c.take k).map (M.frI l)).length = k := by simp; have := HM.out; omega
        have HEl := Lib.hid hel
        obtain ⟨L, hL⟩ : ∃ L, L = (c.take k).map (M.frI l) := ⟨_, rfl⟩
        rw [← hL] at HOq HMp HEl
        obtain ⟨u, hu⟩ : ∃ u, u = M.hasB L q0 := ⟨_, rfl⟩
        have HU : Hid (M.hasB ((c.take k).map (M.frI l)) (M.frI l (c.getD k 0)) = u) := by show _ = _; rw [hfr, ← hL]; exact hu.symm
        obtain ⟨wA, hwA⟩ : ∃ z, z = (wq.alloc (.cells #[.int .i64 q0, .int .i64 q1, .int .i64 q2, .int .i64 q3] 51)).drew := ⟨_, rfl⟩
        have hbA : Below wq.heap.size wq wA := by rw [hwA]; exact (b_alloc wq _).drew
        have hzA : wA.heap.size = wq.heap.size + 1 := by rw [hwA]; simp
        have HPA : Hid (PR wA wq.heap.size (q0, q1, q2, q3)) := by show PR _ _ _; rw [hwA]; exact (PR.new wq q0 q1 q2 q3).eq rfl
        have HOA := Lib.hid (HOq.out.below hbA)
        have HGA := Lib.hid (HGq.out.below hbA)
        have HBA := Lib.hid (HBq.out.trans (hbA.mono HBq.out.size))
        have HHs := Lib.hid (sHas _ _ ec L q0 wA HOA.out.ints')
        rw [← hu] at HHs
        obtain ⟨a0, a1, a2, a3⟩ := HPA.out.pb
        clear hu hL hmp hel hfr hp hbA HOq HGq HBq HIn HY hHq
        go_wp2
        go_region
        go_wp2_with fail
        rw [← hwA]
        clear hwA g0 g1 c0 c1 c2 c3 cy
        refine HHs.out.mono ?_
        rintro e w' ⟨rfl, rfl⟩
        cases u with
        | true =>
          have HR : Hid (M.cirB l c = false) := M.cir_no4 (M.diffB_f (i := k) (by rw [List.length_map, HM.out]; exact hkm) (by rw [M.map_take_has (by rw [HM.out]; exact hkm)]; exact HU.out))
          go_wp2
          go_ret
          rw [HR.out]
          exact ⟨rfl, HBA.out⟩
        | false =>
          have HD2 : Hid (∀ i, i < k + 1 → M.inN n (c.getD i 0) = true ∧ M.hasB ((c.take i).map (M.frI l)) (M.frI l (c.getD i 0)) = false) := fun i hi => by
            by_cases e : i = k
            · subst e; exact ⟨HT.out, HU.out⟩
            · exact HD.out i (by omega)
          clear HD HT HU
          go_wp2_with (at_builtin; refine append1 _ rfl (.tmp 40) (.tmp 43) rfl (w.heap.size + 1) _ _ q0 k HEl.out rfl HOA.out (by rw [hzA]; rfl) (by rw [HEl.out]; omega) (by omega) ?_)
          intro b2 c2' w2 hO2 hb2 hk2
          rw [← HMp.out] at hO2
          have HO2 := Lib.hid hO2
          have hne : (Value.slice eb k ec).ownBlock ≠ some w.heap.size := fun q => absurd (own_lt HOA.out q).1 (by omega)
          have HG2 : Hid (GBox w2 w.heap.size N (some ⟨pb, off, none⟩) n cap) := HGA.out.eq (hk2 _ (by omega) hne)
          have HB2 := Lib.hid (HBA.out.trans (hb2.mono (by omega)))
          clear hO2 hb2 hk2 hne
          go_wp2
          go_roundw
          case rel => exact ⟨k + 1, _, _, by omega, by go_num, rfl, HO2, HG2, HB2, HD2⟩
          case measure => simp [intOf]; omega
    · obtain rfl : k = m := by omega
      have HN : Hid (M.nodesB n c = true) := M.inN_of (fun i hi => (HD.out i (by have := HM.out; omega)).1)
      have HDf : Hid (M.diffB (c.map (M.frI l)) = true) := M.diffB_of (fun i hi => by
        have hi' : i < c.length := by simpa using hi
        rw [M.map_take_has hi']
        exact (HD.out i (by have := HM.out; omega)).2)
      have HC0 : Hid (∀ i, i < 0 → M.toI l (c.getD i 0) = M.frI l (c.getD ((i + 1) % k) 0)) := fun i hi => absurd hi (Nat.not_lt_zero i)
      clear HO HD g0 g1 hs1
      go_wp2
      go_loopw [9] (fun kv wr => ∃ (i : Nat), i ≤ k ∧ kv = .int .i64 i ∧ Hid (GBox wr w.heap.size N a n cap) ∧ Hid (Below w.heap.size w wr) ∧ Hid (∀ j, j < i → M.toI l (c.getD j 0) = M.frI l (c.getD ((j + 1) % k) 0))) (fun kv _ => k - (intOf kv).toNat)
      case atStart => exact ⟨0, Nat.zero_le _, rfl, HGr, HB, HC0⟩
      case round =>
        clear HGr HB HC0
        obtain ⟨i, hi, rfl, HGr, HB, HD⟩ := hrel
        obtain ⟨wo, rfl⟩ : ∃ x, x = wr := ⟨_, rfl⟩
        obtain ⟨g0, g1⟩ := HGr.out
        by_cases him : i < k
        · have hki : (i : Int) < (k : Int) := by omega
          obtain ⟨cb, co, y, rfl, hd, hy, cy⟩ := (HI.out.below HB.out).at i him
          obtain ⟨s, hs⟩ : ∃ s, s = (i + 1) % k := ⟨_, rfl⟩
          have hsk : s < k := by rw [hs]; exact Nat.mod_lt _ (by omega)
          obtain ⟨cb', co', z, he2, hd2, hz, cz⟩ := (HI.out.below HB.out).at s hsk
          injection he2 with he2
          injection he2 with e1 e2 e3
          subst e1 e2
          have hyn := M.nodesB_at HN.out (k := i) (by rw [HM.out]; exact him)
          have hzn := M.nodesB_at HN.out (k := s) (by rw [HM.out]; exact hsk)
          rw [← hy] at hyn
          rw [← hz] at hzn
          obtain ⟨u, rfl⟩ := Int.eq_ofNat_of_zero_le hyn.1
          obtain ⟨v, rfl⟩ := Int.eq_ofNat_of_zero_le hzn.1
          have hun : u < n := by omega
          have hvn : v < n := by omega
          have hun2 : (u : Int) < (n : Int) := by omega
          have hvn2 : (v : Int) < (n : Int) := by omega
          obtain ⟨pb, off, p0, p1, p2, p3, rfl, hpd, hp, c0, c1, c2, c3⟩ := (HP.out.below HB.out).at u hun
          obtain ⟨pb', off', q0, q1, q2, q3, he2, hpd2, hq, d0, d1, d2, d3⟩ := (HP.out.below HB.out).at v hvn
          injection he2 with he2
          injection he2 with e1 e2 e3
          subst e1 e2
          have hto : M.toI l (c.getD i 0) = p1 := by rw [← hy]; show (l.getD u M.pz).2.1 = p1; rw [hp]
          have hfr : M.frI l (c.getD s 0) = q0 := by rw [← hz]; show (l.getD v M.pz).1 = q0; rw [hq]
          have hk0 : (k : Int) ≠ 0 := by omega
          have hk0b : ((k : Int) == 0) = false := by simp; omega
          have hrem : Int.tmod ((i : Int) + 1) (k : Int) = (s : Int) := by
            rw [hs, show ((i : Int) + 1) = ((i + 1 : Nat) : Int) by omega]
            exact (Int.ofNat_tmod _ _).symm
          have HS := Lib.hid hs
          clear hy hz hyn hzn hp hq hs
          by_cases hq : p1 = q0
          · have hqb : (p1 != q0) = false := by simpa using hq
            have HD2 : Hid (∀ j, j < i + 1 → M.toI l (c.getD j 0) = M.frI l (c.getD ((j + 1) % k) 0)) := fun j hj => by
              by_cases e : j = i
              · subst e; rw [← HS.out, hto, hfr]; exact hq
              · exact HD.out j (by omega)
            clear hto hfr hq
            go_wp2
            go_region
            all_goals
              go_wp2
              go_roundw
              case rel => exact ⟨i + 1, by omega, by go_num, by first | exact HGr | exact HGr.out.below (Below.refl _ _).drew, HB.out.drew, HD2⟩
              case measure => simp [intOf]; omega
          · have hqb : (p1 != q0) = true := by simpa using hq
            have HR : Hid (M.cirB l c = false) := M.cir_no3 (M.chn_no (k := i) (by rw [HM.out]; exact him) (by rw [HM.out, ← HS.out, hto, hfr]; exact hq))
            clear hto hfr hq
            go_wp2
            go_region
            all_goals
              go_wp2
              go_ret
              rw [HR.out]
              exact ⟨rfl, HB.out.drew⟩
        · obtain rfl : i = k := by omega
          have hM := HM.out
          by_cases h0 : i = 0
          · have HR : Hid (M.cirB l c = false) := M.cir_no1 (by rw [hM]; exact h0)
            subst h0
            clear hM
            go_wp2
            go_ret
            rw [HR.out]
            exact ⟨rfl, HB.out⟩
          · have HR : Hid (M.cirB l c = true) := M.cir_yes2 (by omega) (by rw [HL.out]; exact HN.out) (M.chn_of (fun j hj => by rw [hM]; exact HD.out j (by omega))) HDf.out
            have hpos : 0 < i := by omega
            clear hM h0
            go_wp2
            go_ret
            rw [HR.out]
            exact ⟨by simp [hpos], HB.out⟩
end V
end Go.Proofs.Ytlofnadpgnbmdaa
