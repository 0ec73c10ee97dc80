/- Texts laid together: Lvh. -/
import Derived.Test.YtjbffpmelglegaaQa29
import Derived.Test.YtjbffpmelglegaaQa28
import Derived.Test.YtjbffpmelglegaaQa17
set_option linter.unusedSimpArgs false
set_option linter.unusedVariables false
set_option linter.unusedSectionVars false
namespace Go.Proofs.Ytjbffpmelglegaa
namespace M
def ordRes (x : Int) (l : List Pc) : List Int × Int := if isGr x l then (if liveB (wtF fOne l) x.toNat then (ordL (wtF fOne l) x.toNat x.toNat, 0) else ([], 5)) else ([], 1)
theorem ordRes_len (x : Int) (l : List Pc) : (ordRes x l).1.length ≤ 30 := by
  unfold ordRes
  split
  · next h =>
    split
    · have hx : x.toNat ≤ 10 := by
        unfold isGr inB at h
        simp only [Bool.and_eq_true, decide_eq_true_eq] at h
        omega
      have := ord_len (wtF fOne l) x.toNat x.toNat
      show (ordL (wtF fOne l) x.toNat x.toNat).length ≤ 30
      omega
    · simp
  · simp
/-- Whether a node can be next, as far as the first nodes tell. -/
def rdyK (A : Nat → Nat → Int) (o : List Int) (e k : Nat) : Bool := !hasB o (e : Int) && (List.range k).all fun k => decide (A e k = -1000000000000000) || hasB o (k : Int)
theorem rdyK_next (A : Nat → Nat → Int) (o : List Int) (e k : Nat) : rdyK A o e (k + 1) = (rdyK A o e k && (decide (A e k = -1000000000000000) || hasB o (k : Int))) := by
  unfold rdyK
  rw [List.range_succ, List.all_append, Bool.and_assoc]
  simp
theorem rdyK_zero (A : Nat → Nat → Int) (o : List Int) (e : Nat) : rdyK A o e 0 = !hasB o (e : Int) := by unfold rdyK; simp
theorem lv_none {x : Int} {l : List Pc} (h : lvCode x l ≠ 0) : ordRes x l = ([], lvCode x l) := by
  unfold lvCode at h ⊢
  unfold ordRes
  split
  · next hg =>
    rw [if_pos hg] at h
    have hx : x.toNat ≤ 10 := by
      unfold isGr inB at hg
      simp only [Bool.and_eq_true, decide_eq_true_eq] at hg
      omega
    have hd := dead_is (l := l) hx
    by_cases q : (deadQ l x.toNat).length = 0
    · rw [if_pos q] at h; exact absurd rfl h
    · rw [if_neg q]
      rw [decide_eq_false q] at hd
      rw [← hd]; rfl
  · rfl
theorem lv_zero {x : Int} {l : List Pc} (h : lvCode x l = 0) : isGr x l = true ∧ liveB (wtF fOne l) x.toNat = true := by
  unfold lvCode at h
  split at h
  · next hg =>
    have hx : x.toNat ≤ 10 := by
      unfold isGr inB at hg
      simp only [Bool.and_eq_true, decide_eq_true_eq] at hg
      omega
    have hd := dead_is (l := l) hx
    by_cases q : (deadQ l x.toNat).length = 0
    · rw [decide_eq_true q] at hd
      exact ⟨hg, hd.symm⟩
    · rw [if_neg q] at h; omega
  · omega
theorem rdyK_end (A : Nat → Nat → Int) (n : Nat) (o : List Int) (e : Nat) : rdyK A o e n = rdy A n o e := rfl
end M
namespace V
set_option maxRecDepth 100000
open Go.RowKit
def sLen : Value → Nat
  | .slice _ n _ => n
  | _ => 0
set_option maxRecDepth 100000 in
set_option maxHeartbeats 2000000 in
theorem firingOrderX (x : Int) (a : Option Addr) (n cap : Nat) (l : List M.Pc) (w : World) (h : Pls w a n l) :
    Calls Try.prog 130 #[.agg #[.int .i64 x, .slice a n cap]] w (VRes (M.ordRes x l) w) := by
  have HI := Lib.hid h
  have hb0 := b_alloc w (.cells #[.int .i64 x, .slice a n cap] 41)
  have hG := gBox_new w x a n cap 41
  obtain ⟨wb, hwb⟩ : ∃ z, z = w.alloc (.cells #[.int .i64 x, .slice a n cap] 41) := ⟨_, rfl⟩
  rw [← hwb] at hb0 hG
  obtain ⟨r, hr⟩ : ∃ r, r = M.isGr x l := ⟨_, rfl⟩
  have HS : Hid (Calls Try.prog 109 #[.agg #[.int .i64 x, .slice a n cap]] wb fun e w' => e = .returned (.bool r) ∧ Below wb.heap.size wb w') := by rw [hr]; exact isEventGraph x a n cap l wb (h.below hb0)
  have HG := Lib.hid hG
  have HB0 := Lib.hid hb0
  have HRr := Lib.hid hr
  clear h hG hb0 hr
  cases r with
  | false =>
    have HR : Hid (M.ordRes x l = ([], 1)) := by show _ = _; unfold M.ordRes; rw [← HRr.out]; rfl
    go_enter Try.func130, Try.ntmps130
    go_wp2_with fail
    rw [← hwb]
    clear hwb
    refine (HS.out).mono ?_
    rintro e w1 ⟨rfl, hb1⟩
    have HB1 := Lib.hid (HB0.out.trans (hb1.mono HB0.out.size))
    obtain ⟨g0, g1⟩ := HG.out.below hb1
    clear hb1
    go_wp2
    go_ret2
    exact VRes.nil HR.out HB1.out
  | true =>
    obtain ⟨N, hN, n1, n2⟩ := gr_nat HRr.out.symm
    replace hN := hN.symm
    subst hN
    obtain ⟨v, hv⟩ : ∃ v, v = M.liveB (M.wtF M.fOne l) N := ⟨_, rfl⟩
    have HR : Hid (M.ordRes (N : Int) l = if v then (M.ordL (M.wtF M.fOne l) N N, 0) else ([], 5)) := by show _ = _; unfold M.ordRes; rw [← HRr.out, hv]; rfl
    have HC := Lib.hid (firingOrder N a n cap l · · HRr.out.symm)
    unfold FPost at HC
    rw [← hv] at HC
    clear hv
    cases v with
    | false =>
      go_enter Try.func130, Try.ntmps130
      go_wp2_with fail
      rw [← hwb]
      clear hwb
      refine (HS.out).mono ?_
      rintro e w1 ⟨rfl, hb1⟩
      have HB1 := Lib.hid (HB0.out.trans (hb1.mono HB0.out.size))
      obtain ⟨g0, g1⟩ := HG.out.below hb1
      clear hb1
      go_wp2_with fail
      refine (HC.out w1 (HI.out.below HB1.out)).mono ?_
      rintro e w2 ⟨b2, c2, rfl, -, hb2⟩
      have HB2 := Lib.hid (HB1.out.trans (hb2.mono HB1.out.size))
      clear hb2
      go_wp2
      go_ret2
      exact VRes.nil HR.out HB2.out
    | true =>
      go_enter Try.func130, Try.ntmps130
      go_wp2_with fail
      rw [← hwb]
      clear hwb
      refine (HS.out).mono ?_
      rintro e w1 ⟨rfl, hb1⟩
      have HB1 := Lib.hid (HB0.out.trans (hb1.mono HB0.out.size))
      obtain ⟨g0, g1⟩ := HG.out.below hb1
      clear hb1
      go_wp2_with fail
      refine (HC.out w1 (HI.out.below HB1.out)).mono ?_
      rintro e w2 ⟨b2, c2, rfl, ho, hb2⟩
      have HO2 := Lib.hid (ho.mono HB1.out.size)
      have HB2 := Lib.hid (HB1.out.trans (hb2.mono HB1.out.size))
      clear ho hb2
      go_wp2
      go_ret2
      rw [HR.out]
      exact ⟨_, _, _, rfl, HO2.out, HB2.out⟩
set_option maxRecDepth 100000 in
set_option maxHeartbeats 4000000 in
theorem sOrder (N : Nat) (a : Option Addr) (n cap : Nat) (l : List M.Pc) (w : World) (h : Pls w a n l) (hg : M.isGr (N : Int) l = true) (hp : M.noPos (M.wtF M.fOne l) N = true) :
    Calls Try.prog 137 #[.agg #[.int .i64 N, .slice a n cap]] w fun e w' => ∃ b c, e = .returned (.slice b N c) ∧ Own w' w.heap.size (.slice b N c) (M.ordL (M.wtF M.fOne l) N N) ∧ Below w.heap.size w w' := by
  obtain ⟨n1, n2, -⟩ := gr_N hg
  have hU := M.uz_graph l
  have HGo : Hid (∀ t, t < N → ∃ e, M.nxtO (M.wtF M.fOne l) N (M.ordL (M.wtF M.fOne l) N t) = some e) := fun t ht => M.ord_goes hU n2 hp ht (M.ord_full hU n2 hp (Nat.le_of_lt ht))
  have HLen : Hid (∀ t, t ≤ N → (M.ordL (M.wtF M.fOne l) N t).length = t) := fun t ht => M.ord_full hU n2 hp ht
  have hb0 := b_alloc w (.cells #[.int .i64 N, .slice a n cap] 41)
  have HC := Lib.hid (sFree N a n cap l _ (h.below hb0) hg)
  have hGb := gBox_new w N a n cap 41
  obtain ⟨wb, hwb⟩ : ∃ z, z = w.alloc (.cells #[.int .i64 N, .slice a n cap] 41) := ⟨_, rfl⟩
  rw [← hwb] at hb0 hGb HC
  have HGb := Lib.hid hGb
  have HB0 := Lib.hid hb0
  have HSz0 : Hid (w.heap.size < wb.heap.size) := cell_lt hGb.1
  obtain ⟨g0, g1⟩ := hGb
  clear h hg hb0 hp hU
  go_enter Try.func137, Try.ntmps137
  go_wp2_with fail
  rw [← hwb]
  clear hwb
  refine HC.out.mono ?_
  rintro e w3 ⟨b, c, rfl, ho, hb⟩
  have HE : Hid (∀ i j, i < N → j < N → ∃ o q rc, b = some ⟨o, 0, none⟩ ∧ w3.cell? ⟨o, i, none⟩ = some (.slice (some ⟨q, 0, none⟩) N rc) ∧ w3.cell? ⟨q, j, none⟩ = some (.int .i64 (M.wtF M.fNil l i j)) ∧ o < w3.heap.size ∧ q < w3.heap.size) := fun i j hi hj => by
    have hrow : ((M.wtM M.fNil N l).getD i []).length = N := M.mk_rowlen _ _ _ _ hi
    obtain ⟨o, q, L, rc, y, hba, ho1, hq1, hL, hy, m1, m2, -, -⟩ := ho.at i j hi (by rw [hrow]; exact hj)
    rw [hrow] at hL
    subst hL
    have hy2 : y = M.wtF M.fNil l i j := by rw [hy]; exact M.wt_ent M.fNil hi hj
    subst hy2
    exact ⟨o, q, rc, hba, m1, m2, cell_lt m1, cell_lt m2⟩
  have HU : Hid (∀ i j, M.wtF M.fNil l i j = -1000000000000000 ↔ M.wtF M.fOne l i j = -1000000000000000) := fun i j => by
    rcases M.uz_graph l i j with ⟨q1, q2⟩ | ⟨q1, q2⟩ <;> rw [q1, q2] <;> simp
  have HO0 : Hid (Own (w3.alloc (.cells #[] 2)) w3.heap.size (.slice (some ⟨w3.heap.size, 0, none⟩) 0 0) (M.ordL (M.wtF M.fOne l) N 0)) := own_lit0 w3 _ (Nat.le_refl _)
  have HB30 : Hid (Below w3.heap.size w3 (w3.alloc (.cells #[] 2))) := b_alloc w3 _
  have HBw := Lib.hid (HB0.out.trans (hb.mono HB0.out.size))
  have HG3 := Lib.hid (HGb.out.below hb)
  obtain ⟨bo, -, -, hbb, -⟩ := HE.out 0 0 n1 n1
  subst hbb
  clear g0 g1 ho hb
  go_wp2
  go_loopw [4, 5, 6, 7] (fun o _ _ _ wr => ∃ (t : Nat) (ob : Option Addr) (oc : Nat), t ≤ N ∧ o = .slice ob t oc ∧ Hid (Own wr w3.heap.size o (M.ordL (M.wtF M.fOne l) N t)) ∧ Hid (Below w3.heap.size w3 wr)) (fun o _ _ _ _ => N - sLen o)
  case atStart => exact ⟨0, _, _, Nat.zero_le _, rfl, HO0, HB30⟩
  case round =>
    obtain ⟨t, ob, oc, ht, rfl, HO, HB⟩ := hrel
    obtain ⟨wo, rfl⟩ : ∃ x, x = wr := ⟨_, rfl⟩
    clear HO0 HB30
    obtain ⟨g0, g1⟩ := HG3.out.below HB.out
    by_cases htN : t < N
    · have hti : (t : Int) < (N : Int) := by omega
      obtain ⟨Lt, hLt⟩ : ∃ L, L = M.ordL (M.wtF M.fOne l) N t := ⟨_, rfl⟩
      have HLs : Hid (M.ordL (M.wtF M.fOne l) N (t + 1) = M.stepO (M.wtF M.fOne l) N Lt) := by show _ = _; rw [hLt]; rfl
      have HLl : Hid (Lt.length = t) := by have := HLen.out t ht; show _ = _; rw [hLt]; exact this
      have HNx : Hid (∃ e, M.nxtO (M.wtF M.fOne l) N Lt = some e) := by show ∃ e, _; rw [hLt]; exact HGo.out t htN
      rw [← hLt] at HO
      clear hLt
      go_wp2
      go_loopw [4, 5, 6, 7] (fun o i _ _ w' => ∃ e : Nat, e ≤ N ∧ i = .int .i64 e ∧ o = .slice ob t oc ∧ Hid (∀ k, k < e → M.rdy (M.wtF M.fOne l) N Lt k = false) ∧ w' = wo) (fun _ i _ _ _ => N - (intOf i).toNat)
      case atStart => exact ⟨0, Nat.zero_le _, rfl, rfl, fun k hk => absurd hk (Nat.not_lt_zero k), rfl⟩
      case round =>
        obtain ⟨e, he, rfl, rfl, HA, rfl⟩ := hrel
        obtain ⟨wm, rfl⟩ : ∃ x, x = wr := ⟨_, rfl⟩
        have HIL := Lib.hid HO.out.ints'
        by_cases heN : e < N
        · have hei : (e : Int) < (N : Int) := by omega
          go_wp2_with (go_at_call 167; refine (sHas _ _ _ Lt _ _ HIL.out).mono ?_; rintro e' w' ⟨rfl, rfl⟩)
          go_loopw [6, 7] (fun r k w' => ∃ m : Nat, m ≤ N ∧ k = .int .i64 m ∧ r = .bool (M.rdyK (M.wtF M.fOne l) Lt e m) ∧ w' = wm) (fun _ k _ => N - (intOf k).toNat)
          case atStart => exact ⟨0, Nat.zero_le _, rfl, by rw [M.rdyK_zero], rfl⟩
          case round =>
            obtain ⟨m, hm, rfl, rfl, rfl⟩ := hrel
            obtain ⟨wm, rfl⟩ : ∃ x, x = wr := ⟨_, rfl⟩
            by_cases hmN : m < N
            · have hmi : (m : Int) < (N : Int) := by omega
              have hnx := M.rdyK_next (M.wtF M.fOne l) Lt e m
              obtain ⟨v, hv⟩ : ∃ v, v = M.rdyK (M.wtF M.fOne l) Lt e m := ⟨_, rfl⟩
              rw [← hv] at hnx ⊢
              have HNxt := Lib.hid hnx
              clear hnx hv
              cases v with
              | false =>
                have HV : Hid (M.rdyK (M.wtF M.fOne l) Lt e (m + 1) = false) := by show _ = _; rw [HNxt.out]; rfl
                go_wp2
                go_roundw
                case rel => exact ⟨m + 1, by omega, by go_num, by rw [HV.out], by first | rfl | trivial⟩
                case measure => simp [intOf]; omega
              | true =>
                obtain ⟨o', q, rc, hoo, m1, m2, ho3, hq3⟩ := HE.out e m heN hmN
                injection hoo with hoo
                injection hoo with hoo
                subst hoo
                have d1 := (HB.out.cell (p := ⟨bo, e, none⟩) ho3).trans m1
                have d2 := (HB.out.cell (p := ⟨q, m, none⟩) hq3).trans m2
                obtain ⟨z, hz⟩ : ∃ z, z = M.wtF M.fNil l e m := ⟨_, rfl⟩
                rw [← hz] at d2
                have HZ := Lib.hid hz
                clear hz m1 m2
                by_cases hzb : z = -1000000000000000
                · have HV : Hid (M.rdyK (M.wtF M.fOne l) Lt e (m + 1) = true) := by
                    show _ = _
                    rw [HNxt.out, decide_eq_true ((HU.out e m).1 (HZ.out.symm.trans hzb))]; rfl
                  have hz1 : (z == -1000000000000000) = true := by simp [hzb]
                  clear hzb
                  go_wp2
                  go_roundw
                  case rel => exact ⟨m + 1, by omega, by go_num, by rw [HV.out], by first | rfl | trivial⟩
                  case measure => simp [intOf]; omega
                · have HV : Hid (M.rdyK (M.wtF M.fOne l) Lt e (m + 1) = M.hasB Lt (m : Int)) := by
                    show _ = _
                    rw [HNxt.out, decide_eq_false (fun q => hzb (HZ.out.trans ((HU.out e m).2 q)))]; simp
                  have hz1 : (z == -1000000000000000) = false := by simpa using hzb
                  clear hzb
                  go_wp2_with (go_at_call 167; refine (sHas _ _ _ Lt _ _ HIL.out).mono ?_; rintro e' w' ⟨rfl, rfl⟩)
                  go_roundw
                  case rel => exact ⟨m + 1, by omega, by go_num, by rw [HV.out], by first | rfl | trivial⟩
                  case measure => simp [intOf]; omega
            · obtain rfl : m = N := by omega
              rw [M.rdyK_end]
              obtain ⟨v, hv⟩ : ∃ v, v = M.rdy (M.wtF M.fOne l) m Lt e := ⟨_, rfl⟩
              rw [← hv]
              have HV := Lib.hid hv.symm
              clear hv
              cases v with
              | false =>
                have HA2 : Hid (∀ k, k < e + 1 → M.rdy (M.wtF M.fOne l) m Lt k = false) := fun k hk => by
                  rcases Nat.lt_or_ge k e with q | q
                  · exact HA.out k q
                  · obtain rfl : k = e := by omega
                    exact HV.out
                go_wp2
                go_roundw
                case rel => exact ⟨e + 1, by omega, by go_num, rfl, HA2, by first | rfl | trivial⟩
                case measure => simp [intOf]; omega
              | true =>
                have HNe : Hid (M.ordL (M.wtF M.fOne l) m (t + 1) = Lt ++ [(e : Int)]) := by show _ = _; rw [HLs.out, M.step_some (M.nxtO_is heN HV.out HA.out)]
                have hl10 := HLl.out
                have hsz := HB.out.size
                have HO2 := HO
                go_wp2_with (at_builtin; refine append1 _ rfl (.tmp 49) (.tmp 51) rfl w3.heap.size _ _ _ t HLl.out rfl HO2.out rfl (by rw [HLl.out]; omega) hsz ?_)
                intro b2 c2 w2 hO2 hb2 _
                rw [← HNe.out] at hO2
                have HO3 := Lib.hid hO2
                have HB3 := Lib.hid (HB.out.trans hb2)
                clear hO2 hb2
                go_wp2
                go_roundw
                case rel => exact ⟨t + 1, _, _, by omega, rfl, HO3, HB3⟩
                case measure => simp [sLen]; omega
        · obtain rfl : e = N := by omega
          obtain ⟨x, hx⟩ := HNx.out
          rw [M.nxtO_none HA.out] at hx
          cases hx
    · obtain rfl : t = N := by omega
      go_wp2
      go_ret
      exact ⟨_, _, rfl, HO.out.mono (HBw.out.size), HBw.out.trans (HB.out.mono HBw.out.size)⟩
end V
end Go.Proofs.Ytjbffpmelglegaa
