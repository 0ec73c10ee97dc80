/- Texts laid together: Lvg. -/
import Derived.Test.YtlofnadpgnbmdaaGreatQa27
import Derived.Test.YtlofnadpgnbmdaaGreatQa14
import Derived.WalkMore
set_option linter.unusedSimpArgs false
set_option linter.unusedVariables false
set_option linter.unusedSectionVars false
namespace Go.Proofs.YtlofnadpgnbmdaaGreat
namespace V
set_option maxRecDepth 100000
open Go.RowKit Go.Maps
/-- What the search for the order keeps: the list of what is taken, the set of it in the map mb, and all that was there when the matrix had been made. -/
def FO (w w3 : World) (mb N : Nat) (o : Value) (L : List Int) (S : Nat → Bool) (wr : World) : Prop :=
  Own wr w3.heap.size o L ∧ IsSet wr mb N S ∧ (∀ k, k < w3.heap.size → k ≠ mb → wr.heap[k]? = w3.heap[k]?) ∧ Below w.heap.size w wr ∧ w3.heap.size ≤ wr.heap.size
theorem FO.put {w w3 wr w' : World} {mb N : Nat} {o : Value} {L : List Int} {S S' : Nat → Bool} (h : FO w w3 mb N o L S wr) (hs : IsSet w' mb N S') (hg : wr.grownBy w' (some mb)) (hm : w.heap.size ≤ mb) (hm3 : mb < w3.heap.size) (hw : w.heap.size ≤ w3.heap.size) : FO w w3 mb N o L S' w' := by
  obtain ⟨h1, h2, h3, h4, h5⟩ := h
  have hk : ∀ k, k < wr.heap.size → k ≠ mb → w'.heap[k]? = wr.heap[k]? := fun k hl hne => hg.block k hl (by intro e; injection e with e; exact hne e)
  refine ⟨h1.keep fun k q1 q2 => hk k q2 (by omega), hs, fun k q1 q2 => (hk k (by omega) q2).trans (h3 k q1 q2), h4.grown hg h4.size (fun j hj => by cases hj; exact hm), ?_⟩
  have := h2.lt
  obtain ⟨g1, g2, g3, g4, g5⟩ := hg
  omega
theorem FO.app {w w3 wr w' : World} {mb N : Nat} {o o' : Value} {L L' : List Int} {S : Nat → Bool} (h : FO w w3 mb N o L S wr) (ho : Own w' w3.heap.size o' L') (hb : Below w3.heap.size wr w') (hm3 : mb < w3.heap.size) (hw : w.heap.size ≤ w3.heap.size) : FO w w3 mb N o' L' S w' := by
  obtain ⟨h1, h2, h3, h4, h5⟩ := h
  exact ⟨ho, h2.block (hb.block mb hm3), fun k q1 q2 => (hb.block k q1).trans (h3 k q1 q2), h4.trans (hb.mono hw), Nat.le_trans h5 hb.size⟩
theorem FO.congr {w w3 wr : World} {mb N : Nat} {o : Value} {L : List Int} {S S' : Nat → Bool} (h : FO w w3 mb N o L S wr) (e : ∀ i, i < N → S i = S' i) : FO w w3 mb N o L S' wr :=
  ⟨h.1, h.2.1.congr e, h.2.2⟩
def FPost (l : List M.Pc) (N : Nat) (w : World) (e : Ending) (w' : World) : Prop :=
  ∃ b c, e = .returned (.tuple #[.slice b (M.ordL (M.wtF M.fOne l) N N).length c, .bool (M.liveB (M.wtF M.fOne l) N)]) ∧ Own w' w.heap.size (.slice b (M.ordL (M.wtF M.fOne l) N N).length c) (M.ordL (M.wtF M.fOne l) N N) ∧ Below w.heap.size w w'
set_option maxRecDepth 100000 in
set_option maxHeartbeats 4000000 in
theorem firingOrder (N : Nat) (a : Option Addr) (n cap : Nat) (l : List M.Pc) (w : World) (h : Pls w a n l) (hg : M.isGr (N : Int) l = true) :
    Calls Tryz.prog 142 #[.agg #[.int .i64 N, .slice a n cap]] w (FPost l N w) := by
  obtain ⟨n1, n2, -⟩ := gr_N hg
  have hb0 := b_alloc2 w (.cells #[.int .i64 N, .slice a n cap] 26) (.map #[] 0)
  have hGb : GBox ((w.alloc (.cells #[.int .i64 N, .slice a n cap] 26)).alloc (.map #[] 0)) w.heap.size N a n cap := (gBox_new w N a n cap 26).below (b_alloc _ _)
  have hS0 : IsSet ((w.alloc (.cells #[.int .i64 N, .slice a n cap] 26)).alloc (.map #[] 0)) (w.heap.size + 1) N (fun _ => false) := by
    have := isSet_made (w.alloc (.cells #[.int .i64 N, .slice a n cap] 26)) N
    simpa using this
  have hsz0 : ((w.alloc (.cells #[.int .i64 N, .slice a n cap] 26)).alloc (.map #[] 0)).heap.size = w.heap.size + 2 := by simp
  obtain ⟨ws, hws⟩ : ∃ z, z = (w.alloc (.cells #[.int .i64 N, .slice a n cap] 26)).alloc (.map #[] 0) := ⟨_, rfl⟩
  rw [← hws] at hb0 hGb hS0 hsz0
  have HC := Lib.hid (tokenless N a n cap l ws (h.below hb0) hg)
  have HGb := Lib.hid hGb
  have HB0 := Lib.hid hb0
  have HS0 := Lib.hid hS0
  have HSz0 := Lib.hid hsz0
  have HWs := Lib.hid hws.symm
  obtain ⟨g0, g1⟩ := hGb
  rw [hws] at g0 g1
  clear h hg hb0 hS0 hsz0 hws
  have hmm := @run_makeMap Tryz.prog
  go_enter Tryz.func142, Tryz.ntmps142
  go_wp2_with fail
  rw [HWs.out]
  clear hmm
  refine HC.out.mono ?_
  rintro e w3 ⟨b, c, rfl, ho, hb⟩
  have hws3 := hb.size
  have HW3 : Hid (w.heap.size + 2 ≤ w3.heap.size) := by show _ ≤ _; have := HSz0.out; omega
  have HMd : Hid (w.heap.size + 1 < w3.heap.size ∧ w.heap.size ≤ w.heap.size + 1 ∧ w.heap.size ≤ w3.heap.size) := by have h2 := HW3.out; exact ⟨by omega, by omega, by omega⟩
  have HE : Hid (∀ i j, i < N → j < N → ∃ o q rc, b = some ⟨o, 0, none⟩ ∧ w3.cell? ⟨o, i, none⟩ = some (.slice (some ⟨q, 0, none⟩) N rc) ∧ w3.cell? ⟨q, j, none⟩ = some (.int .i64 (M.wtF M.fOne l i j)) ∧ o < w3.heap.size ∧ q < w3.heap.size ∧ o ≠ w.heap.size + 1 ∧ q ≠ w.heap.size + 1) := fun i j hi hj => by
    have hrow : ((M.wtM M.fOne N l).getD i []).length = N := M.mk_rowlen _ _ _ _ hi
    obtain ⟨o, q, L, rc, y, hba, ho1, hq1, hL, hy, m1, m2, -, -⟩ := ho.at i j hi (by rw [hrow]; exact hj)
    rw [hrow] at hL
    subst hL
    have hy2 : y = M.wtF M.fOne l i j := by rw [hy]; exact M.wt_ent M.fOne hi hj
    subst hy2
    have e2 := HSz0.out
    exact ⟨o, q, rc, hba, m1, m2, cell_lt m1, cell_lt m2, by omega, by omega⟩
  have HF0 : Hid (FO w w3 (w.heap.size + 1) N (.slice none 0 0) (M.ordL (M.wtF M.fOne l) N 0) (fun e => M.hasB (M.ordL (M.wtF M.fOne l) N 0) (e : Int)) w3) :=
    ⟨own_nil _ _, HS0.out.below hb (HS0.out.lt), fun k _ _ => rfl, HB0.out.trans (hb.mono HB0.out.size), Nat.le_refl _⟩
  obtain ⟨bo, -, -, hbb, -⟩ := HE.out 0 0 n1 n1
  subst hbb
  have HG3 := Lib.hid (HGb.out.below hb)
  have HgR : Hid (w.heap.size ≠ w.heap.size + 1) := by show _ ≠ _; omega
  clear g0 g1 hws3 ho hb
  obtain ⟨g0, g1⟩ := HG3.out
  go_wp2
  clear g0 g1
  go_loopw [4, 15] (fun o i wr => ∃ (t : Nat) (ob : Option Addr) (oc : Nat), t ≤ N ∧ i = .int .i64 t ∧ o = .slice ob (M.ordL (M.wtF M.fOne l) N t).length oc ∧ Hid (FO w w3 (w.heap.size + 1) N o (M.ordL (M.wtF M.fOne l) N t) (fun e => M.hasB (M.ordL (M.wtF M.fOne l) N t) (e : Int)) wr)) (fun _ i _ => N - (intOf i).toNat)
  case atStart => exact ⟨0, _, _, Nat.zero_le _, rfl, rfl, HF0⟩
  case round =>
    obtain ⟨t, ob, oc, ht, rfl, rfl, HF⟩ := hrel
    obtain ⟨wo, rfl⟩ : ∃ x, x = wr := ⟨_, rfl⟩
    clear HF0
    by_cases htN : t < N
    · have hti : (t : Int) < (N : Int) := by omega
      obtain ⟨Lt, hLt⟩ : ∃ L, L = M.ordL (M.wtF M.fOne l) N t := ⟨_, rfl⟩
      have HLs : Hid (M.ordL (M.wtF M.fOne l) N (t + 1) = M.stepO (M.wtF M.fOne l) N Lt) := by show _ = _; rw [hLt]; rfl
      have HLl : Hid (Lt.length ≤ 10) := by have := M.ord_len (M.wtF M.fOne l) N t; show _ ≤ _; rw [hLt]; omega
      rw [← hLt] at HF ⊢
      clear hLt
      obtain ⟨Ln, hLn⟩ : ∃ n, n = Lt.length := ⟨_, rfl⟩
      rw [← hLn] at HF HLl ⊢
      have HLn := Lib.hid hLn.symm
      have HG : Hid (GBox wo w.heap.size N a n cap) := by
        have e := HF.out.2.2.1 w.heap.size (by have := HW3.out; omega) HgR.out
        exact ⟨(World.cell?_of_block (a := ⟨w.heap.size, 0, none⟩) e).trans HG3.out.1, (World.cell?_of_block (a := ⟨w.heap.size, 1, none⟩) e).trans HG3.out.2⟩
      obtain ⟨g0, g1⟩ := HG.out
      clear hLn
      go_wp2
      go_step3
      go_wp2
      go_step3
      go_wp2
      clear g0 g1
      go_loopw [4, 7, 8, 9, 19] (fun o _ _ _ i w' => ∃ e : Nat, e ≤ N ∧ i = .int .i64 e ∧ o = .slice ob Ln oc ∧ Hid (∀ k, k < e → M.rdy (M.wtF M.fOne l) N Lt k = false) ∧ w' = wo) (fun _ _ _ _ i _ => N - (intOf i).toNat)
      case atStart => exact ⟨0, Nat.zero_le _, rfl, rfl, fun k hk => absurd hk (Nat.not_lt_zero k), rfl⟩
      case round =>
        obtain ⟨e, he, rfl, rfl, HA, rfl⟩ := hrel
        obtain ⟨w', rfl⟩ : ∃ x, x = wr := ⟨_, rfl⟩
        by_cases heN : e < N
        · have hei : (e : Int) < (N : Int) := by omega
          have hlk := HF.out.2.1.look n2 e heN
          cases hh : M.hasB Lt (e : Int) with
          | true =>
            have HA2 : Hid (∀ k, k < e + 1 → M.rdy (M.wtF M.fOne l) N Lt k = false) := fun k hk => by
              rcases Nat.lt_or_ge k e with q | q
              · exact HA.out k q
              · obtain rfl : k = e := by omega
                cases hr : M.rdy (M.wtF M.fOne l) N Lt k with
                | false => rfl
                | true => have := (M.rdy_t.1 hr).1; rw [hh] at this; cases this
            rw [hh] at hlk
            clear hh
            go_wp2
            go_roundw
            case rel => exact ⟨e + 1, by omega, by go_num, rfl, HA2, by first | rfl | trivial⟩
            case measure => simp [intOf]; omega
          | false =>
            have HH := Lib.hid hh
            rw [hh] at hlk
            obtain ⟨o', q, rc, hoo, m1, -, ho3, hq3, hom, hqm⟩ := HE.out e 0 heN n1
            injection hoo with hoo
            injection hoo with hoo
            subst hoo
            have d1 : w'.cell? ⟨bo, e, none⟩ = some (.slice (some ⟨q, 0, none⟩) N rc) := (World.cell?_of_block (a := ⟨bo, e, none⟩) (HF.out.2.2.1 bo ho3 hom)).trans m1
            have HRw : Hid (∀ j, j < N → w'.cell? ⟨q, j, none⟩ = some (.int .i64 (M.wtF M.fOne l e j))) := fun j hj => by
              obtain ⟨o2, q2, rc2, hoo2, k1, k2, -, -, -, -⟩ := HE.out e j heN hj
              injection hoo2 with hoo2
              injection hoo2 with hoo2
              subst hoo2
              rw [m1] at k1
              injection k1 with k1
              injection k1 with k1
              injection k1 with k1
              injection k1 with k1
              subst k1
              exact (World.cell?_of_block (a := ⟨q, j, none⟩) (HF.out.2.2.1 q hq3 hqm)).trans k2
            clear hh m1 ho3 hq3 hom hqm
            go_wp2
            clear d1 hlk
            go_loopw [8, 9, 30] (fun _ _ i w'' => ∃ j : Nat, j ≤ N ∧ i = .int .i64 j ∧ Hid (∀ k, k < j → M.wtF M.fOne l e k ≠ -1000000000000000 → M.hasB Lt (k : Int) = true) ∧ w'' = w') (fun _ _ i _ => N - (intOf i).toNat)
            case atStart => exact ⟨0, Nat.zero_le _, rfl, fun k hk => absurd hk (Nat.not_lt_zero k), rfl⟩
            case round =>
              obtain ⟨j, hj, rfl, HJ, rfl⟩ := hrel
              obtain ⟨w', rfl⟩ : ∃ x, x = wr := ⟨_, rfl⟩
              by_cases hjN : j < N
              · have hji : (j : Int) < (N : Int) := by omega
                have c1 := HRw.out j hjN
                have hlk := HF.out.2.1.look n2 j hjN
                obtain ⟨z, hz⟩ : ∃ z, z = M.wtF M.fOne l e j := ⟨_, rfl⟩
                rw [← hz] at c1
                have HZ := Lib.hid hz
                clear hz
                by_cases hzb : z = -1000000000000000
                · have HJ2 : Hid (∀ k, k < j + 1 → M.wtF M.fOne l e k ≠ -1000000000000000 → M.hasB Lt (k : Int) = true) := fun k hk hne => by
                    rcases Nat.lt_or_ge k j with q | q
                    · exact HJ.out k q hne
                    · obtain rfl : k = j := by omega
                      exact absurd (HZ.out.symm.trans hzb) hne
                  have hz1 : (z != -1000000000000000) = false := by simp [hzb]
                  clear hzb hlk
                  go_wp2
                  go_roundw
                  case rel => exact ⟨j + 1, by omega, by go_num, HJ2, by first | rfl | trivial⟩
                  case measure => simp [intOf]; omega
                · have hz1 : (z != -1000000000000000) = true := by simpa using hzb
                  cases hhj : M.hasB Lt (j : Int) with
                  | true =>
                    have HJ2 : Hid (∀ k, k < j + 1 → M.wtF M.fOne l e k ≠ -1000000000000000 → M.hasB Lt (k : Int) = true) := fun k hk hne => by
                      rcases Nat.lt_or_ge k j with q | q
                      · exact HJ.out k q hne
                      · obtain rfl : k = j := by omega
                        exact hhj
                    rw [hhj] at hlk
                    clear hzb hhj
                    go_wp2
                    go_roundw
                    case rel => exact ⟨j + 1, by omega, by go_num, HJ2, by first | rfl | trivial⟩
                    case measure => simp [intOf]; omega
                  | false =>
                    have HA2 : Hid (∀ k, k < e + 1 → M.rdy (M.wtF M.fOne l) N Lt k = false) := fun k hk => by
                      rcases Nat.lt_or_ge k e with q | q
                      · exact HA.out k q
                      · obtain rfl : k = e := by omega
                        cases hr : M.rdy (M.wtF M.fOne l) N Lt k with
                        | false => rfl
                        | true =>
                          have := (M.rdy_t.1 hr).2 j hjN (by rw [← HZ.out]; exact hzb)
                          rw [hhj] at this; cases this
                    rw [hhj] at hlk
                    clear hzb hhj
                    go_wp2
                    go_roundw
                    case rel => exact ⟨e + 1, by omega, by go_num, rfl, HA2, by first | rfl | trivial⟩
                    case measure => simp [intOf]; omega
              · obtain rfl : j = N := by omega
                have hrdy : M.rdy (M.wtF M.fOne l) j Lt e = true := M.rdy_t.2 ⟨HH.out, fun k hk hne => HJ.out k hk hne⟩
                have HNx : Hid (M.ordL (M.wtF M.fOne l) j (t + 1) = Lt ++ [(e : Int)]) := by show _ = _; rw [HLs.out, M.step_some (M.nxtO_is heN hrdy HA.out)]
                have HNl : Hid ((M.ordL (M.wtF M.fOne l) j (t + 1)).length = Ln + 1) := by show _ = _; rw [HNx.out, List.length_append, HLn.out]; rfl
                clear hrdy
                have hl10 := HLl.out
                go_wp2_with (first
                  | (at_mapUpdate; refine wpList_put _ rfl _ _ _ rfl (w.heap.size + 1) j (fun e => M.hasB Lt (e : Int)) e rfl HF.out.2.1 n2 heN HH.out rfl rfl ?_; intro w1 hs1 hg1; have HF1 := Lib.hid (HF.out.put hs1 hg1 HMd.out.2.1 HMd.out.1 HMd.out.2.2); have hsz1 := HF1.out.2.2.2.2; clear hs1 hg1)
                  | (at_builtin; refine append1 _ rfl (.tmp 46) (.tmp 48) rfl w3.heap.size _ _ _ Ln HLn.out rfl HF1.out.1 rfl (by rw [HLn.out]; omega) hsz1 ?_))
                intro b2 c2 w2 hO2 hb2 _
                have HF2 : Hid (FO w w3 (w.heap.size + 1) j (.slice b2 (Ln + 1) c2) (Lt ++ [(e : Int)]) (fun i => M.hasB (Lt ++ [(e : Int)]) (i : Int)) w2) := (HF1.out.app hO2 hb2 HMd.out.1 HMd.out.2.2).congr fun i _ => by
                  show (decide (i = e) || M.hasB Lt (i : Int)) = M.hasB (Lt ++ [(e : Int)]) (i : Int)
                  rw [M.has_snoc, Bool.or_comm]
                  congr 1
                  by_cases q : i = e
                  · subst q; simp
                  · rw [decide_eq_false q, decide_eq_false (by omega)]
                rw [← HNx.out] at HF2
                clear hO2 hb2
                go_wp2
                rw [Exit.noGoto_normal]
                go_wp2
                go_roundw
                case rel => exact ⟨t + 1, _, _, by omega, by go_num, by rw [HNl.out], HF2⟩
                case measure => simp [intOf]; omega
        · obtain rfl : e = N := by omega
          have HNx : Hid (M.ordL (M.wtF M.fOne l) e (t + 1) = Lt) := by show _ = _; rw [HLs.out, M.step_none (M.nxtO_none HA.out)]
          go_wp2
          rw [Exit.noGoto_normal]
          go_wp2
          go_roundw
          case rel => exact ⟨t + 1, _, _, by omega, by go_num, by rw [HNx.out, HLn.out], by rw [HNx.out]; exact HF⟩
          case measure => simp [intOf]; omega
    · obtain rfl : t = N := by omega
      obtain ⟨Ln, hLn⟩ : ∃ n, n = (M.ordL (M.wtF M.fOne l) t t).length := ⟨_, rfl⟩
      have HG : Hid (GBox wo w.heap.size t a n cap) := by
        have e := HF.out.2.2.1 w.heap.size (by have := HW3.out; omega) HgR.out
        exact ⟨(World.cell?_of_block (a := ⟨w.heap.size, 0, none⟩) e).trans HG3.out.1, (World.cell?_of_block (a := ⟨w.heap.size, 1, none⟩) e).trans HG3.out.2⟩
      obtain ⟨g0, g1⟩ := HG.out
      have HLv : Hid (M.liveB (M.wtF M.fOne l) t = ((Ln : Int) == (t : Int))) := by
        show _ = _
        unfold M.liveB
        rw [← hLn]
        by_cases q : Ln = t
        · subst q; simp
        · rw [decide_eq_false q]; symm; simp; omega
      rw [← hLn] at HF ⊢
      have HLn := Lib.hid hLn
      clear hLn
      go_wp2
      go_quiet (fail)
      go_wp2
      go_ret2
      refine ⟨ob, oc, ?_, ?_, ?_⟩
      · rw [HLv.out, ← HLn.out]; rfl
      · rw [← HLn.out]
        exact (HF.out.1.mono HMd.out.2.2).below (b_draws _ _)
      · exact below_drewN HF.out.2.2.2.1 _
end V
end Go.Proofs.YtlofnadpgnbmdaaGreat
