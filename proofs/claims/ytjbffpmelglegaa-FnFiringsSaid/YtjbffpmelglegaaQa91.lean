/- Texts laid together: DgB. -/
import Derived.Test.YtjbffpmelglegaaQa22
set_option linter.unusedSimpArgs false
set_option linter.unusedVariables false
set_option linter.unusedSectionVars false
namespace Go.Proofs.Ytjbffpmelglegaa
namespace V
set_option maxRecDepth 100000
open Go.RowKit
set_option maxRecDepth 100000 in
set_option maxHeartbeats 1000000 in
theorem pickB (K : Int → Prop) (g b off n cap : Nat) (w : World) (h : Src w g) (hn : 0 < n) (hm : n ≤ 100) (hbg : g < b) (hc : ∀ i, i < n → ∃ x : Int, K x ∧ w.cell? ⟨b, off + i, none⟩ = some (.int .i64 x)) :
    Calls Try.prog 97 #[.pointer (some ⟨g, 0, none⟩), .slice (some ⟨b, off, none⟩) n cap] w (fun e w' => ∃ x : Int, e = .returned (.int .i64 x) ∧ K x ∧ Src w' g ∧ Thr g w w') := by
  have hbl : b < w.heap.size := by obtain ⟨x, _, hx⟩ := hc 0 hn; exact cell_lt hx
  have hwf : (Lit.int .i64 (n : Int)).wf = true := wf_small _ (by omega) (by omega)
  go_enter Try.func97, Try.ntmps97
  go_wp2_with fail
  refine (next _ _ _ hwf h).mono ?_
  rintro e w1 ⟨x, rfl, hx1, hx2, hs, ht⟩
  obtain ⟨k, rfl⟩ := Int.eq_ofNat_of_zero_le hx1
  have hk : k < n := by omega
  obtain ⟨y, hy, hcy⟩ := hc k hk
  have hcy' : w1.cell? ⟨b, off + k, none⟩ = some (.int .i64 y) := by rw [ht.cell (p := ⟨b, off + k, none⟩) hbl (by show b ≠ g; omega)]; exact hcy
  have hki : (k : Int) < (n : Int) := by omega
  have HT := Lib.hid ht
  have HS := Lib.hid hs
  clear hc hcy ht hs hx2
  go_wp2
  go_ret
  exact ⟨y, rfl, hy, HS.out, HT.out⟩
/-- What a drawn graph is: a number and places in new memory. -/
def DrawGB (g : Nat) (w : World) (e : Ending) (w' : World) : Prop :=
  ∃ (x : Int) (q n c : Nat) (l : List M.Pc), e = .returned (.agg #[.int .i64 x, .slice (some ⟨q, 0, none⟩) n c]) ∧ OwnPl w' w.heap.size (.slice (some ⟨q, 0, none⟩) n c) l ∧ n ≤ 60 ∧ ((Lit.int .i64 x).wf = true ∧ 0 ≤ x ∧ x ≤ 11) ∧ Src w' g ∧ Thr g w w'
set_option maxRecDepth 100000 in
set_option maxHeartbeats 8000000 in
theorem draw11B (g : Nat) (w : World) (h : Src w g) :
    Calls Try.prog 117 #[.pointer (some ⟨g, 0, none⟩)] w (DrawGB g w) := by
  have HS := Lib.hid h
  have hg := h.lt
  clear h
  go_enter Try.func117, Try.ntmps117
  go_wp2_with fail
  refine (next _ _ _ (by decide) (HS.out.alloc _)).mono ?_
  rintro e w1 ⟨y, rfl, hy1, hy2, hs1, ht1⟩
  have hy3 : y < 5 := by omega
  have hb1 : w.heap.size < w1.heap.size := by have := ht1.below.size; simp at this; omega
  have HR1 := Lib.hid ((resG_new w 41).thr ht1 hg)
  have HT1 := Lib.hid (((Thr.refl g w).alloc (Nat.le_of_lt hg) _).trans ht1)
  have HS1 := Lib.hid hs1
  obtain ⟨x, hx⟩ : ∃ x, x = 1 + y := ⟨_, rfl⟩
  have hx1 : 1 ≤ x := by omega
  have hx2 : x ≤ 5 := by omega
  have HX := Lib.hid hx.symm
  have HGD0 : Hid (GD g w.heap.size (w1.heap.size + 1) w ((w1.alloc (.cells #[] 52)).alloc (.cells #[.int .i64 x, .slice (some ⟨w1.heap.size, 0, none⟩) 0 0] 41)) x w1.heap.size 0 0 []) := by
    have hb2 := b_alloc2 w1 (.cells #[] 52) (.cells #[.int .i64 x, .slice (some ⟨w1.heap.size, 0, none⟩) 0 0] 41)
    exact ⟨HR1.out.below hb2, by simp [go_sem], by simp [go_sem], by simp [go_sem], by simp [go_sem], ((ownPl_lit0 w1 w1.heap.size (Nat.le_refl _)).below (b_alloc _ _)).mono (by omega), by omega, by omega, by omega, Nat.le_refl _, by omega, by omega, hg, HS1.out.below (hb2.mono (by omega)), HT1.out.trans (Thr.of_below hb2 (by omega))⟩
  obtain ⟨gb, hgb⟩ : ∃ b, b = w1.heap.size + 1 := ⟨_, rfl⟩
  obtain ⟨w2, hw2⟩ : ∃ z, z = (w1.alloc (.cells #[] 52)).alloc (.cells #[.int .i64 x, .slice (some ⟨w1.heap.size, 0, none⟩) 0 0] 41) := ⟨_, rfl⟩
  have HW2 := Lib.hid hw2.symm
  have HGb := Lib.hid hgb.symm
  rw [← hw2, ← hgb] at HGD0
  clear hs1 ht1 hx hgb hw2 hy2
  go_wp2_with fail
  rw [HX.out, HW2.out]
  refine (next _ _ _ (by decide) HGD0.out.src).mono ?_
  rintro e w3 ⟨k0, rfl, hk1, hk2, hs3, ht3⟩
  have HGD3 := Lib.hid (HGD0.out.step hs3 ht3)
  obtain ⟨k, hk⟩ : ∃ k : Nat, k0 = (k : Int) := ⟨k0.toNat, by omega⟩
  subst hk
  have hk8 : k ≤ 8 := by omega
  rw [HGb.out]
  clear hs3 ht3 hk1 hk2
  go_wp2
  go_loopw [4, 5] (fun kv _ wr => ∃ (k : Nat) (q n c : Nat) (l : List M.Pc), kv = .int .i64 k ∧ n + k ≤ 8 ∧ Hid (GD g w.heap.size gb w wr x q n c l)) (fun kv _ _ => (intOf kv).toNat)
  case atStart => exact ⟨k, _, 0, 0, [], rfl, by omega, HGD3⟩
  case round =>
    clear HGD3 HGD0 HR1 HT1 HS1 HW2 hk8
    obtain ⟨k, q, n, c, l, rfl, hnk, HGD⟩ := hrel
    obtain ⟨wo, rfl⟩ : ∃ x, x = wr := ⟨_, rfl⟩
    by_cases hk0 : 0 < k
    · have hki : (0 : Int) < (k : Int) := by omega
      have wfx : (Lit.int .i64 x).wf = true := wf_small _ (by omega) (by omega)
      have hgl : gb < wo.heap.size := cell_lt HGD.out.ev
      have hrl : w.heap.size < wo.heap.size := cell_lt HGD.out.res.1
      have hql : q < wo.heap.size := (HGD.out.own.lt (k := q) rfl).2
      have hgg : g < w.heap.size := HGD.out.ls
      have hlg := HGD.out.lg
      have hev := HGD.out.ev
      go_upto_region 5 with fail
      go_cut [5] (fun s5 wx => DP g w.heap.size gb w wx x q n c l s5)
      case first =>
        have hI0 : wo.drew.cell? ⟨gb, 0, none⟩ = some (.int .i64 x) ∧ GD g w.heap.size gb w wo.drew x q n c l ∧ wo.heap.size ≤ wo.drew.heap.size := ⟨hev, HGD.out.below (b_draws wo 1), Nat.le_refl _⟩
        have hgo : g < wo.heap.size := by omega
        go_region_held3 (fun w' => w'.cell? ⟨gb, 0, none⟩ = some (.int .i64 x) ∧ GD g w.heap.size gb w w' x q n c l ∧ wo.heap.size ≤ w'.heap.size)
          (first
            | (with_reducible exact hI0)
            | (with_reducible exact kd_call ‹_ ∧ GD _ _ _ _ _ _ _ _ _ _ ∧ _› hs ht)
            | (with_reducible exact kd_alloc ‹_ ∧ GD _ _ _ _ _ _ _ _ _ _ ∧ _› _)
            | (with_reducible exact kd_alloc HK.out _)
            | (with_reducible exact kd_allocd HGD.out (Nat.le_refl _) _)
            | (with_reducible exact kd_store ‹_ ∧ GD _ _ _ _ _ _ _ _ _ _ ∧ _› Z hgl hrl hql)
            | assumption)
          ((go_at_call 98; refine (next _ _ _ ?wn ?hs).mono ?_; (case wn => first | exact wfx | decide); (case hs => exact (‹_ ∧ GD _ _ _ _ _ _ _ _ _ _ ∧ _› : _).2.1.src); rintro e wy ⟨y, rfl, hya, hyb, hs, ht⟩; (first | (with_reducible have Z := zbg_call ht hgo HK.out.2.2) | ((with_reducible have Z0 := zbg_call ht hgo hI0.2.2); (have Z : ZBg g wo.heap.size wy wo.heap.size := Z0); clear Z0) | (with_reducible have Z := zbg_calld ht hgo (Nat.le_refl _)) | (with_reducible have Z := ZBg.thr ‹ZBg _ _ _ _› ht) | skip); (try obtain ⟨⟨z0, z1, z2, z3, z4, z5, z6, z7⟩, -⟩ := id Z); have HK := Lib.hid (kd_call ‹_ ∧ GD _ _ _ _ _ _ _ _ _ _ ∧ _› hs ht)))
        all_goals
          go_wp2_with fail
          go_meet
          first
            | (with_reducible exact dp_new HK.out.2.1)
            | (with_reducible exact dp_oldZ HK.out.2.1 Z hgl hrl hql)
      case rest =>
        obtain ⟨z, p0, p1, p2, hs5, hPb, hGD, hz, hzq, hzr⟩ := hcut
        subst hs5
        have HPb := Lib.hid hPb
        have HGc := Lib.hid hGD
        obtain ⟨b0, b1, b2, b3, bf⟩ := hPb
        clear hGD HGD hev
        -- GEN
        have hzg : g < z := by have := HGc.out.lg; omega
        have hlg2 := HGc.out.lg
        by_cases hge : p1 ≤ p0
        · have hge' : p0 ≥ p1 := hge
          go_wp2_with fail
          refine (next _ _ _ (by decide) HGc.out.src).mono ?_
          rintro e wAa ⟨ya, rfl, hya1, hya2, hs, ht⟩
          have HGca := Lib.hid (HGc.out.step hs ht)
          have HPba := Lib.hid (HPb.out.thr ht hzg)
          clear hs ht b0 b1 b2 b3 bf
          go_wp2_with fail
          refine (next _ _ _ (by decide) HGca.out.src).mono ?_
          rintro e wAb ⟨yb, rfl, hyb1, hyb2, hs, ht⟩
          have HGcb := Lib.hid (HGca.out.step hs ht)
          have HPbb := Lib.hid (HPba.out.thr ht hzg)
          clear hs ht
          have hm := M.mul_bd ya yb (by omega) (by omega) (by omega) (by omega)
          obtain ⟨tk, htk⟩ : ∃ t, t = 1 + ya * yb := ⟨_, rfl⟩
          have HGcc : Hid (GD g w.heap.size gb w (wAb.setCell ⟨z, 3, none⟩ (.int .i64 tk)) x q n c l) := HGcb.out.other _ (by omega) (by omega) (by omega) hzq
          have HPbc : Hid (PB (wAb.setCell ⟨z, 3, none⟩ (.int .i64 tk)) z p0 p1 p2 tk) := HPbb.out.set3 tk
          obtain ⟨b0, b1, b2, b3, bf⟩ := HPbb.out
          obtain ⟨wAc, hwc⟩ : ∃ v, v = wAb.setCell ⟨z, 3, none⟩ (.int .i64 tk) := ⟨_, rfl⟩
          have htk' := Lib.hid htk.symm
          clear htk
          go_upto_region 8 with fail
          rw [htk'.out, ← hwc]
          rw [← hwc] at HGcc HPbc
          clear hwc b0 b1 b2 b3 bf
          obtain ⟨b0, b1, b2, b3, bf⟩ := HPbc.out
          go_wp2_with fail
          refine (next _ _ _ (by decide) HGcc.out.src).mono ?_
          rintro e wAd ⟨y3, rfl, -, -, hs, ht⟩
          have HGcct := Lib.hid (HGcc.out.step hs ht)
          have HPbct := Lib.hid (HPbc.out.thr ht hzg)
          clear hs ht b0 b1 b2 b3 bf
          by_cases hy0 : y3 = 0
          · subst hy0
            have HGccu : Hid (GD g w.heap.size gb w (wAd.setCell ⟨z, 3, none⟩ (.int .i64 0)) x q n c l) := HGcct.out.other _ (by omega) (by omega) (by omega) hzq
            have HPbcu : Hid (PB (wAd.setCell ⟨z, 3, none⟩ (.int .i64 0)) z p0 p1 p2 0) := HPbct.out.set3 0
            obtain ⟨b0, b1, b2, b3, bf⟩ := HPbct.out
            obtain ⟨wAdu, hwu⟩ : ∃ v, v = wAd.setCell ⟨z, 3, none⟩ (.int .i64 0) := ⟨_, rfl⟩
            go_upto_region 10 with fail
            rw [← hwu] at HGccu HPbcu ⊢
            clear hwu b0 b1 b2 b3 bf
            have hpl0 := HGccu.out.pl
            have hlen0 : Hid (l.length = n) := HGccu.out.own.len.symm
            have hwz0 : w.heap.size ≤ wAdu.heap.size := HGccu.out.thr.below.size
            have hwg0 : gb < wAdu.heap.size := cell_lt HGccu.out.ev
            have HOl0 := Lib.hid (HGccu.out.own.below (b_alloc wAdu (.cells #[.int .i64 p0, .int .i64 p1, .int .i64 p2, .int .i64 0] 52)))
            obtain ⟨b0, b1, b2, b3, bf⟩ := HPbcu.out
            go_wp2_with (at_builtin; refine appendPl _ rfl (.tmp 51) (.tmp 53) rfl w.heap.size (.slice (some ⟨q, 0, none⟩) n c) l [(p0, p1, p2, 0)] n 1 wAdu.heap.size 0 1 hlen0.out rfl HOl0.out (by simp) rfl (pls_one wAdu p0 p1 p2 0) (by omega) (by simp; omega) ?_)
            intro v' w5 hA
            obtain ⟨q', c', rfl, e1, e3, e0, hG'⟩ := GD.push HGccu.out (b_alloc wAdu _) hA
            clear hA
            go_wp2
            have HG' := Lib.hid hG'
            clear hG' e1 e3 e0
            go_roundw
            case rel => exact ⟨k - 1, q', n + 1, c', _, by rw [show ((k - 1 : Nat) : Int) = (k : Int) - 1 from by omega], by omega, HG'⟩
            case measure => simp [intOf]; omega
          · have hyb : (y3 == 0) = false := by simpa using hy0
            clear hy0
            have hpl1 := HGcct.out.pl
            have hlen1 : Hid (l.length = n) := HGcct.out.own.len.symm
            have hwz1 : w.heap.size ≤ wAd.heap.size := HGcct.out.thr.below.size
            have hwg1 : gb < wAd.heap.size := cell_lt HGcct.out.ev
            have HOl1 := Lib.hid (HGcct.out.own.below (b_alloc wAd (.cells #[.int .i64 p0, .int .i64 p1, .int .i64 p2, .int .i64 tk] 52)))
            obtain ⟨b0, b1, b2, b3, bf⟩ := HPbct.out
            go_wp2_with (at_builtin; refine appendPl _ rfl (.tmp 51) (.tmp 53) rfl w.heap.size (.slice (some ⟨q, 0, none⟩) n c) l [(p0, p1, p2, tk)] n 1 wAd.heap.size 0 1 hlen1.out rfl HOl1.out (by simp) rfl (pls_one wAd p0 p1 p2 tk) (by omega) (by simp; omega) ?_)
            intro v' w5 hA
            obtain ⟨q', c', rfl, e1, e3, e0, hG'⟩ := GD.push HGcct.out (b_alloc wAd _) hA
            clear hA
            go_wp2
            have HG' := Lib.hid hG'
            clear hG' e1 e3 e0
            go_roundw
            case rel => exact ⟨k - 1, q', n + 1, c', _, by rw [show ((k - 1 : Nat) : Int) = (k : Int) - 1 from by omega], by omega, HG'⟩
            case measure => simp [intOf]; omega
        · have hlt : p0 < p1 := by omega
          go_wp2_with fail
          refine (next _ _ _ (by decide) HGc.out.src).mono ?_
          rintro e wB ⟨y4, rfl, -, -, hs, ht⟩
          have HGe := Lib.hid (HGc.out.step hs ht)
          have HPe := Lib.hid (HPb.out.thr ht hzg)
          clear hs ht b0 b1 b2 b3 bf
          obtain ⟨b0, b1, b2, b3, bf⟩ := HPe.out
          by_cases hy4 : y4 = 0
          · subst hy4
            go_wp2_with fail
            refine (next _ _ _ (by decide) HGe.out.src).mono ?_
            rintro e wCa ⟨ya, rfl, hya1, hya2, hs, ht⟩
            have HGea := Lib.hid (HGe.out.step hs ht)
            have HPea := Lib.hid (HPe.out.thr ht hzg)
            clear hs ht b0 b1 b2 b3 bf
            go_wp2_with fail
            refine (next _ _ _ (by decide) HGea.out.src).mono ?_
            rintro e wCb ⟨yb, rfl, hyb1, hyb2, hs, ht⟩
            have HGeb := Lib.hid (HGea.out.step hs ht)
            have HPeb := Lib.hid (HPea.out.thr ht hzg)
            clear hs ht
            have hm := M.mul_bd ya yb (by omega) (by omega) (by omega) (by omega)
            obtain ⟨tk, htk⟩ : ∃ t, t = 1 + ya * yb := ⟨_, rfl⟩
            have HGec : Hid (GD g w.heap.size gb w (wCb.setCell ⟨z, 3, none⟩ (.int .i64 tk)) x q n c l) := HGeb.out.other _ (by omega) (by omega) (by omega) hzq
            have HPec : Hid (PB (wCb.setCell ⟨z, 3, none⟩ (.int .i64 tk)) z p0 p1 p2 tk) := HPeb.out.set3 tk
            obtain ⟨b0, b1, b2, b3, bf⟩ := HPeb.out
            obtain ⟨wCc, hwc⟩ : ∃ v, v = wCb.setCell ⟨z, 3, none⟩ (.int .i64 tk) := ⟨_, rfl⟩
            have htk' := Lib.hid htk.symm
            clear htk
            go_upto_region 8 with fail
            rw [htk'.out, ← hwc]
            rw [← hwc] at HGec HPec
            clear hwc b0 b1 b2 b3 bf
            obtain ⟨b0, b1, b2, b3, bf⟩ := HPec.out
            go_wp2_with fail
            refine (next _ _ _ (by decide) HGec.out.src).mono ?_
            rintro e wCd ⟨y3, rfl, -, -, hs, ht⟩
            have HGect := Lib.hid (HGec.out.step hs ht)
            have HPect := Lib.hid (HPec.out.thr ht hzg)
            clear hs ht b0 b1 b2 b3 bf
            by_cases hy0 : y3 = 0
            · subst hy0
              have HGecu : Hid (GD g w.heap.size gb w (wCd.setCell ⟨z, 3, none⟩ (.int .i64 0)) x q n c l) := HGect.out.other _ (by omega) (by omega) (by omega) hzq
              have HPecu : Hid (PB (wCd.setCell ⟨z, 3, none⟩ (.int .i64 0)) z p0 p1 p2 0) := HPect.out.set3 0
              obtain ⟨b0, b1, b2, b3, bf⟩ := HPect.out
              obtain ⟨wCdu, hwu⟩ : ∃ v, v = wCd.setCell ⟨z, 3, none⟩ (.int .i64 0) := ⟨_, rfl⟩
              go_upto_region 10 with fail
              rw [← hwu] at HGecu HPecu ⊢
              clear hwu b0 b1 b2 b3 bf
              have hpl2 := HGecu.out.pl
              have hlen2 : Hid (l.length = n) := HGecu.out.own.len.symm
              have hwz2 : w.heap.size ≤ wCdu.heap.size := HGecu.out.thr.below.size
              have hwg2 : gb < wCdu.heap.size := cell_lt HGecu.out.ev
              have HOl2 := Lib.hid (HGecu.out.own.below (b_alloc wCdu (.cells #[.int .i64 p0, .int .i64 p1, .int .i64 p2, .int .i64 0] 52)))
              obtain ⟨b0, b1, b2, b3, bf⟩ := HPecu.out
              go_wp2_with (at_builtin; refine appendPl _ rfl (.tmp 51) (.tmp 53) rfl w.heap.size (.slice (some ⟨q, 0, none⟩) n c) l [(p0, p1, p2, 0)] n 1 wCdu.heap.size 0 1 hlen2.out rfl HOl2.out (by simp) rfl (pls_one wCdu p0 p1 p2 0) (by omega) (by simp; omega) ?_)
              intro v' w5 hA
              obtain ⟨q', c', rfl, e1, e3, e0, hG'⟩ := GD.push HGecu.out (b_alloc wCdu _) hA
              clear hA
              go_wp2
              have HG' := Lib.hid hG'
              clear hG' e1 e3 e0
              go_roundw
              case rel => exact ⟨k - 1, q', n + 1, c', _, by rw [show ((k - 1 : Nat) : Int) = (k : Int) - 1 from by omega], by omega, HG'⟩
              case measure => simp [intOf]; omega
            · have hyb : (y3 == 0) = false := by simpa using hy0
              clear hy0
              have hpl3 := HGect.out.pl
              have hlen3 : Hid (l.length = n) := HGect.out.own.len.symm
              have hwz3 : w.heap.size ≤ wCd.heap.size := HGect.out.thr.below.size
              have hwg3 : gb < wCd.heap.size := cell_lt HGect.out.ev
              have HOl3 := Lib.hid (HGect.out.own.below (b_alloc wCd (.cells #[.int .i64 p0, .int .i64 p1, .int .i64 p2, .int .i64 tk] 52)))
              obtain ⟨b0, b1, b2, b3, bf⟩ := HPect.out
              go_wp2_with (at_builtin; refine appendPl _ rfl (.tmp 51) (.tmp 53) rfl w.heap.size (.slice (some ⟨q, 0, none⟩) n c) l [(p0, p1, p2, tk)] n 1 wCd.heap.size 0 1 hlen3.out rfl HOl3.out (by simp) rfl (pls_one wCd p0 p1 p2 tk) (by omega) (by simp; omega) ?_)
              intro v' w5 hA
              obtain ⟨q', c', rfl, e1, e3, e0, hG'⟩ := GD.push HGect.out (b_alloc wCd _) hA
              clear hA
              go_wp2
              have HG' := Lib.hid hG'
              clear hG' e1 e3 e0
              go_roundw
              case rel => exact ⟨k - 1, q', n + 1, c', _, by rw [show ((k - 1 : Nat) : Int) = (k : Int) - 1 from by omega], by omega, HG'⟩
              case measure => simp [intOf]; omega
          · have hy4b : (y4 == 0) = false := by simpa using hy4
            clear hy4
            go_wp2_with fail
            refine (next _ _ _ (by decide) HGe.out.src).mono ?_
            rintro e wD ⟨y3, rfl, -, -, hs, ht⟩
            have HGet := Lib.hid (HGe.out.step hs ht)
            have HPet := Lib.hid (HPe.out.thr ht hzg)
            clear hs ht b0 b1 b2 b3 bf
            by_cases hy0 : y3 = 0
            · subst hy0
              have HGeu : Hid (GD g w.heap.size gb w (wD.setCell ⟨z, 3, none⟩ (.int .i64 0)) x q n c l) := HGet.out.other _ (by omega) (by omega) (by omega) hzq
              have HPeu : Hid (PB (wD.setCell ⟨z, 3, none⟩ (.int .i64 0)) z p0 p1 p2 0) := HPet.out.set3 0
              obtain ⟨b0, b1, b2, b3, bf⟩ := HPet.out
              obtain ⟨wDu, hwu⟩ : ∃ v, v = wD.setCell ⟨z, 3, none⟩ (.int .i64 0) := ⟨_, rfl⟩
              go_upto_region 10 with fail
              rw [← hwu] at HGeu HPeu ⊢
              clear hwu b0 b1 b2 b3 bf
              have hpl4 := HGeu.out.pl
              have hlen4 : Hid (l.length = n) := HGeu.out.own.len.symm
              have hwz4 : w.heap.size ≤ wDu.heap.size := HGeu.out.thr.below.size
              have hwg4 : gb < wDu.heap.size := cell_lt HGeu.out.ev
              have HOl4 := Lib.hid (HGeu.out.own.below (b_alloc wDu (.cells #[.int .i64 p0, .int .i64 p1, .int .i64 p2, .int .i64 0] 52)))
              obtain ⟨b0, b1, b2, b3, bf⟩ := HPeu.out
              go_wp2_with (at_builtin; refine appendPl _ rfl (.tmp 51) (.tmp 53) rfl w.heap.size (.slice (some ⟨q, 0, none⟩) n c) l [(p0, p1, p2, 0)] n 1 wDu.heap.size 0 1 hlen4.out rfl HOl4.out (by simp) rfl (pls_one wDu p0 p1 p2 0) (by omega) (by simp; omega) ?_)
              intro v' w5 hA
              obtain ⟨q', c', rfl, e1, e3, e0, hG'⟩ := GD.push HGeu.out (b_alloc wDu _) hA
              clear hA
              go_wp2
              have HG' := Lib.hid hG'
              clear hG' e1 e3 e0
              go_roundw
              case rel => exact ⟨k - 1, q', n + 1, c', _, by rw [show ((k - 1 : Nat) : Int) = (k : Int) - 1 from by omega], by omega, HG'⟩
              case measure => simp [intOf]; omega
            · have hyb : (y3 == 0) = false := by simpa using hy0
              clear hy0
              have hpl5 := HGet.out.pl
              have hlen5 : Hid (l.length = n) := HGet.out.own.len.symm
              have hwz5 : w.heap.size ≤ wD.heap.size := HGet.out.thr.below.size
              have hwg5 : gb < wD.heap.size := cell_lt HGet.out.ev
              have HOl5 := Lib.hid (HGet.out.own.below (b_alloc wD (.cells #[.int .i64 p0, .int .i64 p1, .int .i64 p2, .int .i64 0] 52)))
              obtain ⟨b0, b1, b2, b3, bf⟩ := HPet.out
              go_wp2_with (at_builtin; refine appendPl _ rfl (.tmp 51) (.tmp 53) rfl w.heap.size (.slice (some ⟨q, 0, none⟩) n c) l [(p0, p1, p2, 0)] n 1 wD.heap.size 0 1 hlen5.out rfl HOl5.out (by simp) rfl (pls_one wD p0 p1 p2 0) (by omega) (by simp; omega) ?_)
              intro v' w5 hA
              obtain ⟨q', c', rfl, e1, e3, e0, hG'⟩ := GD.push HGet.out (b_alloc wD _) hA
              clear hA
              go_wp2
              have HG' := Lib.hid hG'
              clear hG' e1 e3 e0
              go_roundw
              case rel => exact ⟨k - 1, q', n + 1, c', _, by rw [show ((k - 1 : Nat) : Int) = (k : Int) - 1 from by omega], by omega, HG'⟩
              case measure => simp [intOf]; omega
    · obtain rfl : k = 0 := by omega
      have hn8 : n ≤ 8 := by omega
      have wfx : (Lit.int .i64 x).wf = true := wf_small _ (by omega) (by omega)
      go_wp2_with fail
      refine (next _ _ _ (by decide) HGD.out.src).mono ?_
      rintro e ws ⟨sw, rfl, hsw1, hsw2, hs, ht⟩
      have HGs := Lib.hid (HGD.out.step hs ht)
      have hgl : gb < ws.heap.size := cell_lt HGs.out.ev
      have hrl : w.heap.size < ws.heap.size := cell_lt HGs.out.res.1
      have hql : q < ws.heap.size := (HGs.out.own.lt (k := q) rfl).2
      have hgg : g < w.heap.size := HGs.out.ls
      clear hs ht HGD
      by_cases hs0 : sw = 0
      · subst hs0
        go_wp2_with fail
        refine (pickB (fun y => (Lit.int .i64 y).wf = true ∧ 0 ≤ y ∧ y ≤ 11) g ws.heap.size 0 3 3 _ (HGs.out.src.alloc _) (by omega) (by omega) (by omega) (fun i hi => by
          have hi3 : i = 0 ∨ i = 1 ∨ i = 2 := by omega
          rcases hi3 with rfl | rfl | rfl
          · exact ⟨0, ⟨by decide, by decide, by decide⟩, by simp [go_sem]⟩
          · exact ⟨10, ⟨by decide, by decide, by decide⟩, by simp [go_sem]⟩
          · exact ⟨11, ⟨by decide, by decide, by decide⟩, by simp [go_sem]⟩)).mono ?_
        rintro e wp ⟨xe, rfl, wfe, hs, ht⟩
        have HGp := Lib.hid ((HGs.out.below (b_alloc ws _)).step hs ht)
        have HGe := Lib.hid (HGp.out.setX xe)
        have hev := HGp.out.ev
        have hf0 := HGp.out.f0
        have hglp : gb < wp.heap.size := cell_lt hev
        obtain ⟨we, hwe⟩ : ∃ v, v = wp.setCell ⟨gb, 0, none⟩ (.int .i64 xe) := ⟨_, rfl⟩
        have hpl := HGp.out.pl
        clear hs ht
        go_upto_region 23 with fail
        rw [← hwe] at HGe ⊢
        clear hwe hev hf0 hpl
        obtain ⟨r0, r1, r2, r3⟩ := HGe.out.res
        have hgf := HGe.out.fin
        have HF := Lib.hid hgf
        have hgev := HGe.out.ev
        have hgpl := HGe.out.pl
        have hrl' : w.heap.size < we.heap.size := cell_lt r0
        clear hgf
        go_wp2
        exact bodyPost_ret (v := .agg #[.int .i64 xe, .slice (some ⟨q, 0, none⟩) n c]) (by simp [results, Try.results117, go_sem, r0, r1, hrl']) rfl ⟨_, _, _, _, _, rfl, HF.out.1, by omega, wfe, HF.out.2.1, HF.out.2.2⟩
      · have hs0b : (sw == 0) = false := by simpa using hs0
        by_cases hs1 : sw = 1
        · subst hs1
          have hgs : g < ws.heap.size := by omega
          have hpl := HGs.out.pl
          have hev := HGs.out.ev
          have hf1 := HGs.out.f1
          have HA := Lib.hid (b_alloc ws (.cells #[.int .i64 (-1), .int .i64 0, .int .i64 x] 2))
          have HB := Lib.hid (b_alloc ws (.cells #[.int .i64 (-1), .int .i64 1000, .int .i64 1001] 2))
          have HAB := Lib.hid (b_alloc2 ws (.cells #[.int .i64 (-1), .int .i64 0, .int .i64 x] 2) (.cells #[.int .i64 (-1), .int .i64 1000, .int .i64 1001] 2))
          have HBA := Lib.hid (b_alloc2 ws (.cells #[.int .i64 (-1), .int .i64 1000, .int .i64 1001] 2) (.cells #[.int .i64 (-1), .int .i64 0, .int .i64 x] 2))
          have pa := (HGs.out.below HA.out).pl
          have pb := (HGs.out.below HB.out).pl
          have pab := (HGs.out.below HAB.out).pl
          have pba := (HGs.out.below HBA.out).pl
          have va := (HGs.out.below HA.out).ev
          have vb := (HGs.out.below HB.out).ev
          have hlen : Hid (l.length = n) := HGs.out.own.len.symm
          have CA : Hid (∀ v : World, CO (v.alloc (.cells #[.int .i64 (-1), .int .i64 0, .int .i64 x] 2)) v.heap.size) := fun v => co_new v (-1) 0 x _ (by decide) (by decide) wfx
          have CB : Hid (∀ v : World, CO (v.alloc (.cells #[.int .i64 (-1), .int .i64 1000, .int .i64 1001] 2)) v.heap.size) := fun v => co_new v (-1) 1000 1001 _ (by decide) (by decide) (by decide)
          have hC2a : Hid (CO ((ws.alloc (.cells #[.int .i64 (-1), .int .i64 0, .int .i64 x] 2)).alloc (.cells #[.int .i64 (-1), .int .i64 1000, .int .i64 1001] 2)).drew (ws.heap.size + 1)) := by
            have h1 := CB.out (ws.alloc (.cells #[.int .i64 (-1), .int .i64 0, .int .i64 x] 2))
            rw [show (ws.alloc (.cells #[.int .i64 (-1), .int .i64 0, .int .i64 x] 2)).heap.size = ws.heap.size + 1 from by simp] at h1
            exact h1
          have hC2b : Hid (CO ((ws.alloc (.cells #[.int .i64 (-1), .int .i64 1000, .int .i64 1001] 2)).alloc (.cells #[.int .i64 (-1), .int .i64 0, .int .i64 x] 2)).drew ws.heap.size) := (CB.out ws).alloc _
          have hC1c : Hid (CO ((ws.alloc (.cells #[.int .i64 (-1), .int .i64 1000, .int .i64 1001] 2)).alloc (.cells #[.int .i64 (-1), .int .i64 0, .int .i64 x] 2)).drew (ws.heap.size + 1)) := by
            have h1 := CA.out (ws.alloc (.cells #[.int .i64 (-1), .int .i64 1000, .int .i64 1001] 2))
            rw [show (ws.alloc (.cells #[.int .i64 (-1), .int .i64 1000, .int .i64 1001] 2)).heap.size = ws.heap.size + 1 from by simp] at h1
            exact h1
          go_upto_region 15 with fail
          go_region_law (first
            | (refine step_appendPl _ rfl (.tmp 67) (.tmp 77) rfl w.heap.size (.slice (some ⟨q, 0, none⟩) n c) l [(ya, 0, yb, 1)] n 1 wq.heap.size 0 1 hlen.out rfl (HGq.out.own.below (b_alloc wq _)) (by simp) rfl (pls_one wq ya 0 yb 1) (by omega) (by simp; omega) ?_; intro v' w5 hA; obtain ⟨q', c', rfl, e1, e3, e0, hG'⟩ := GD.push HGq.out (b_alloc wq _) hA; have HG' := Lib.hid hG'; clear hA hG')
            | (go_simp; go_at_call 97; refine (pick g _ 0 3 3 _ ?hs (by omega) (by omega) ?hb ?hc).mono ?_; (case hs => first | exact HGp.out.src.alloc _ | exact HGp.out.src); (case hb => first | omega | (simp; omega)); (case hc => first | exact CB.out wp | exact C2.out); rintro e wq ⟨yb, rfl, wfb, hs, ht⟩; have HGq := Lib.hid (by first | exact HGp.out.step hs ht | exact (HGp.out.below (b_alloc wp _)).step hs ht); have plr := HGq.out.pl; have pls := (HGq.out.below (b_alloc wq (.cells #[.int .i64 ya, .int .i64 0, .int .i64 yb, .int .i64 1] 52))).pl; have hwz : w.heap.size ≤ wq.heap.size := HGq.out.thr.below.size; clear hs ht)
            | (go_simp; go_at_call 97; refine (pick g _ 0 3 3 _ ?hs (by omega) (by omega) ?hb ?hc).mono ?_; (case hs => first | exact (HGs.out.below HA.out.drew).src | exact (HGs.out.below HAB.out.drew).src | exact (HGs.out.below HBA.out.drew).src); (case hb => first | omega | (simp; omega)); (case hc => first | exact CA.out ws | exact (CA.out ws).alloc _ | exact hC1c.out); rintro e wp ⟨ya, rfl, wfa, hs, ht⟩; have HGp : Hid (GD g w.heap.size gb w wp x q n c l) := (by first | exact (HGs.out.below HA.out.drew).step hs ht | exact (HGs.out.below HAB.out.drew).step hs ht | exact (HGs.out.below HBA.out.drew).step hs ht); (first | (have C2 := Lib.hid (hC2a.out.thr ht (by omega))) | (have C2 := Lib.hid (hC2b.out.thr ht (by omega))) | skip); have plp := HGp.out.pl; have plq := (HGp.out.below (b_alloc wp (.cells #[.int .i64 (-1), .int .i64 1000, .int .i64 1001] 2))).pl; have hwp : g < wp.heap.size := HGp.out.src.lt; clear hs ht))
          all_goals
            obtain ⟨we, hwe⟩ : ∃ v, v = w5.setCell ⟨gb, 1, none⟩ (.slice (some ⟨q', 0, none⟩) (n + 1) c') := ⟨_, rfl⟩
            rw [← hwe] at HG' ⊢
            clear hwe e1 e3 e0
            have wfe : (Lit.int .i64 x).wf = true ∧ 0 ≤ x ∧ x ≤ 11 := ⟨wfx, by omega, by omega⟩
            obtain ⟨r0, r1, r2, r3⟩ := HG'.out.res
            have hgf := HG'.out.fin
            have HF := Lib.hid hgf
            have hgev := HG'.out.ev
            have hgpl := HG'.out.pl
            have hrl' : w.heap.size < we.heap.size := cell_lt r0
            clear hgf
            go_wp2
            exact bodyPost_ret (v := .agg #[.int .i64 x, .slice (some ⟨q', 0, none⟩) (n + 1) c']) (by simp [results, Try.results117, go_sem, r0, r1, hrl']) rfl ⟨_, _, _, _, _, rfl, HF.out.1, by omega, wfe, HF.out.2.1, HF.out.2.2⟩
        · have hs1b : (sw == 1) = false := by simpa using hs1
          by_cases hs2 : sw = 2
          · subst hs2
            have hpl := HGs.out.pl
            have hlit : Below ws.heap.size ws (ws.alloc (.cells #[.int .i64 5, .int .i64 6, .int .i64 (-1)] 2)) := b_alloc ws _
            have hpl2 := (HGs.out.below hlit).pl
            have hf1 := HGs.out.f1
            have hlen : Hid (l.length = n) := HGs.out.own.len.symm
            have HLit := Lib.hid hlit
            clear hlit
            go_upto_region 17 with fail
            go_region_law (first
              | (refine step_appendPl _ rfl (.tmp 83) (.tmp 88) rfl w.heap.size (.slice (some ⟨q, 0, none⟩) n c) l [(0, 0, 0, y)] n 1 wp.heap.size 0 1 hlen.out rfl (HGp.out.own.below (b_alloc wp _)) (by simp) rfl (pls_one wp 0 0 0 y) (by omega) (by simp; omega) ?_; intro v' w5 hA; obtain ⟨q', c', rfl, e1, e3, e0, hG'⟩ := GD.push HGp.out (b_alloc wp _) hA; have HG' := Lib.hid hG'; clear hA hG')
              | (go_simp; go_at_call 97; refine (pick g ws.heap.size 0 3 3 _ ?hs (by omega) (by omega) (by omega) ?hc).mono ?_; (case hs => first | exact HGs.out.src.alloc _ | exact (HGs.out.src.alloc _).drew); (case hc => exact litCells ws [5, 6, -1] _ _ rfl (by decide)); rintro e wp ⟨y, rfl, wfy, hs, ht⟩; have HGp := Lib.hid ((HGs.out.below (HLit.out.drew)).step hs ht); have plp := HGp.out.pl; have plq := (HGp.out.below (b_alloc wp (.cells #[.int .i64 0, .int .i64 0, .int .i64 0, .int .i64 y] 52))).pl; have hwz : w.heap.size ≤ wp.heap.size := HGp.out.thr.below.size; clear hs ht))
            all_goals
              obtain ⟨we, hwe⟩ : ∃ v, v = w5.setCell ⟨gb, 1, none⟩ (.slice (some ⟨q', 0, none⟩) (n + 1) c') := ⟨_, rfl⟩
              rw [← hwe] at HG' ⊢
              clear hwe e1 e3 e0
              have wfe : (Lit.int .i64 x).wf = true ∧ 0 ≤ x ∧ x ≤ 11 := ⟨wfx, by omega, by omega⟩
              obtain ⟨r0, r1, r2, r3⟩ := HG'.out.res
              have hgf := HG'.out.fin
              have HF := Lib.hid hgf
              have hgev := HG'.out.ev
              have hgpl := HG'.out.pl
              have hrl' : w.heap.size < we.heap.size := cell_lt r0
              clear hgf
              go_wp2
              exact bodyPost_ret (v := .agg #[.int .i64 x, .slice (some ⟨q', 0, none⟩) (n + 1) c']) (by simp [results, Try.results117, go_sem, r0, r1, hrl']) rfl ⟨_, _, _, _, _, rfl, HF.out.1, by omega, wfe, HF.out.2.1, HF.out.2.2⟩
          · have hs2b : (sw == 2) = false := by simpa using hs2
            by_cases hs3 : sw = 3
            · subst hs3
              go_wp2
              go_loopw [6] (fun kv wr => ∃ (k q n c : Nat) (l : List M.Pc), kv = .int .i64 k ∧ n ≤ 8 + k ∧ k ≤ 30 ∧ Hid (GD g w.heap.size gb w wr x q n c l)) (fun kv _ => 31 - (intOf kv).toNat)
              case atStart => exact ⟨0, q, n, c, l, rfl, by omega, by omega, HGs⟩
              case round =>
                clear HGs hgl hrl hql
                obtain ⟨k, q, n, c, l, rfl, hnk, hk30, HGD⟩ := hrel
                obtain ⟨wo, rfl⟩ : ∃ x, x = wr := ⟨_, rfl⟩
                go_wp2_with fail
                refine (next _ _ _ (by decide) HGD.out.src).mono ?_
                rintro e wn ⟨y9, rfl, hy91, hy92, hs, ht⟩
                have HGn := Lib.hid (HGD.out.step hs ht)
                clear hs ht
                by_cases hky : (k : Int) < 22 + y9
                · have hpl := HGn.out.pl
                  have hlen : Hid (l.length = n) := HGn.out.own.len.symm
                  have hwz : w.heap.size ≤ wn.heap.size := HGn.out.thr.below.size
                  have hwg : gb < wn.heap.size := cell_lt HGn.out.ev
                  have HOl := Lib.hid (HGn.out.own.below (b_alloc wn (.cells #[.int .i64 0, .int .i64 0, .int .i64 k, .int .i64 1] 52)))
                  go_wp2_with (at_builtin; refine appendPl _ rfl (.tmp 101) (.tmp 104) rfl w.heap.size (.slice (some ⟨q, 0, none⟩) n c) l [(0, 0, (k : Int), 1)] n 1 wn.heap.size 0 1 hlen.out rfl HOl.out (by simp) rfl (pls_one wn 0 0 k 1) (by omega) (by simp; omega) ?_)
                  intro v' w5 hA
                  obtain ⟨q', c', rfl, e1, e3, e0, hG'⟩ := GD.push HGn.out (b_alloc wn _) hA
                  clear hA
                  go_wp2
                  have HG' := Lib.hid hG'
                  clear hG' e1 e3 e0
                  go_roundw
                  case rel => exact ⟨k + 1, q', n + 1, c', _, by go_num, by omega, by omega, HG'⟩
                  case measure => simp [intOf]; omega
                · have wfe : (Lit.int .i64 x).wf = true ∧ 0 ≤ x ∧ x ≤ 11 := ⟨wfx, by omega, by omega⟩
                  obtain ⟨r0, r1, r2, r3⟩ := HGn.out.res
                  have hgf := HGn.out.fin
                  have HF := Lib.hid hgf
                  have hgev := HGn.out.ev
                  have hgpl := HGn.out.pl
                  have hrl' : w.heap.size < wn.heap.size := cell_lt r0
                  clear hgf
                  go_wp2
                  exact bodyPost_ret (v := .agg #[.int .i64 x, .slice (some ⟨q, 0, none⟩) n c]) (by simp [results, Try.results117, go_sem, r0, r1, hrl']) rfl ⟨_, _, _, _, _, rfl, HF.out.1, by omega, wfe, HF.out.2.1, HF.out.2.2⟩
            · have hs3b : (sw == 3) = false := by simpa using hs3
              have wfe : (Lit.int .i64 x).wf = true ∧ 0 ≤ x ∧ x ≤ 11 := ⟨wfx, by omega, by omega⟩
              obtain ⟨r0, r1, r2, r3⟩ := HGs.out.res
              have hgf := HGs.out.fin
              have HF := Lib.hid hgf
              have hgev := HGs.out.ev
              have hgpl := HGs.out.pl
              have hrl' : w.heap.size < ws.heap.size := cell_lt r0
              clear hgf
              go_wp2
              exact bodyPost_ret (v := .agg #[.int .i64 x, .slice (some ⟨q, 0, none⟩) n c]) (by simp [results, Try.results117, go_sem, r0, r1, hrl']) rfl ⟨_, _, _, _, _, rfl, HF.out.1, by omega, wfe, HF.out.2.1, HF.out.2.2⟩
end V
end Go.Proofs.Ytjbffpmelglegaa
