/- Texts laid together: Rch. -/
import Derived.Test.YtjbffpmelglegaaQa45
import Derived.Test.YtjbffpmelglegaaQa46
import Derived.Deep.RegionWith
import Derived.Deep.RegionHeld3
import Derived.BigQuiet
set_option linter.unusedSimpArgs false
set_option linter.unusedVariables false
set_option linter.unusedSectionVars false
namespace Go.Proofs.Ytjbffpmelglegaa
namespace M
open Go.RowKit
def zst : Nat → Int := fun _ => 0
def ftRes (x : Int) (l : List Pc) (n : Int) : List (List Int) × Int := if inCode (lvCode x l) (inB n 0 50) = 0 then (timM l (ordL (wtF fOne l) x.toNat x.toNat) zst x.toNat n.toNat, 0) else ([], inCode (lvCode x l) (inB n 0 50))
def ft1Res (x : Int) (l : List Pc) (e k : Int) : Int × Int := if inCode (lvCode x l) (inB e 0 (wrap64 (x - 1)) && inB k 1 50) = 0 then (tabT l (ordL (wtF fOne l) x.toNat x.toNat) zst k.toNat k.toNat e.toNat, 0) else (0, inCode (lvCode x l) (inB e 0 (wrap64 (x - 1)) && inB k 1 50))
theorem pre_mk (m n : Nat) (f : Nat → Nat → Int) : pre (mk m n f) (mk m n f).length = m * n := by
  have e : (mk m n f).map List.length = List.replicate m n := by
    apply List.ext_getElem
    · simp
    · intro i h1 h2; simp [mk]
  unfold pre
  rw [List.take_length, e]
  simp
theorem ftRes_ok (x : Int) (l : List Pc) (n : Int) : pre (ftRes x l n).1 (ftRes x l n).1.length ≤ 2000 ∧ (ftRes x l n).1.length ≤ 101 := by
  unfold ftRes
  by_cases h : inCode (lvCode x l) (inB n 0 50) = 0
  · rw [if_pos h]
    obtain ⟨h1, h2⟩ := inCode_t h
    have hx : x.toNat ≤ 10 := by
      have := (lv_zero h1).1
      unfold isGr inB at this
      simp only [Bool.and_eq_true, decide_eq_true_eq] at this
      omega
    have hn : n.toNat ≤ 50 := by
      unfold inB at h2
      simp only [Bool.and_eq_true, decide_eq_true_eq] at h2
      omega
    show pre (mk _ _ _) (mk _ _ _).length ≤ 2000 ∧ (mk _ _ _).length ≤ 101
    rw [pre_mk, mk_length]
    have : n.toNat * x.toNat ≤ 50 * 10 := Nat.mul_le_mul hn hx
    omega
  · rw [if_neg h]
    exact ⟨by simp [pre], by simp⟩
theorem delRes_ok (x : Int) (l : List Pc) (m : Int) : pre (delRes x l m).1 (delRes x l m).1.length ≤ 2000 ∧ (delRes x l m).1.length ≤ 101 := by
  unfold delRes
  cases h : isGr x l with
  | false => exact ⟨by simp [pre], by simp⟩
  | true =>
    have hx : x.toNat ≤ 10 := by
      unfold isGr inB at h
      simp only [Bool.and_eq_true, decide_eq_true_eq] at h
      omega
    cases inB m 0 5 with
    | false => exact ⟨by simp [pre], by simp⟩
    | true =>
      show pre (mk _ _ _) (mk _ _ _).length ≤ 2000 ∧ (mk _ _ _).length ≤ 101
      rw [pre_mk, mk_length]
      have : x.toNat * x.toNat ≤ 10 * 10 := Nat.mul_le_mul hx hx
      omega
theorem cloRes_ok (x : Int) (l : List Pc) (m : Int) : pre (cloRes x l m).1 (cloRes x l m).1.length ≤ 2000 ∧ (cloRes x l m).1.length ≤ 101 := by
  unfold cloRes
  by_cases h : inCode (lvCode x l) (inB m 1 5) = 0
  · rw [if_pos h]
    obtain ⟨h1, h2⟩ := inCode_t h
    have hx : x.toNat ≤ 10 := by
      have := (lv_zero h1).1
      unfold isGr inB at this
      simp only [Bool.and_eq_true, decide_eq_true_eq] at this
      omega
    show pre (mk _ _ _) (mk _ _ _).length ≤ 2000 ∧ (mk _ _ _).length ≤ 101
    rw [pre_mk, mk_length]
    have : x.toNat * x.toNat ≤ 10 * 10 := Nat.mul_le_mul hx hx
    omega
  · rw [if_neg h]
    exact ⟨by simp [pre], by simp⟩
end M
namespace V
set_option maxRecDepth 100000
open Go.RowKit
theorem keepR {w0 w1 w2 : World} {G : Nat} {p q : Value} (h : w1.cell? ⟨G, 0, none⟩ = some p ∧ w1.cell? ⟨G, 1, none⟩ = some q ∧ Below w0.heap.size w0 w1) (hb : Below w1.heap.size w1 w2) :
    w2.cell? ⟨G, 0, none⟩ = some p ∧ w2.cell? ⟨G, 1, none⟩ = some q ∧ Below w0.heap.size w0 w2 := by
  obtain ⟨h1, h2, h3⟩ := h
  exact ⟨(hb.cell (cell_lt h1)).trans h1, (hb.cell (cell_lt h2)).trans h2, h3.trans (hb.mono h3.size)⟩
theorem lv_live {x : Int} {l : List M.Pc} (h : M.lvCode x l = 0) : ∃ N : Nat, x = (N : Int) ∧ M.isGr (N : Int) l = true ∧ M.liveB (M.wtF M.fOne l) N = true ∧ M.noPos (M.wtF M.fOne l) N = true ∧ 1 ≤ N ∧ N ≤ 10 := by
  obtain ⟨h1, h2⟩ := M.lv_zero h
  obtain ⟨N, rfl, n1, n2⟩ := gr_nat h1
  have h2 : M.liveB (M.wtF M.fOne l) N = true := h2
  exact ⟨N, rfl, h1, h2, M.live_noPos (M.uz_graph l) n2 h2, n1, n2⟩
theorem unstarted (e : Int) (w : World) : Calls Try.prog 93 #[.int .i64 e] w fun z w' => z = .returned (.int .i64 0) ∧ w' = w := by
  go_enter Try.func93, Try.ntmps93
  go_wp2
  go_ret
  exact ⟨rfl, rfl⟩
set_option maxRecDepth 100000 in
set_option maxHeartbeats 4000000 in
theorem firingTimes (x : Int) (a : Option Addr) (n cap : Nat) (l : List M.Pc) (nI : Int) (w : World) (h : Pls w a n l) :
    Calls Try.prog 45 #[.agg #[.int .i64 x, .slice a n cap], .int .i64 nI] w (MRes (M.ftRes x l nI) w) := by
  have HI := Lib.hid h
  have hb0 := b_alloc w (.cells #[.int .i64 x, .slice a n cap] 41)
  have hG := gBox_new w x a n cap 41
  obtain ⟨wb, hwb⟩ : ∃ z, z = w.alloc (.cells #[.int .i64 x, .slice a n cap] 41) := ⟨_, rfl⟩
  rw [← hwb] at hb0 hG
  have HWb := Lib.hid hwb.symm
  have HG := Lib.hid hG
  have HB0 := Lib.hid hb0
  obtain ⟨u, hu⟩ : ∃ u, u = M.inB nI 0 50 := ⟨_, rfl⟩
  obtain ⟨cd, hcd⟩ : ∃ c, c = M.inCode (M.lvCode x l) u := ⟨_, rfl⟩
  obtain ⟨L, hL⟩ : ∃ L, L = M.ordL (M.wtF M.fOne l) x.toNat x.toNat := ⟨_, rfl⟩
  have HC : Hid (∀ w', Below wb.heap.size wb w' → Calls Try.prog 87 #[.agg #[.int .i64 x, .slice a n cap], .bool u] w' (VRes (if cd = 0 then (L, 0) else ([], cd)) w')) := fun w' hb' => by
    have := liveOrder x a n cap l u w' (h.below (hb0.trans (hb'.mono hb0.size)))
    unfold M.lvoRes at this
    rw [← hcd, ← hL] at this
    exact this
  have HCd := Lib.hid hcd
  have HU := Lib.hid hu
  have HL := Lib.hid hL
  obtain ⟨g0, g1⟩ := hG
  rw [hwb] at g0 g1
  clear h hb0 hwb hcd hu hL
  have HUp : Hid (∀ W, Calls Try.prog 91 #[.int .i64 nI, .int .i64 50] W fun e w' => e = .returned (.bool u) ∧ W = w') := fun W => by rw [HU.out]; exact isUpTo nI 50 W
  by_cases h0 : cd = 0
  · subst h0
    rw [if_pos rfl] at HC
    go_enter Try.func45, Try.ntmps45
    go_wp2
    rw [HWb.out]
    clear g0 g1
    obtain ⟨g0, g1⟩ := HG.out
    go_region_with (first
      | (go_at_call 91; refine (HUp.out _).mono ?_; rintro e w' ⟨rfl, rfl⟩)
      | (go_at_call 87; refine (HC.out _ (b_draws wb 1)).mono ?_; rintro e w2 ⟨b2, n2, c2, rfl, ho, hb2⟩; have HO2 := Lib.hid ho; have HB2 := Lib.hid ((b_draws wb 1).trans hb2); clear ho hb2))
    all_goals
      obtain ⟨hlv, hut⟩ := M.inCode_t HCd.out.symm
      obtain ⟨N, hxN, hgr, hlive, hnp, n1, n10⟩ := lv_live hlv
      subst hxN
      have HGr := Lib.hid hgr
      have HLive := Lib.hid hlive
      have HNp := Lib.hid hnp
      have HUt := Lib.hid hut
      have HBw := Lib.hid (HB0.out.trans (HB2.out.mono HB0.out.size))
      clear hgr hlive hnp hlv hut g0 g1
      obtain ⟨g0, g1⟩ := HG.out.below HB2.out
      obtain ⟨nn, rfl, hnn⟩ : ∃ k : Nat, nI = (k : Int) ∧ k ≤ 50 := by
        have q := HU.out.symm.trans HUt.out
        unfold M.inB at q
        simp only [Bool.and_eq_true, decide_eq_true_eq] at q
        exact ⟨nI.toNat, by omega, by omega⟩
      have hol := M.ord_full (M.uz_graph l) n10 HNp.out (Nat.le_refl N)
      have hLN : L = M.ordL (M.wtF M.fOne l) N N := HL.out
      have HR : Hid (M.ftRes (N : Int) l nn = (M.timM l (M.ordL (M.wtF M.fOne l) N N) M.zst N nn, 0)) := by show _ = _; unfold M.ftRes; rw [← HU.out, ← HCd.out]; rfl
      have hn2 : N = n2 := by have q := HO2.out.len; rw [hLN, hol] at q; exact q.symm
      subst hn2
      have HOi : Hid (Ints .i64 w2 b2 N (M.ordL (M.wtF M.fOne l) N N)) := by show Ints _ _ _ _ _; rw [← hLN]; exact HO2.out.ints'
      clear hol hLN
      go_wp2_with fail
      refine (firingTimesU N a n cap l nn b2 c2 M.zst w2 (HI.out.below HBw.out) HGr.out HNp.out hnn HOi.out (fun _ => ⟨Int.le_refl _, by show (0 : Int) ≤ 1000000; decide⟩) (fun e _ w' _ => unstarted e w')).mono ?_
      rintro e w3 ⟨b3, c3, rfl, ho, hb⟩
      have HO3 := Lib.hid (ho.mono HBw.out.size)
      have HB3 := Lib.hid (HBw.out.trans (hb.mono HBw.out.size))
      clear ho hb g0 g1
      go_wp2
      go_ret2
      rw [HR.out]
      exact ⟨_, _, _, rfl, HO3.out, HB3.out⟩
  · rw [if_neg h0] at HC
    have h0' : (cd != 0) = true := by simpa using h0
    have HR : Hid (M.ftRes x l nI = ([], cd)) := by show _ = _; unfold M.ftRes; rw [← HU.out, ← HCd.out, if_neg h0]
    clear h0
    go_enter Try.func45, Try.ntmps45
    go_wp2
    rw [HWb.out]
    clear g0 g1
    obtain ⟨g0, g1⟩ := HG.out
    go_region_held3 (fun w' => w'.cell? ⟨w.heap.size, 0, none⟩ = some (.int .i64 x) ∧ w'.cell? ⟨w.heap.size, 1, none⟩ = some (.slice a n cap) ∧ Below wb.heap.size wb w')
    (first | exact ⟨g0, g1, (Below.refl _ _).drew⟩ | exact keepR ‹_ ∧ _ ∧ Below _ _ _› hb2)
    (first
      | (go_at_call 91; refine (HUp.out _).mono ?_; rintro e w' ⟨rfl, rfl⟩)
      | (go_at_call 87; refine (HC.out _ (‹_ ∧ _ ∧ Below _ _ _›).2.2).mono ?_; rintro e w2 ⟨b2, n2, c2, rfl, ho, hb2⟩; have HB2 := Lib.hid ((‹_ ∧ _ ∧ Below _ _ _›).2.2.trans (hb2.mono (‹_ ∧ _ ∧ Below _ _ _›).2.2.size)); clear ho))
    all_goals
      go_wp2
      go_ret2
      exact MRes.nil HR.out (HB0.out.trans (HB2.out.mono HB0.out.size))
end V
end Go.Proofs.Ytjbffpmelglegaa
