/- Texts laid together: D3b, D3c, D3d, D3e. -/
import Derived.Test.YtjljplolonpldabQb17
import Derived.Test.YtjljplolonpldabQb2
import Derived.Test.YtjljplolonpldabQb5
import Derived.Deep.RegionHeld3
import Derived.StillTailTactics
import Derived.IntWalk
import Derived.Test.YtjljplolonpldabQb9
import Derived.Test.YtjljplolonpldabQb15
set_option linter.unusedSimpArgs false
set_option linter.unusedVariables false
set_option linter.unusedSectionVars false
namespace Go.Proofs.Ytjljplolonpldab.V
open Go.RowKit

set_option maxRecDepth 100000 in
set_option maxHeartbeats 4000000 in
theorem draw3 (g : Nat) (w : World) (h : Src w g) : Calls Try.prog 76 #[.pointer (some ⟨g, 0, none⟩)] w (DrawMB g w) := by
  have HS := Lib.hid h
  have hgl := h.lt
  clear h
  go_enter Try.func76, Try.ntmps76
  go_wp2_with fail
  refine (drawSquareB g _ HS.out).mono ?_
  rintro e w1 ⟨a, n, cap, R, rfl, hn200, ho, hs1, ht1⟩
  have HO1 := Lib.hid ho
  have HS1 := Lib.hid hs1
  have HT1 := Lib.hid ht1
  have hz1 : w.heap.size ≤ w1.heap.size := ht1.below.size
  clear ho hs1 ht1
  by_cases hq : M.sqB R = true
  · have HQ := Lib.hid hq
    obtain ⟨-, hr, -, n1, n2⟩ := sq_of HO1.out.mat hq
    have HR := Lib.hid hr
    clear hq hr
    go_wp2_with fail
    refine (sSquare_b _ _ _ R _ true HQ.out HO1.out.mat).mono ?_
    rintro e w' ⟨rfl, q, rfl⟩
    have HO2 : Hid (OwnM (w1.drewN q) w.heap.size (.slice a n cap) R) := HO1.out.below (b_draws _ _)
    have HS2 : Hid (Src (w1.drewN q) g) := HS1.out.below (by have := HS1.out.lt; exact (b_draws w1 q).mono (by omega))
    have HT2 : Hid (Thr g w (w1.drewN q)) := HT1.out.drewN q
    have hz2 : w.heap.size ≤ (w1.drewN q).heap.size := hz1
    generalize w1.drewN q = w2 at HO2 HS2 HT2 hz2
    clear HO1 HS1 HT1 hz1
    go_wp2_with fail
    refine (next g 4 _ (by decide) HS2.out).mono ?_
    rintro e w3 ⟨x, rfl, hx1, -, hs3, ht3⟩
    have HO3 := Lib.hid (HO2.out.thr ht3 hgl)
    have HS3 := Lib.hid hs3
    have HT3 := Lib.hid (HT2.out.trans ht3)
    have hz3 : w.heap.size ≤ w3.heap.size := HT3.out.below.size
    clear hs3 ht3 HO2 HS2 HT2
    by_cases hx0 : x = 0
    · subst hx0
      go_wp2
      go_ret
      exact ⟨_, _, _, _, rfl, hn200, HO3.out, HS3.out, HT3.out⟩
    · have e0 : (x == 0) = false := by simpa using hx0
      have hg3 : g < w3.heap.size := by omega
      have HL0 : Hid (DL g w3.heap.size (.slice (some ⟨w3.heap.size, 0, none⟩) 0 0) [] w3 (w3.alloc (.cells #[] 2))) :=
        ⟨own_lit0 w3 _ (Nat.le_refl _), HS3.out.alloc _, (Thr.refl _ _).alloc (Nat.le_of_lt hg3) _⟩
      have HB0 : Hid (∀ x ∈ ([] : List Int), 0 ≤ x ∧ x < 20) := fun x hx => absurd hx (by simp)
      go_wp2
      go_loopw [4, 5] (fun out i wr => ∃ (t : Nat) (l : List Int) (b : Option Addr) (c : Nat), t ≤ n ∧ i = .int .i64 t ∧ out = .slice b t c ∧ Hid (DL g w3.heap.size (.slice b t c) l w3 wr) ∧ Hid (∀ x ∈ l, 0 ≤ x ∧ x < 20)) (fun _ i _ => n - (intOf i).toNat)
      case atStart => exact ⟨0, [], _, _, Nat.zero_le _, rfl, rfl, HL0, HB0⟩
      case round =>
        obtain ⟨t, l, b, c, ht, rfl, rfl, HJ, HBl⟩ := hrel
        clear HL0 HB0
        by_cases hlt : t < n
        · have hti : (t : Int) < (n : Int) := by omega
          go_wp2_with fail
          refine (next g 20 _ (by decide) HJ.out.2.1).mono ?_
          rintro e w4 ⟨y, rfl, hy1, hy2, hs4, ht4⟩
          have HJ1 := Lib.hid (HJ.out.next hg3 hs4 ht4)
          have hz4 : w3.heap.size ≤ w4.heap.size := HJ1.out.2.2.below.size
          have HLn := Lib.hid HJ1.out.1.len
          have HBl2 : Hid (∀ x ∈ l ++ [y], 0 ≤ x ∧ x < 20) := fun x hx => by
            rcases List.mem_append.1 hx with h | h
            · exact HBl.out x h
            · simp at h; subst h; omega
          clear hs4 ht4 hy2 HJ
          go_wp2_with (at_builtin; refine append1 _ rfl (.tmp 26) (.tmp 29) rfl w3.heap.size _ _ _ t HJ1.out.1.len.symm rfl HJ1.out.1 rfl (by rw [← HLn.out]; omega) hz4 ?_)
          intro b2 c2 w5 hO5 hb5 _
          have HJ2 := Lib.hid (HJ1.out.app hg3 hO5 hb5)
          clear hO5 hb5 HJ1
          go_wp2
          go_roundw
          case rel => exact ⟨t + 1, _, _, _, by omega, by go_num, rfl, HJ2, HBl2⟩
          case measure => simp [intOf]; omega
        · obtain rfl : t = n := by omega
          obtain ⟨o, -, -, -, -, rfl, -⟩ := HO3.out.at 0 0 (by omega) (by rw [HR.out.2 0 (by omega)]; omega)
          have hzr : w3.heap.size ≤ wr.heap.size := HJ.out.2.2.below.size
          have HD0 : Hid (D3 g w.heap.size w3.heap.size t cap o (.slice b t c) l w wr) :=
            ⟨R, HR.out, HO3.out.upto.keep (fun k k1 k2 => HJ.out.2.2.other k (by omega) k2), HJ.out.1, hzr, HJ.out.2.1, HT3.out.trans HJ.out.2.2⟩
          have HLn := Lib.hid HJ.out.1.len
          have HBx : Hid (∀ k, k < t → 0 ≤ l.getD k 0 ∧ l.getD k 0 < 20) := fun k hk => by
            have hk2 : k < l.length := by rw [← HLn.out]; exact hk
            have := HBl.out l[k] (List.getElem_mem hk2)
            simpa [hk2] using this
          clear HJ HO3 HS3 HT3
          go_wp2
          go_loopw [6, 7] (fun i _ wr => ∃ k : Nat, k ≤ t ∧ i = .int .i64 k ∧ Hid (D3 g w.heap.size w3.heap.size t cap o (.slice b t c) l w wr)) (fun i _ _ => t - (intOf i).toNat)
          case atStart => exact ⟨0, Nat.zero_le _, rfl, HD0⟩
          case round =>
            obtain ⟨k, hk, rfl, HD⟩ := hrel
            obtain ⟨wo, rfl⟩ : ∃ x, x = wr := ⟨_, rfl⟩
            clear HD0
            by_cases hlt : k < t
            · have hki : (k : Int) < (t : Int) := by omega
              go_wp2
              go_loopw [7] (fun i wr => ∃ s : Nat, s ≤ t ∧ i = .int .i64 s ∧ Hid (D3 g w.heap.size w3.heap.size t cap o (.slice b t c) l w wr)) (fun i _ => t - (intOf i).toNat)
              case atStart => exact ⟨0, Nat.zero_le _, rfl, HD⟩
              case round =>
                obtain ⟨s, hs, rfl, HE⟩ := hrel
                obtain ⟨wp, rfl⟩ : ∃ x, x = wr := ⟨_, rfl⟩
                clear HD
                by_cases hsl : s < t
                · have hsi : (s : Int) < (t : Int) := by omega
                  obtain ⟨q, c2, x, xb, rfl, hq1, hq2, hxb, hqo, ho1, ho2, c1, c2', f1, d1, d2⟩ := HE.out.cells hgl k s hlt hsl hlt hsl
                  obtain ⟨u, hu⟩ : ∃ u, u = l.getD k 0 := ⟨_, rfl⟩
                  obtain ⟨v, hv⟩ : ∃ v, v = l.getD s 0 := ⟨_, rfl⟩
                  have hub := HBx.out k hlt
                  have hvb := HBx.out s hsl
                  rw [← hu] at d1 hub
                  rw [← hv] at d2 hvb
                  obtain ⟨hu1, hu2⟩ := hub
                  obtain ⟨hv1, hv2⟩ := hvb
                  obtain ⟨bf, hbf⟩ : ∃ bf, bf = M.isFin x := ⟨_, rfl⟩
                  have HCf : ∀ w, Calls Try.prog 110 #[.int .i64 x] w fun e w' => e = .returned (.bool bf) ∧ w = w' := fun w => by rw [hbf]; exact sFinite x w
                  obtain ⟨bi, hbi⟩ : ∃ bi, bi = (decide (-100 ≤ x) && decide (x ≤ 100)) := ⟨_, rfl⟩
                  have HCi : ∀ w, Calls Try.prog 73 #[.int .i64 x, .int .i64 (-100), .int .i64 100] w fun e w' => e = .returned (.bool bi) ∧ w = w' := fun w => by rw [hbi]; exact sIn x _ _ w
                  clear hu hv hbf hbi
                  cases bf with
                  | false =>
                    go_wp2_with (go_at_call 110; refine (HCf _).mono ?_; rintro e w' ⟨rfl, rfl⟩)
                    go_roundw
                    case rel => exact ⟨s + 1, by omega, by go_num, HE⟩
                    case measure => simp [intOf]; omega
                  | true =>
                    cases bi with
                    | false =>
                      go_wp2_with (first | (go_at_call 110; refine (HCf _).mono ?_; rintro e w' ⟨rfl, rfl⟩) | (go_at_call 73; refine (HCi _).mono ?_; rintro e w' ⟨rfl, rfl⟩))
                      go_roundw
                      case rel => exact ⟨s + 1, by omega, by go_num, HE⟩
                      case measure => simp [intOf]; omega
                    | true =>
                      go_wp2_with (first | (go_at_call 110; refine (HCf _).mono ?_; rintro e w' ⟨rfl, rfl⟩) | (go_at_call 73; refine (HCi _).mono ?_; rintro e w' ⟨rfl, rfl⟩))
                      have HE1 := Lib.hid HE.out.drew
                      go_region_held3 (fun w' => w'.cell? ⟨o, k, none⟩ = some (.slice (some ⟨q, 0, none⟩) t c2) ∧ w'.cell? ⟨xb, k, none⟩ = some (.int .i64 u) ∧ w'.cell? ⟨xb, s, none⟩ = some (.int .i64 v) ∧ D3 g w.heap.size w3.heap.size t cap o (.slice (some ⟨xb, 0, none⟩) t c) l w w')
                        (first
                          | exact ⟨c1, d1, d2, HE1.out⟩
                          | exact d3_next ‹_ ∧ _ ∧ _ ∧ D3 _ _ _ _ _ _ _ _ _ _› hgl hz3 ho1 hxb HSx.out HTx.out
                          | exact d3_store ‹_ ∧ _ ∧ _ ∧ D3 _ _ _ _ _ _ _ _ _ _› hgl (Nat.le_refl _) hlt hsl hqo hq2 hxb _)
                        ((go_at_call 77; refine (next g 12 _ (by decide) HE1.out.choose_spec.2.2.2.2.1).mono ?_; rintro e wx ⟨y, rfl, hy1, hy2, hsx, htx⟩; have HSx := Lib.hid hsx; have HTx := Lib.hid htx; have cqx : wx.cell? ⟨q, s, none⟩ = some (.int .i64 x) := (htx.cell (p := ⟨q, s, none⟩) (cell_lt c2') (show q ≠ g by omega)).trans c2'; have fqx : wx.frozen? ⟨q, s, none⟩ = false := (htx.frozen (p := ⟨q, s, none⟩) (cell_lt c2') (show g < q by omega)).trans f1; clear hsx htx))
                      obtain ⟨ws, hws⟩ : ∃ ws, ws = wx.setCell ⟨q, s, none⟩ (.int .i64 (IntKind.i64.wrap (IntKind.i64.wrap (u - v) - y))) := ⟨_, rfl⟩
                      have HEs : Hid (D3 g w.heap.size w3.heap.size t cap o (.slice (some ⟨xb, 0, none⟩) t c) l w ws) := by
                        show D3 _ _ _ _ _ _ _ _ _ _
                        rw [hws]
                        exact d3_of (d3_store (d3_next (w := wp.drew) ⟨c1, d1, d2, HE1.out⟩ hgl hz3 ho1 hxb HSx.out HTx.out) hgl (Nat.le_refl _) hlt hsl hqo hq2 hxb _)
                      rw [← hws]
                      clear hws c1 c2' f1 d1 d2 cqx fqx
                      go_wp2_with fail
                      refine (next g 30 _ (by decide) HEs.out.choose_spec.2.2.2.2.1).mono ?_
                      rintro e w7 ⟨z, rfl, hz71, -, hs7, ht7⟩
                      have HE7 := Lib.hid (HEs.out.next hgl hz3 hs7 ht7)
                      clear hs7 ht7
                      by_cases hz0 : z = 0
                      · subst hz0
                        obtain ⟨q7, c27, x7, xb7, hxb7, hq71, hq72, hxb77, hqo7, -, -, c17, c27', f17, -, -⟩ := HE7.out.cells hgl k s hlt hsl hlt hsl
                        have HE8 : Hid (∀ y, D3 g w.heap.size w3.heap.size t cap o (.slice (some ⟨xb, 0, none⟩) t c) l w (w7.drew.setCell ⟨q7, s, none⟩ (.int .i64 y))) := fun y => HE7.out.drew.store hgl (Nat.le_refl _) hlt hsl c17 y
                        clear hxb7
                        go_wp2
                        go_still_tail 14, (by kernel_rfl)
                        change wpList _ _ _ _ _ w7.drew
                        go_wp2
                        go_roundw
                        case rel => exact ⟨s + 1, by omega, by go_num, HE8.out _⟩
                        case measure => simp [intOf]; omega
                      · have hz1' : (z == 0) = false := by simpa using hz0
                        go_wp2
                        go_roundw
                        case rel => exact ⟨s + 1, by omega, by go_num, HE7⟩
                        case measure => simp [intOf]; omega
                · obtain rfl : s = t := by omega
                  go_wp2
                  go_roundw
                  case rel => exact ⟨k + 1, by omega, by go_num, HE⟩
                  case measure => simp [intOf]; omega
            · obtain rfl : k = t := by omega
              obtain ⟨R2, -, h2, -, -, h5, h6⟩ := HD.out
              go_wp2
              go_ret
              exact ⟨_, _, _, _, rfl, hn200, h2.own, h5, h6⟩
  · simp only [Bool.not_eq_true] at hq
    have HQ := Lib.hid hq
    clear hq
    go_wp2_with fail
    refine (sSquare_b _ _ _ R _ false HQ.out HO1.out.mat).mono ?_
    rintro e w' ⟨rfl, q, rfl⟩
    have hlt := HS1.out.lt
    go_wp2
    go_ret
    exact ⟨_, _, _, _, rfl, hn200, HO1.out.below (b_draws _ _), HS1.out.below ((b_draws w1 q).mono (by omega)), HT1.out.drewN q⟩
end Go.Proofs.Ytjljplolonpldab.V

namespace Go.Proofs.Ytjljplolonpldab.V
open Go.RowKit

set_option maxRecDepth 100000 in
set_option maxHeartbeats 1000000 in
theorem drawFixedPoint (a : Option Addr) (n cap : Nat) (w : World) (h : Bytes w a n) :
    Calls Try.prog 47 #[.slice a n cap] w (DrawnMV w) := by
  have HB := Lib.hid h
  clear h
  go_enter Try.func47, Try.ntmps47
  go_wp2_with fail
  refine (from_ _ _ _ _ HB.out).mono ?_
  rintro e w1 ⟨rfl, hs1, hb1⟩
  have HS1 := Lib.hid hs1
  have HB1 := Lib.hid hb1
  have hg1 := hs1.lt
  clear hs1 hb1
  go_wp2_with fail
  refine (draw3 _ _ HS1.out).mono ?_
  rintro e w2 ⟨a2, n2, c2, R, rfl, hn2, ho, hs2, ht2⟩
  have HO2 := Lib.hid ho
  have HS2 := Lib.hid hs2
  have HB2 := Lib.hid (HB1.out.trans ht2.below)
  clear ho hs2 ht2
  go_wp2_with fail
  refine (next _ 20 _ (by decide) HS2.out).mono ?_
  rintro e w3 ⟨x, rfl, hx1, -, hs3, ht3⟩
  have HO3 := Lib.hid (HO2.out.thr ht3 hg1)
  have HS3 := Lib.hid hs3
  have HB3 := Lib.hid (HB2.out.trans ht3.below)
  clear hs3 ht3 HO2 HS2 HB2
  by_cases hx0 : x = 0
  · subst hx0
    have e1 : (n2 : Int) + 1 = ((n2 + 1 : Nat) : Int) := by omega
    have E1 := Lib.hid e1
    clear e1
    go_wp2_with fail
    rw [E1.out]
    refine (drawVector _ (n2 + 1) _ HS3.out (by omega)).mono ?_
    rintro e w6 ⟨a6, n6, c6, l, rfl, ho6, hs6, ht6⟩
    have HI := Lib.hid ho6.ints'
    have HM := Lib.hid (HO3.out.thr ht6 hg1).mat
    have HB6 := Lib.hid (HB3.out.trans ht6.below)
    clear ho6 hs6 ht6
    go_wp2
    go_ret2
    exact ⟨_, _, _, R, _, _, _, l, rfl, HM.out, HI.out, HB6.out⟩
  · have ex : (x == 0) = false := by simpa using hx0
    go_wp2_with fail
    refine (drawVector _ n2 _ HS3.out (by omega)).mono ?_
    rintro e w6 ⟨a6, n6, c6, l, rfl, ho6, hs6, ht6⟩
    have HI := Lib.hid ho6.ints'
    have HM := Lib.hid (HO3.out.thr ht6 hg1).mat
    have HB6 := Lib.hid (HB3.out.trans ht6.below)
    clear ho6 hs6 ht6
    go_wp2
    go_ret2
    exact ⟨_, _, _, R, _, _, _, l, rfl, HM.out, HI.out, HB6.out⟩

/-- A drawn matrix and two drawn numbers. -/
def DrawnMII (w : World) (e : Ending) (w' : World) : Prop :=
  ∃ (a : Option Addr) (n cap : Nat) (R : List (List Int)) (x y : Int), e = .returned (.tuple #[.slice a n cap, .int .i64 x, .int .i64 y]) ∧ Mat w' a n R ∧ Below w.heap.size w w'
set_option maxRecDepth 100000 in
set_option maxHeartbeats 1000000 in
theorem drawHeaviestPath (a : Option Addr) (n cap : Nat) (w : World) (h : Bytes w a n) :
    Calls Try.prog 34 #[.slice a n cap] w (DrawnMII w) := by
  have HB := Lib.hid h
  clear h
  go_enter Try.func34, Try.ntmps34
  go_wp2_with fail
  refine (from_ _ _ _ _ HB.out).mono ?_
  rintro e w1 ⟨rfl, hs1, hb1⟩
  have HS1 := Lib.hid hs1
  have HB1 := Lib.hid hb1
  have hg1 := hs1.lt
  clear hs1 hb1
  go_wp2_with fail
  refine (draw3 _ _ HS1.out).mono ?_
  rintro e w2 ⟨a2, n2, c2, R, rfl, hn2, ho, hs2, ht2⟩
  have HO2 := Lib.hid ho
  have HS2 := Lib.hid hs2
  have HB2 := Lib.hid (HB1.out.trans ht2.below)
  clear ho hs2 ht2
  go_wp2_with fail
  refine (next _ 30 _ (by decide) HS2.out).mono ?_
  rintro e w3 ⟨x, rfl, hx1, -, hs3, ht3⟩
  have HO3 := Lib.hid (HO2.out.thr ht3 hg1)
  have HS3 := Lib.hid hs3
  have HB3 := Lib.hid (HB2.out.trans ht3.below)
  have hwn : (Lit.int .i64 (n2 : Int)).wf = true := wf_small _ (by omega) (by omega)
  have HWN := Lib.hid hwn
  clear hs3 ht3 HO2 HS2 HB2 hwn
  by_cases hx0 : x = 0
  · subst hx0
    have hlit : Hid (∀ i, i < 2 → ∃ x : Int, (Lit.int .i64 x).wf = true ∧ (w3.alloc (.cells #[.int .i64 (-1), .int .i64 n2] 2)).cell? ⟨w3.heap.size, 0 + i, none⟩ = some (.int .i64 x)) := fun i hi => by
      rcases (show i = 0 ∨ i = 1 by omega) with rfl | rfl
      · exact ⟨-1, by decide, by simp⟩
      · exact ⟨n2, HWN.out, by simp⟩
    go_wp2_with fail
    refine (pick _ _ 0 2 2 _ (HS3.out.alloc _) (by omega) (by omega) HS3.out.lt hlit.out).mono ?_
    rintro e w6 ⟨y, rfl, hyw, hs6, ht6⟩
    have HM := Lib.hid ((HO3.out.below (b_alloc w3 (.cells #[.int .i64 (-1), .int .i64 n2] 2))).thr ht6 hg1).mat
    have HB6 := Lib.hid ((HB3.out.alloc HB3.out.size _).trans ht6.below)
    clear hs6 ht6 hyw
    go_wp2
    exact bodyPost_ret (v := .tuple #[.slice a2 n2 c2, .int .i64 y, .int .i64 0]) (by simp [results, Try.results34, go_sem]) rfl ⟨_, _, _, R, _, _, rfl, HM.out, HB6.out⟩
  · have ex : (x == 0) = false := by simpa using hx0
    go_wp2_with fail
    refine (next _ _ _ HWN.out HS3.out).mono ?_
    rintro e w6 ⟨y, rfl, -, -, hs6, ht6⟩
    have HO6 := Lib.hid (HO3.out.thr ht6 hg1)
    have HS6 := Lib.hid hs6
    have HB6 := Lib.hid (HB3.out.trans ht6.below)
    clear hs6 ht6
    go_wp2_with fail
    refine (next _ _ _ HWN.out HS6.out).mono ?_
    rintro e w7 ⟨z, rfl, -, -, hs7, ht7⟩
    have HM := Lib.hid (HO6.out.thr ht7 hg1).mat
    have HB7 := Lib.hid (HB6.out.trans ht7.below)
    clear hs7 ht7
    go_wp2
    exact bodyPost_ret (v := .tuple #[.slice a2 n2 c2, .int .i64 y, .int .i64 z]) (by simp [results, Try.results34, go_sem]) rfl ⟨_, _, _, R, _, _, rfl, HM.out, HB7.out⟩
end Go.Proofs.Ytjljplolonpldab.V

namespace Go.Proofs.Ytjljplolonpldab.V
open Go.RowKit

set_option maxRecDepth 100000 in
set_option maxHeartbeats 4000000 in
theorem drawNodes (g n cap B : Nat) (a : Option Addr) (R : List (List Int)) (w : World) (h : Src w g) (ho : OwnM w B (.slice a n cap) R) (hB : g < B) (hn : n ≤ 200) :
    Calls Try.prog 85 #[.pointer (some ⟨g, 0, none⟩), .slice a n cap] w (DrawV g w) := by
  have hgs := h.lt
  have HS := Lib.hid h
  have HO := Lib.hid ho
  clear h ho
  by_cases hn0 : n = 0
  · subst hn0
    go_enter Try.func85, Try.ntmps85
    go_wp2
    go_ret
    exact ⟨_, _, _, [0], rfl, World.ownsRow_lit w #[.int .i64 0] 1 (Nat.le_refl _) (by decide) rfl, HS.out.alloc _, (Thr.refl _ _).alloc (Nat.le_of_lt hgs) _⟩
  · have e0 : (n == 0) = false := by simpa using hn0
    have e1 : ((n : Int) == 0) = false := by simp; omega
    have hwn : (Lit.int .i64 (n : Int)).wf = true := wf_small _ (by omega) (by omega)
    have HWN := Lib.hid hwn
    clear hwn
    go_enter Try.func85, Try.ntmps85
    go_wp2_with fail
    refine (next _ _ _ HWN.out HS.out).mono ?_
    rintro e w1 ⟨x, rfl, hx1, hx2, hs1, ht1⟩
    have hz1 : w.heap.size ≤ w1.heap.size := ht1.below.size
    have HJ0 : Hid (DL g w.heap.size (.slice (some ⟨w1.heap.size, 0, none⟩) 1 1) [x] w (w1.alloc (.cells #[.int .i64 x] 2))) :=
      ⟨World.ownsRow_lit w1 #[.int .i64 x] 1 hz1 (by decide) rfl, hs1.alloc _, ht1.alloc (by omega) _⟩
    have HL0 : Hid (∀ y ∈ [x], 0 ≤ y ∧ y < (n : Int)) := fun y hy => by
      simp at hy
      subst hy
      omega
    clear hx2 hs1 ht1
    go_wp2_with fail
    refine (next g 6 _ (by decide) HJ0.out.2.1).mono ?_
    rintro e w2 ⟨kk, rfl, hk1, hk2, hs2, ht2⟩
    obtain ⟨kk, rfl⟩ := Int.eq_ofNat_of_zero_le hk1
    have hk6 : kk < 6 := by omega
    have HJ1 := Lib.hid (HJ0.out.next hgs hs2 ht2)
    clear hs2 ht2 HJ0 hk2 hk1
    go_wp2
    go_loopw [6, 7, 8, 9, 10] (fun out i _ _ _ wr => ∃ (j t : Nat) (l : List Int) (b : Option Addr) (c : Nat), j + t ≤ 6 ∧ i = .int .i64 j ∧ out = .slice b (t + 1) c ∧ Hid (DL g w.heap.size (.slice b (t + 1) c) l w wr) ∧ Hid (∀ y ∈ l, 0 ≤ y ∧ y < (n : Int))) (fun _ i _ _ _ _ => (intOf i).toNat)
    case atStart => exact ⟨kk, 0, _, _, _, by omega, rfl, rfl, HJ1, HL0⟩
    case round =>
      obtain ⟨j, t, l, b, c, hjt, rfl, rfl, HJ, HL⟩ := hrel
      obtain ⟨wo, rfl⟩ : ∃ x, x = wr := ⟨_, rfl⟩
      clear HJ1 HL0
      by_cases hj : 0 < j
      · have hji : (0 : Int) < (j : Int) := by omega
        go_wp2_with fail
        refine (next _ _ _ HWN.out HJ.out.2.1).mono ?_
        rintro e w3 ⟨y, rfl, hy1, hy2, hs3, ht3⟩
        obtain ⟨y, rfl⟩ := Int.eq_ofNat_of_zero_le hy1
        have hyn : y < n := by omega
        have HJ2 := Lib.hid (HJ.out.next hgs hs3 ht3)
        clear hs3 ht3 hy2 hy1 HJ
        have hlen := HJ2.out.1.len
        have HLn := Lib.hid hlen
        have hz2 : w.heap.size ≤ w3.heap.size := HJ2.out.2.2.below.size
        obtain ⟨d, od, x1, rfl, -, hx1', cx⟩ := HJ2.out.1.ints'.at t (by omega)
        have hxm : x1 ∈ l := by
          have : t < l.length := by omega
          rw [hx1']
          simp only [List.getD_eq_getElem?_getD, List.getElem?_eq_getElem this, Option.getD_some]
          exact List.getElem_mem this
        obtain ⟨hxa, hxb⟩ := HL.out x1 hxm
        obtain ⟨x2, rfl⟩ := Int.eq_ofNat_of_zero_le hxa
        have hx2n : x2 < n := by omega
        have HOw := Lib.hid (HO.out.thr HJ2.out.2.2 hB)
        have ht1 : ((t : Int) + 1 - 1) = (t : Int) := by omega
        have hN0 : (0 : Int) < (n : Int) := by omega
        clear hlen hx1' hxm hxa hxb
        go_wp2
        clear cx ht1
        go_loopw [8, 10] (fun nx i wr => ∃ (p q : Nat), p < n ∧ q ≤ n ∧ nx = .int .i64 p ∧ i = .int .i64 q ∧ wr = w3) (fun _ i _ => n - (intOf i).toNat)
        case atStart => exact ⟨y, 0, hyn, Nat.zero_le _, rfl, rfl, rfl⟩
        case round =>
          obtain ⟨p, q, hp, hq, rfl, rfl, rfl⟩ := hrel
          have hpi : (p : Int) < (n : Int) := by omega
          have HLx : Hid (∀ z ∈ l ++ [(p : Int)], 0 ≤ z ∧ z < (n : Int)) := fun z hz => by
            rcases List.mem_append.1 hz with h | h
            · exact HL.out z h
            · simp at h; omega
          have HJq : Hid (DL g w.heap.size (.slice (some ⟨d, od, none⟩) (t + 1) c) l w wr) := HJ2
          have hzr : w.heap.size ≤ wr.heap.size := hz2
          have hmod : ((p : Int) + 1) % (n : Int) = (((p + 1) % n : Nat) : Int) := by first | norm_cast | (push_cast; rfl) | simp
          have hmn : (p + 1) % n < n := Nat.mod_lt _ (by omega)
          have HEnd : Hid (∀ b2 c2 w4, Own w4 w.heap.size (.slice b2 (t + 1 + 1) c2) (l ++ [(p : Int)]) → Below w.heap.size wr w4 → DL g w.heap.size (.slice b2 (t + 1 + 1) c2) (l ++ [(p : Int)]) w w4) := fun b2 c2 w4 h1 h2 => HJ2.out.app hgs h1 h2
          by_cases hq0 : q < n
          · have hqi : (q : Int) < (n : Int) := by omega
            obtain ⟨ab, ao, ra, rc, Lr, lr, hab, -, hlr, cr, hIr⟩ := HOw.out.mat.at p hp
            by_cases hl : x2 < Lr
            · have hli : (x2 : Int) < (Lr : Int) := by omega
              obtain ⟨rb, ro, z, rfl, -, hz, cz⟩ := hIr.at x2 hl
              clear hlr hz hIr
              subst hab
              have HM := Lib.hid hmod
              clear hmod
              by_cases hb : z = -1000000000000000
              · subst hb
                go_wp2
                rw [HM.out]
                go_roundw
                case rel => exact ⟨_, q + 1, hmn, by omega, rfl, by go_num, trivial⟩
                case measure => simp [intOf]; omega
              · have hb2 : (z == -1000000000000000) = false := by simpa using hb
                go_wp2_with (at_builtin; refine append1 _ rfl (.tmp 63) (.tmp 65) rfl w.heap.size _ _ _ (t + 1) HLn.out.symm rfl HJq.out.1 rfl (by rw [← HLn.out]; omega) hzr ?_)
                intro b2 c2 w4 hO4 hb4 _
                have HJ4 := Lib.hid (HEnd.out _ _ _ hO4 hb4)
                clear hO4 hb4
                go_wp2
                go_roundw
                case rel => exact ⟨j - 1, t + 1, _, _, _, by omega, by go_num, rfl, HJ4, HLx⟩
                case measure => simp [intOf]; omega
            · have hli : ¬ ((x2 : Int) < (Lr : Int)) := by omega
              have hli2 : (Lr : Int) ≤ (x2 : Int) := by omega
              clear hlr hIr hmod
              subst hab
              go_wp2_with (at_builtin; refine append1 _ rfl (.tmp 63) (.tmp 65) rfl w.heap.size _ _ _ (t + 1) HLn.out.symm rfl HJq.out.1 rfl (by rw [← HLn.out]; omega) hzr ?_)
              intro b2 c2 w4 hO4 hb4 _
              have HJ4 := Lib.hid (HEnd.out _ _ _ hO4 hb4)
              clear hO4 hb4
              go_wp2
              go_roundw
              case rel => exact ⟨j - 1, t + 1, _, _, _, by omega, by go_num, rfl, HJ4, HLx⟩
              case measure => simp [intOf]; omega
          · obtain rfl : q = n := by omega
            clear hmod
            go_wp2_with (at_builtin; refine append1 _ rfl (.tmp 63) (.tmp 65) rfl w.heap.size _ _ _ (t + 1) HLn.out.symm rfl HJq.out.1 rfl (by rw [← HLn.out]; omega) hzr ?_)
            intro b2 c2 w4 hO4 hb4 _
            have HJ4 := Lib.hid (HEnd.out _ _ _ hO4 hb4)
            clear hO4 hb4
            go_wp2
            go_roundw
            case rel => exact ⟨j - 1, t + 1, _, _, _, by omega, by go_num, rfl, HJ4, HLx⟩
            case measure => simp [intOf]; omega
      · obtain rfl : j = 0 := by omega
        go_wp2_with fail
        refine (next g 40 _ (by decide) HJ.out.2.1).mono ?_
        rintro e w3 ⟨x5, rfl, -, -, hs3, ht3⟩
        have HJ3 := Lib.hid (HJ.out.next hgs hs3 ht3)
        have hz3 : w.heap.size ≤ w3.heap.size := HJ3.out.2.2.below.size
        clear hs3 ht3 HJ
        by_cases hx0 : x5 = 0
        · subst hx0
          have hlit : Hid (∀ i, i < 2 → ∃ x : Int, (Lit.int .i64 x).wf = true ∧ (w3.alloc (.cells #[.int .i64 (-1), .int .i64 n] 2)).cell? ⟨w3.heap.size, 0 + i, none⟩ = some (.int .i64 x)) := fun i hi => by
            rcases (show i = 0 ∨ i = 1 by omega) with rfl | rfl
            · exact ⟨-1, by decide, by simp⟩
            · exact ⟨n, HWN.out, by simp⟩
          go_wp2_with fail
          refine (pick g _ 0 2 2 _ (HJ3.out.2.1.alloc _) (by omega) (by omega) (Nat.lt_of_lt_of_le hgs hz3) hlit.out).mono ?_
          rintro e w4 ⟨y, rfl, hyw, hs4, ht4⟩
          have HJ4 : Hid (DL g w.heap.size (.slice b (t + 1) c) l w w4) := ⟨((HJ3.out.1.below (b_alloc w3 (.cells #[.int .i64 (-1), .int .i64 n] 2))).thr ht4 hgs), hs4, (HJ3.out.2.2.alloc (Nat.le_trans (Nat.le_of_lt hgs) hz3) _).trans ht4⟩
          have hz4 : w.heap.size ≤ w4.heap.size := HJ4.out.2.2.below.size
          have HLn := Lib.hid HJ4.out.1.len
          clear hs4 ht4 hyw HJ3
          go_wp2_with (at_builtin; refine append1 _ rfl (.tmp 71) (.tmp 76) rfl w.heap.size _ _ _ (t + 1) HLn.out.symm rfl HJ4.out.1 rfl (by rw [← HLn.out]; omega) hz4 ?_)
          intro b2 c2 w5 hO5 hb5 _
          have HJ5 := Lib.hid (HJ4.out.app hgs hO5 hb5)
          clear hO5 hb5
          go_wp2
          go_ret
          exact ⟨_, _, _, _, rfl, HJ5.out.1, HJ5.out.2.1, HJ5.out.2.2⟩
        · have e0 : (x5 == 0) = false := by simpa using hx0
          by_cases hx1' : x5 = 1
          · subst hx1'
            go_wp2
            go_ret
            exact ⟨_, _, _, [], rfl, own_nil _ _, HJ3.out.2.1, HJ3.out.2.2⟩
          · have e1 : (x5 == 1) = false := by simpa using hx1'
            go_wp2
            go_ret
            exact ⟨_, _, _, _, rfl, HJ3.out.1, HJ3.out.2.1, HJ3.out.2.2⟩
end Go.Proofs.Ytjljplolonpldab.V

namespace Go.Proofs.Ytjljplolonpldab.V
open Go.RowKit

theorem wrap100 (y : Nat) (h : y < 4) : IntKind.i64.wrap (100 + (y : Int)) = ((100 + y : Nat) : Int) := by
  rw [IntWalk.i64_in _ (by omega)]; omega
theorem made_ints3 (w : World) (n : Nat) (hn : n ≤ maxLen) : Ints .i64 (w.alloc (.cells (madeCells #[.int .i64 0] n) 2)) (some ⟨w.heap.size, 0, none⟩) n (List.replicate n 0) := by
  have hr := World.rowIs_made w (.int .i64 0) n 2
  refine ⟨by simp, hn, .inr ⟨_, _, rfl, by simp, fun i hi => ?_⟩⟩
  rw [Nat.zero_add, hr.cell hi]
  simp [hi]

theorem rlit0 (w : World) (B : Nat) (h : B ≤ w.heap.size) : Own (w.alloc (.cells #[.int .i64 0] 2)) B (.slice (some ⟨w.heap.size, 0, none⟩) 1 1) [0] := World.ownsRow_lit w #[.int .i64 0] 1 h (by decide) rfl
theorem mlit0 (w : World) (B : Nat) (h : B ≤ w.heap.size) : OwnM ((w.alloc (.cells #[.int .i64 0] 2)).alloc (.cells #[.slice (some ⟨w.heap.size, 0, none⟩) 1 1] 29)) B (.slice (some ⟨w.heap.size + 1, 0, none⟩) 1 1) [[0]] := by
  have := ownM_lit1 (w.alloc (.cells #[.int .i64 0] 2)) B (by simp; omega) (rlit0 w B h)
  simpa using this
theorem b_up {w X : World} (h : Below w.heap.size w X) (o : Obj) : Below w.heap.size w (X.alloc o) := h.alloc h.size _
/-- What the six orders leave. -/
def Fin6 (w w' : World) (a' a : Option Addr) (y : Nat) : Prop := Mat w' a' 1 [[0]] ∧ Ints .i64 w' a (100 + y) (List.replicate (100 + y) 0) ∧ Below w.heap.size w w'
theorem fin_a (w w3 w6 : World) (y : Nat) (hy : y < 2) (hg : w.heap.size < w3.heap.size) (hb : Below w.heap.size w w3) (ht : Thr w.heap.size ((w3.alloc (.cells #[.int .i64 0] 2)).alloc (.cells #[.slice (some ⟨w3.heap.size, 0, none⟩) 1 1] 29)).drew w6) :
    Fin6 w (w6.alloc (.cells (madeCells #[.int .i64 0] (100 + y)) 2)) (some ⟨w3.heap.size + 1, 0, none⟩) (some ⟨w6.heap.size, 0, none⟩) y :=
  ⟨(((mlit0 w3 w3.heap.size (Nat.le_refl _)).keep (w' := ((w3.alloc (.cells #[.int .i64 0] 2)).alloc (.cells #[.slice (some ⟨w3.heap.size, 0, none⟩) 1 1] 29)).drew) (fun _ _ _ => rfl)).thr ht hg).mat.below (b_alloc _ _), made_ints3 _ _ (by unfold maxLen; omega), b_up ((b_up (b_up hb _) _).drew.trans ht.below) _⟩
theorem fin_b (w w3 w6 : World) (y : Nat) (hy : y < 2) (hg : w.heap.size < w3.heap.size) (hb : Below w.heap.size w w3) (ht : Thr w.heap.size (w3.alloc (.cells #[.int .i64 0] 2)).drew w6) :
    Fin6 w ((w6.alloc (.cells #[.slice (some ⟨w3.heap.size, 0, none⟩) 1 1] 29)).alloc (.cells (madeCells #[.int .i64 0] (100 + y)) 2)) (some ⟨w6.heap.size, 0, none⟩) (some ⟨w6.heap.size + 1, 0, none⟩) y := by
  have h1 : Own (w3.alloc (.cells #[.int .i64 0] 2)).drew w3.heap.size (.slice (some ⟨w3.heap.size, 0, none⟩) 1 1) [0] := rlit0 w3 w3.heap.size (Nat.le_refl _)
  have hz : w3.heap.size ≤ w6.heap.size := by have := ht.below.size; simp at this; omega
  have h2 := made_ints3 (w6.alloc (.cells #[.slice (some ⟨w3.heap.size, 0, none⟩) 1 1] 29)) (100 + y) (by unfold maxLen; omega)
  exact ⟨(ownM_lit1 w6 w3.heap.size hz (h1.thr ht hg)).mat.below (b_alloc _ _), by simpa using h2, b_up (b_up ((b_up hb _).drew.trans ht.below) _) _⟩
theorem fin_c (w w3 w6 : World) (y : Nat) (hy : y < 2) (hg : w.heap.size < w3.heap.size) (hb : Below w.heap.size w w3) (ht : Thr w.heap.size (w3.alloc (.cells #[.int .i64 0] 2)).drew w6) :
    Fin6 w ((w6.alloc (.cells (madeCells #[.int .i64 0] (100 + y)) 2)).alloc (.cells #[.slice (some ⟨w3.heap.size, 0, none⟩) 1 1] 29)) (some ⟨w6.heap.size + 1, 0, none⟩) (some ⟨w6.heap.size, 0, none⟩) y := by
  have h1 : Own (w3.alloc (.cells #[.int .i64 0] 2)).drew w3.heap.size (.slice (some ⟨w3.heap.size, 0, none⟩) 1 1) [0] := rlit0 w3 w3.heap.size (Nat.le_refl _)
  have hz : w3.heap.size ≤ w6.heap.size := by have := ht.below.size; simp at this; omega
  have h2 := made_ints3 w6 (100 + y) (by unfold maxLen; omega)
  have h3 := ownM_lit1 (w6.alloc (.cells (madeCells #[.int .i64 0] (100 + y)) 2)) w3.heap.size (by simp; omega) ((h1.thr ht hg).below (b_alloc w6 _))
  exact ⟨by simpa using h3.mat, h2.below (b_alloc _ _), b_up (b_up ((b_up hb _).drew.trans ht.below) _) _⟩
theorem fin_d (w w3 w6 : World) (y : Nat) (hy : y < 2) (hb : Below w.heap.size w w3) (ht : Thr w.heap.size w3.drew w6) :
    Fin6 w (((w6.alloc (.cells #[.int .i64 0] 2)).alloc (.cells #[.slice (some ⟨w6.heap.size, 0, none⟩) 1 1] 29)).alloc (.cells (madeCells #[.int .i64 0] (100 + y)) 2)) (some ⟨w6.heap.size + 1, 0, none⟩) (some ⟨w6.heap.size + 1 + 1, 0, none⟩) y := by
  have h2 := made_ints3 ((w6.alloc (.cells #[.int .i64 0] 2)).alloc (.cells #[.slice (some ⟨w6.heap.size, 0, none⟩) 1 1] 29)) (100 + y) (by unfold maxLen; omega)
  exact ⟨(mlit0 w6 _ (Nat.le_refl _)).mat.below (b_alloc _ _), by simpa using h2, b_up (b_up (b_up (hb.drew.trans ht.below) _) _) _⟩
theorem fin_e (w w3 w6 : World) (y : Nat) (hy : y < 2) (hb : Below w.heap.size w w3) (ht : Thr w.heap.size w3.drew w6) :
    Fin6 w (((w6.alloc (.cells #[.int .i64 0] 2)).alloc (.cells (madeCells #[.int .i64 0] (100 + y)) 2)).alloc (.cells #[.slice (some ⟨w6.heap.size, 0, none⟩) 1 1] 29)) (some ⟨w6.heap.size + 1 + 1, 0, none⟩) (some ⟨w6.heap.size + 1, 0, none⟩) y := by
  have h2 := made_ints3 (w6.alloc (.cells #[.int .i64 0] 2)) (100 + y) (by unfold maxLen; omega)
  have h3 := ownM_lit1 ((w6.alloc (.cells #[.int .i64 0] 2)).alloc (.cells (madeCells #[.int .i64 0] (100 + y)) 2)) w6.heap.size (by simp; omega) ((rlit0 w6 _ (Nat.le_refl _)).below (b_alloc _ _))
  exact ⟨by simpa using h3.mat, by simpa using h2.below (b_alloc _ _), b_up (b_up (b_up (hb.drew.trans ht.below) _) _) _⟩
theorem fin_f (w w3 w6 : World) (y : Nat) (hy : y < 2) (hb : Below w.heap.size w w3) (ht : Thr w.heap.size w3.drew w6) :
    Fin6 w (((w6.alloc (.cells (madeCells #[.int .i64 0] (100 + y)) 2)).alloc (.cells #[.int .i64 0] 2)).alloc (.cells #[.slice (some ⟨w6.heap.size + 1, 0, none⟩) 1 1] 29)) (some ⟨w6.heap.size + 1 + 1, 0, none⟩) (some ⟨w6.heap.size, 0, none⟩) y := by
  have h2 := made_ints3 w6 (100 + y) (by unfold maxLen; omega)
  have h3 := mlit0 (w6.alloc (.cells (madeCells #[.int .i64 0] (100 + y)) 2)) _ (Nat.le_refl _)
  exact ⟨by simpa using h3.mat, (h2.below (b_alloc _ _)).below (b_alloc _ _), b_up (b_up (b_up (hb.drew.trans ht.below) _) _) _⟩

/-- A drawn matrix and a drawn list of nodes. -/
def DrawnMN (w : World) (e : Ending) (w' : World) : Prop :=
  ∃ (a : Option Addr) (n cap : Nat) (R : List (List Int)) (a' : Option Addr) (N cap' : Nat) (l : List Int), e = .returned (.tuple #[.slice a n cap, .slice a' N cap']) ∧ Mat w' a n R ∧ Ints .i64 w' a' N l ∧ N ≤ cap' ∧ cap' ≤ maxLen ∧ Below w.heap.size w w'
theorem fin_out {w w' : World} {a' a : Option Addr} (y : Nat) (hy : y < 2) (h : Fin6 w w' a' a y) : DrawnMN w (.returned (.tuple #[.slice a' 1 1, .slice a (100 + y) (100 + y)])) w' :=
  ⟨_, _, _, _, _, _, _, _, rfl, h.1, h.2.1, Nat.le_refl _, by unfold maxLen; omega, h.2.2⟩
set_option maxRecDepth 100000 in
set_option maxHeartbeats 4000000 in
theorem drawPathWeight (a : Option Addr) (n cap : Nat) (w : World) (h : Bytes w a n) :
    Calls Try.prog 37 #[.slice a n cap] w (DrawnMN w) := by
  have HB := Lib.hid h
  clear h
  go_enter Try.func37, Try.ntmps37
  go_wp2_with fail
  refine (from_ _ _ _ _ HB.out).mono ?_
  rintro e w1 ⟨rfl, hs1, hb1⟩
  have HS1 := Lib.hid hs1
  have HB1 := Lib.hid hb1
  have hg1 := hs1.lt
  clear hs1 hb1
  go_wp2_with fail
  refine (draw3 _ _ HS1.out).mono ?_
  rintro e w2 ⟨a2, n2, c2, R, rfl, hn2, ho, hs2, ht2⟩
  have HO2 := Lib.hid ho
  have HS2 := Lib.hid hs2
  have HB2 := Lib.hid (HB1.out.trans ht2.below)
  clear ho hs2 ht2
  go_wp2_with fail
  refine (next _ 60 _ (by decide) HS2.out).mono ?_
  rintro e w3 ⟨x, rfl, hx1, -, hs3, ht3⟩
  have HO3 := Lib.hid (HO2.out.thr ht3 hg1)
  have HS3 := Lib.hid hs3
  have HB3 := Lib.hid (HB2.out.trans ht3.below)
  clear hs3 ht3 HO2 HS2 HB2
  by_cases hx0 : x = 0
  · subst hx0
    go_wp2_with fail
    go_region_with (go_at_call 77; refine (next _ 2 _ (by decide) (by first | exact HS3.out | exact HS3.out.alloc _ | exact (HS3.out.alloc _).alloc _)).mono ?_; rintro e w6 ⟨y, rfl, hy1, hy2, hs6, ht6⟩; obtain ⟨y, rfl⟩ := Int.eq_ofNat_of_zero_le hy1; have hy3 : y < 2 := (by omega); have HT6 := Lib.hid ht6; have E1 := wrap100 y (by omega); have hmk := run_make_row' (P := Try.prog) 29 2 (.int .i64 0) 8 Try.underlying29 info64 rfl .i64 .i64 (100 + y) (by omega) (by omega); rw [show ((100 + y : Nat) : Int) = 100 + (y : Int) from (by omega)] at hmk; clear hs6 ht6 hy2 hy1)
    all_goals
      go_wp2
      go_ret2
      first
        | exact fin_out y hy3 (fin_a _ _ _ y hy3 HS3.out.lt HB3.out HT6.out)
        | exact fin_out y hy3 (fin_b _ _ _ y hy3 HS3.out.lt HB3.out HT6.out)
        | exact fin_out y hy3 (fin_c _ _ _ y hy3 HS3.out.lt HB3.out HT6.out)
        | exact fin_out y hy3 (fin_d _ _ _ y hy3 HB3.out HT6.out)
        | exact fin_out y hy3 (fin_e _ _ _ y hy3 HB3.out HT6.out)
        | exact fin_out y hy3 (fin_f _ _ _ y hy3 HB3.out HT6.out)
  · have ex : (x == 0) = false := by simpa using hx0
    go_wp2_with fail
    refine (drawNodes _ n2 _ _ _ R _ HS3.out HO3.out hg1 (by omega)).mono ?_
    rintro e w6 ⟨a6, n6, c6, l, rfl, ho6, hs6, ht6⟩
    have HI := Lib.hid ho6.ints'
    have HC := Lib.hid (caps_own ho6)
    have HM := Lib.hid (HO3.out.thr ht6 hg1).mat
    have HB6 := Lib.hid (HB3.out.trans ht6.below)
    clear ho6 hs6 ht6
    go_wp2
    go_ret2
    exact ⟨_, _, _, R, _, _, _, l, rfl, HM.out, HI.out, HC.out.1, HC.out.2, HB6.out⟩
end Go.Proofs.Ytjljplolonpldab.V
