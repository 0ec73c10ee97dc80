/- Texts laid together: Dr6, DrawR, Drp, Drq, Drs, Drt, Like. -/
import Derived.Test.YtmhpgnndjagogaaGreatQz21
import Derived.Test.YtmhpgnndjagogaaGreatQz2
import Derived.Test.YtmhpgnndjagogaaGreatQz6
import Derived.Deep.RegionHeld3
import Derived.StillTailTactics
import Derived.IntWalk
import Derived.Test.YtmhpgnndjagogaaGreatRows
import Derived.Test.YtmhpgnndjagogaaGreatQz1
import Derived.Test.YtmhpgnndjagogaaGreatQz20
import Derived.Test.YtmhpgnndjagogaaGreatQz7
import Derived.WalkKit
import Derived.ProofKit
import Derived.WalkSmall
import Derived.Deep.QuietTactic
import Derived.BigQuiet
import Derived.BigRegion
import Derived.Deep.Draws
import Derived.Lib.Hide
import Derived.Test.YtmhpgnndjagogaaGreatQz12
import Derived.Deep.WholeRow
import Derived.Test.YtmhpgnndjagogaaGreatQz14
import Derived.OpenShut
import Derived.Deep.OwnRows
set_option linter.unusedSimpArgs false
set_option linter.unusedVariables false
set_option linter.unusedSectionVars false
namespace Go.Proofs.YtmhpgnndjagogaaGreat.V
set_option maxRecDepth 100000
open Go.RowKit

set_option maxRecDepth 100000 in
set_option maxHeartbeats 4000000 in
theorem draw6 (g : Nat) (w : World) (h : Src w g) : Calls Tryz.prog 83 #[.pointer (some ⟨g, 0, none⟩)] w (DrawMB g w) := by
  have HS := Lib.hid h
  have hgl := h.lt
  clear h
  go_enter Tryz.func83, Tryz.ntmps83
  go_wp2_with fail
  refine (draw4 g _ HS.out).mono ?_
  rintro e w1 ⟨a, n, cap, R, rfl, hn200, ho, hs1, ht1⟩
  have HO1 := Lib.hid ho
  have HS1 := Lib.hid hs1
  have HT1 := Lib.hid ht1
  have hz1 : w.heap.size ≤ w1.heap.size := ht1.below.size
  clear ho hs1 ht1
  by_cases hq : M.sqB R = true
  · have HQ := Lib.hid hq
    obtain ⟨-, hr, -, n1, n2⟩ := sq_of HO1.out.mat hq
    have HR := Lib.hid hr
    clear hq hr
    go_wp2_with fail
    refine (sSquare_b _ _ _ R _ true HQ.out HO1.out.mat).mono ?_
    rintro e w' ⟨rfl, q, rfl⟩
    have HO2 : Hid (OwnM (w1.drewN q) w.heap.size (.slice a n cap) R) := HO1.out.below (b_draws _ _)
    have HS2 : Hid (Src (w1.drewN q) g) := HS1.out.below (by have := HS1.out.lt; exact (b_draws w1 q).mono (by omega))
    have HT2 : Hid (Thr g w (w1.drewN q)) := HT1.out.drewN q
    have hz2 : w.heap.size ≤ (w1.drewN q).heap.size := hz1
    generalize w1.drewN q = w2 at HO2 HS2 HT2 hz2
    clear HO1 HS1 HT1 hz1
    go_wp2_with fail
    refine (next g 3 _ (by decide) HS2.out).mono ?_
    rintro e w3 ⟨x, rfl, hx1, -, hs3, ht3⟩
    have HO3 := Lib.hid (HO2.out.thr ht3 hgl)
    have HS3 := Lib.hid hs3
    have HT3 := Lib.hid (HT2.out.trans ht3)
    have hz3 : w.heap.size ≤ w3.heap.size := HT3.out.below.size
    clear hs3 ht3 HO2 HS2 HT2
    by_cases hx0 : x = 0
    · subst hx0
      go_wp2
      go_ret
      exact ⟨_, _, _, _, rfl, hn200, HO3.out, HS3.out, HT3.out⟩
    · have e0 : (x == 0) = false := by simpa using hx0
      have hg3 : g < w3.heap.size := by omega
      have HL0 : Hid (DL g w3.heap.size (.slice (some ⟨w3.heap.size, 0, none⟩) 0 0) [] w3 (w3.alloc (.cells #[] 2))) :=
        ⟨own_lit0 w3 _ (Nat.le_refl _), HS3.out.alloc _, (Thr.refl _ _).alloc (Nat.le_of_lt hg3) _⟩
      have HB0 : Hid (∀ x ∈ ([] : List Int), 0 ≤ x ∧ x < 6) := fun x hx => absurd hx (by simp)
      go_wp2
      go_loopw [4, 5] (fun out i wr => ∃ (t : Nat) (l : List Int) (b : Option Addr) (c : Nat), t ≤ n ∧ i = .int .i64 t ∧ out = .slice b t c ∧ Hid (DL g w3.heap.size (.slice b t c) l w3 wr) ∧ Hid (∀ x ∈ l, 0 ≤ x ∧ x < 6)) (fun _ i _ => n - (intOf i).toNat)
      case atStart => exact ⟨0, [], _, _, Nat.zero_le _, rfl, rfl, HL0, HB0⟩
      case round =>
        obtain ⟨t, l, b, c, ht, rfl, rfl, HJ, HBl⟩ := hrel
        clear HL0 HB0
        by_cases hlt : t < n
        · have hti : (t : Int) < (n : Int) := by omega
          go_wp2_with fail
          refine (next g 6 _ (by decide) HJ.out.2.1).mono ?_
          rintro e w4 ⟨y, rfl, hy1, hy2, hs4, ht4⟩
          have HJ1 := Lib.hid (HJ.out.next hg3 hs4 ht4)
          have hz4 : w3.heap.size ≤ w4.heap.size := HJ1.out.2.2.below.size
          have HLn := Lib.hid HJ1.out.1.len
          have HBl2 : Hid (∀ x ∈ l ++ [y], 0 ≤ x ∧ x < 6) := fun x hx => by
            rcases List.mem_append.1 hx with h | h
            · exact HBl.out x h
            · simp at h; subst h; omega
          clear hs4 ht4 hy2 HJ
          go_wp2_with (at_builtin; refine append1 _ rfl (.tmp 27) (.tmp 30) rfl w3.heap.size _ _ _ t HJ1.out.1.len.symm rfl HJ1.out.1 rfl (by rw [← HLn.out]; omega) hz4 ?_)
          intro b2 c2 w5 hO5 hb5 _
          have HJ2 := Lib.hid (HJ1.out.app hg3 hO5 hb5)
          clear hO5 hb5 HJ1
          go_wp2
          go_roundw
          case rel => exact ⟨t + 1, _, _, _, by omega, by go_num, rfl, HJ2, HBl2⟩
          case measure => simp [intOf]; omega
        · obtain rfl : t = n := by omega
          obtain ⟨o, -, -, -, -, rfl, -⟩ := HO3.out.at 0 0 (by omega) (by rw [HR.out.2 0 (by omega)]; omega)
          have hzr : w3.heap.size ≤ wr.heap.size := HJ.out.2.2.below.size
          have HD0 : Hid (D3 g w.heap.size w3.heap.size t cap o (.slice b t c) l w wr) :=
            ⟨R, HR.out, HO3.out.upto.keep (fun k k1 k2 => HJ.out.2.2.other k (by omega) k2), HJ.out.1, hzr, HJ.out.2.1, HT3.out.trans HJ.out.2.2⟩
          have HLn := Lib.hid HJ.out.1.len
          have HBx : Hid (∀ k, k < t → 0 ≤ l.getD k 0 ∧ l.getD k 0 < 6) := fun k hk => by
            have hk2 : k < l.length := by rw [← HLn.out]; exact hk
            have := HBl.out l[k] (List.getElem_mem hk2)
            simpa [hk2] using this
          clear HJ HO3 HS3 HT3
          go_wp2_with fail
          refine (next g 7 _ (by decide) HD0.out.choose_spec.2.2.2.2.1).mono ?_
          rintro e wm ⟨ym, rfl, hym1, hym2, hsm, htm⟩
          have HD1 := Lib.hid (HD0.out.next hgl hz3 hsm htm)
          clear HD0 hsm htm
          go_wp2
          go_loopw [7, 8] (fun i _ wr => ∃ k : Nat, k ≤ t ∧ i = .int .i64 k ∧ Hid (D3 g w.heap.size w3.heap.size t cap o (.slice b t c) l w wr)) (fun i _ _ => t - (intOf i).toNat)
          case atStart => exact ⟨0, Nat.zero_le _, rfl, HD1⟩
          case round =>
            obtain ⟨k, hk, rfl, HD⟩ := hrel
            obtain ⟨wo, rfl⟩ : ∃ x, x = wr := ⟨_, rfl⟩
            clear HD1
            by_cases hlt : k < t
            · have hki : (k : Int) < (t : Int) := by omega
              go_wp2
              go_loopw [8] (fun i wr => ∃ s : Nat, s ≤ t ∧ i = .int .i64 s ∧ Hid (D3 g w.heap.size w3.heap.size t cap o (.slice b t c) l w wr)) (fun i _ => t - (intOf i).toNat)
              case atStart => exact ⟨0, Nat.zero_le _, rfl, HD⟩
              case round =>
                obtain ⟨s, hs, rfl, HE⟩ := hrel
                obtain ⟨wp, rfl⟩ : ∃ x, x = wr := ⟨_, rfl⟩
                clear HD
                by_cases hsl : s < t
                · have hsi : (s : Int) < (t : Int) := by omega
                  obtain ⟨q, c2, x, xb, rfl, hq1, hq2, hxb, hqo, ho1, ho2, c1, c2', f1, d1, d2⟩ := HE.out.cells hgl k s hlt hsl hlt hsl
                  obtain ⟨u, hu⟩ : ∃ u, u = l.getD k 0 := ⟨_, rfl⟩
                  obtain ⟨v, hv⟩ : ∃ v, v = l.getD s 0 := ⟨_, rfl⟩
                  have hub := HBx.out k hlt
                  have hvb := HBx.out s hsl
                  rw [← hu] at d1 hub
                  rw [← hv] at d2 hvb
                  obtain ⟨hu1, hu2⟩ := hub
                  obtain ⟨hv1, hv2⟩ := hvb
                  obtain ⟨bf, hbf⟩ : ∃ bf, bf = M.isFin x := ⟨_, rfl⟩
                  have HCf : ∀ w, Calls Tryz.prog 130 #[.int .i64 x] w fun e w' => e = .returned (.bool bf) ∧ w = w' := fun w => by rw [hbf]; exact sFinite x w
                  obtain ⟨bi, hbi⟩ : ∃ bi, bi = (decide (-100 ≤ x) && decide (x ≤ 100)) := ⟨_, rfl⟩
                  have HCi : ∀ w, Calls Tryz.prog 131 #[.int .i64 x, .int .i64 (-100), .int .i64 100] w fun e w' => e = .returned (.bool bi) ∧ w = w' := fun w => by rw [hbi]; exact sIn x _ _ w
                  clear hu hv hbf hbi
                  cases bf with
                  | false =>
                    go_wp2_with (go_at_call 130; refine (HCf _).mono ?_; rintro e w' ⟨rfl, rfl⟩)
                    go_roundw
                    case rel => exact ⟨s + 1, by omega, by go_num, HE⟩
                    case measure => simp [intOf]; omega
                  | true =>
                    cases bi with
                    | false =>
                      go_wp2_with (first | (go_at_call 130; refine (HCf _).mono ?_; rintro e w' ⟨rfl, rfl⟩) | (go_at_call 131; refine (HCi _).mono ?_; rintro e w' ⟨rfl, rfl⟩))
                      go_roundw
                      case rel => exact ⟨s + 1, by omega, by go_num, HE⟩
                      case measure => simp [intOf]; omega
                    | true =>
                      go_wp2_with (first | (go_at_call 130; refine (HCf _).mono ?_; rintro e w' ⟨rfl, rfl⟩) | (go_at_call 131; refine (HCi _).mono ?_; rintro e w' ⟨rfl, rfl⟩))
                      have HE1 := Lib.hid HE.out.drew
                      go_region_held3 (fun w' => w'.cell? ⟨o, k, none⟩ = some (.slice (some ⟨q, 0, none⟩) t c2) ∧ w'.cell? ⟨xb, k, none⟩ = some (.int .i64 u) ∧ w'.cell? ⟨xb, s, none⟩ = some (.int .i64 v) ∧ D3 g w.heap.size w3.heap.size t cap o (.slice (some ⟨xb, 0, none⟩) t c) l w w')
                        (first
                          | exact ⟨c1, d1, d2, HE1.out⟩
                          | exact d3_next ‹_ ∧ _ ∧ _ ∧ D3 _ _ _ _ _ _ _ _ _ _› hgl hz3 ho1 hxb HSx.out HTx.out
                          | exact d3_store ‹_ ∧ _ ∧ _ ∧ D3 _ _ _ _ _ _ _ _ _ _› hgl (Nat.le_refl _) hlt hsl hqo hq2 hxb _
                          | assumption | exact ⟨‹_›, ‹_›, ‹_›, ‹_›⟩)
                        ((go_at_call 57; refine (next g 5 _ (by decide) HE1.out.choose_spec.2.2.2.2.1).mono ?_; rintro e wx ⟨y, rfl, hy1, hy2, hsx, htx⟩; have HSx := Lib.hid hsx; have HTx := Lib.hid htx; have cqx : wx.cell? ⟨q, s, none⟩ = some (.int .i64 x) := (htx.cell (p := ⟨q, s, none⟩) (cell_lt c2') (show q ≠ g by omega)).trans c2'; have fqx : wx.frozen? ⟨q, s, none⟩ = false := (htx.frozen (p := ⟨q, s, none⟩) (cell_lt c2') (show g < q by omega)).trans f1; clear hsx htx))
                      go_wp2
                      go_roundw
                      case rel => exact ⟨s + 1, by omega, by go_num, d3_of (d3_store (d3_next (w := wp.drew) ⟨c1, d1, d2, HE1.out⟩ hgl hz3 ho1 hxb HSx.out HTx.out) hgl (Nat.le_refl _) hlt hsl hqo hq2 hxb _)⟩
                      case measure => simp [intOf]; omega
                · obtain rfl : s = t := by omega
                  go_wp2
                  go_roundw
                  case rel => exact ⟨k + 1, by omega, by go_num, HE⟩
                  case measure => simp [intOf]; omega
            · obtain rfl : k = t := by omega
              obtain ⟨R2, -, h2, -, -, h5, h6⟩ := HD.out
              go_wp2
              go_ret
              exact ⟨_, _, _, _, rfl, hn200, h2.own, h5, h6⟩
  · simp only [Bool.not_eq_true] at hq
    have HQ := Lib.hid hq
    clear hq
    go_wp2_with fail
    refine (sSquare_b _ _ _ R _ false HQ.out HO1.out.mat).mono ?_
    rintro e w' ⟨rfl, q, rfl⟩
    have hlt := HS1.out.lt
    go_wp2
    go_ret
    exact ⟨_, _, _, _, rfl, hn200, HO1.out.below (b_draws _ _), HS1.out.below ((b_draws w1 q).mono (by omega)), HT1.out.drewN q⟩
set_option maxRecDepth 100000 in
set_option maxHeartbeats 1000000 in
theorem drawEigenColumns (a : Option Addr) (n cap : Nat) (w : World) (h : Bytes w a n) :
    Calls Tryz.prog 41 #[.slice a n cap] w (DrawnM w) := by
  have HB := Lib.hid h
  clear h
  go_enter Tryz.func41, Tryz.ntmps41
  go_wp2_with fail
  refine (from_ _ _ _ _ HB.out).mono ?_
  rintro e w1 ⟨rfl, hs1, hb1⟩
  have HS1 := Lib.hid hs1
  have HB1 := Lib.hid hb1
  clear hs1 hb1
  go_wp2_with fail
  refine (draw6 _ _ HS1.out).mono ?_
  rintro e w2 ⟨a2, n2, c2, R, rfl, -, ho, hs2, ht2⟩
  have HO := Lib.hid ho.mat
  have HB2 := Lib.hid (HB1.out.trans ht2.below)
  clear ho hs2 ht2
  go_wp2
  go_ret
  exact ⟨a2, n2, c2, R, rfl, HO.out, HB2.out⟩
set_option maxRecDepth 100000 in
set_option maxHeartbeats 2000000 in
theorem drawPeriodAt (a : Option Addr) (n cap : Nat) (w : World) (h : Bytes w a n) :
    Calls Tryz.prog 34 #[.slice a n cap] w (DrawnMI w) := by
  have HB := Lib.hid h
  clear h
  go_enter Tryz.func34, Tryz.ntmps34
  go_wp2_with fail
  refine (from_ _ _ _ _ HB.out).mono ?_
  rintro e w1 ⟨rfl, hs1, hb1⟩
  have HS1 := Lib.hid hs1
  have HB1 := Lib.hid hb1
  have hgl := hs1.lt
  clear hs1 hb1
  go_wp2_with fail
  refine (draw6 _ _ HS1.out).mono ?_
  rintro e w2 ⟨a2, n2, c2, R, rfl, hn2, ho, hs2, ht2⟩
  have HO2 := Lib.hid ho
  have HS2 := Lib.hid hs2
  have HT2 := Lib.hid ht2
  clear ho hs2 ht2
  go_wp2_with fail
  refine (next _ 24 _ (by decide) HS2.out).mono ?_
  rintro e w3 ⟨x, rfl, -, -, hs3, ht3⟩
  have HO3 := Lib.hid (HO2.out.thr ht3 hgl)
  have HS3 := Lib.hid hs3
  have HT3 := Lib.hid (HT2.out.trans ht3)
  have hw2 : (Lit.int .i64 (n2 : Int)).wf = true := wf_small _ (by omega) (by omega)
  clear hs3 ht3 HO2 HS2 HT2
  by_cases hx0 : x = 0
  · subst hx0
    have hg3 := HS3.out.lt
    go_wp2_with fail
    refine (pick _ _ 0 2 2 _ (HS3.out.alloc _) (by omega) (by omega) hg3 (litCells _ [-1, (n2 : Int)] _ _ rfl (by show ((Lit.int .i64 (-1)).wf && ((Lit.int .i64 (n2 : Int)).wf && true)) = true; rw [hw2]; rfl))).mono ?_
    rintro e w4 ⟨p1, rfl, -, hs4, ht4⟩
    have ht4' := ((Thr.refl _ w3).alloc (Nat.le_of_lt hg3) _).trans ht4
    have HB4 := Lib.hid (HB1.out.trans (HT3.out.trans ht4').below)
    have HO4 := Lib.hid (HO3.out.thr ht4' hgl).mat
    clear hs4 ht4 ht4'
    go_wp2
    go_ret2
    exact ⟨_, _, _, R, p1, rfl, HO4.out, HB4.out⟩
  · have ex : (x == 0) = false := by simpa using hx0
    go_wp2_with fail
    refine (next _ (n2 : Int) _ hw2 HS3.out).mono ?_
    rintro e w4 ⟨p1, rfl, -, -, hs4, ht4⟩
    have HB4 := Lib.hid (HB1.out.trans (HT3.out.trans ht4).below)
    have HO4 := Lib.hid (HO3.out.thr ht4 hgl).mat
    clear hs4 ht4
    go_wp2
    go_ret2
    exact ⟨_, _, _, R, p1, rfl, HO4.out, HB4.out⟩
end Go.Proofs.YtmhpgnndjagogaaGreat.V

namespace Go.Proofs.YtmhpgnndjagogaaGreat.V
open Go.RowKit

theorem Thr.setNew {g : Nat} {a b : World} (h : Thr g a b) {p : Addr} (hp : a.heap.size ≤ p.block) (hg : g ≤ p.block) (v : Value) : Thr g a (b.setCell p v) :=
  ⟨h.below.setCell hg v, fun k h1 h2 => (Below.heap_setCell _ _ _ _ (by omega)).trans (h.other k h1 h2)⟩
theorem Src.setNew {w : World} {g : Nat} (h : Src w g) {p : Addr} (hg : g < p.block) (v : Value) : Src (w.setCell p v) g := h.below ((Below.refl _ _).setCell hg v)

/-- A drawn ratio: two integers. -/
def RatPost (g : Nat) (w : World) (e : Ending) (w' : World) : Prop :=
  ∃ x y : Int, e = .returned (.agg #[.int .i64 x, .int .i64 y]) ∧ (Lit.int .i64 x).wf = true ∧ (Lit.int .i64 y).wf = true ∧ Src w' g ∧ Thr g w w'

set_option maxRecDepth 100000 in
set_option maxHeartbeats 1000000 in
theorem drawRatio (g : Nat) (w : World) (h : Src w g) :
    Calls Tryz.prog 125 #[.pointer (some ⟨g, 0, none⟩)] w (RatPost g w) := by
  have HS := Lib.hid h
  have hg := h.lt
  clear h
  go_enter Tryz.func125, Tryz.ntmps125
  go_wp2_with fail
  refine (next _ _ _ (by decide) (HS.out.alloc _)).mono ?_
  rintro e w1 ⟨p, rfl, hp1, hp2, hs1, ht1⟩
  have hb1 : w.heap.size < w1.heap.size := by have := ht1.below.size; simp at this; omega
  have f1 : w1.rowIs w.heap.size 27 2 (fun _ => .int .i64 0) := by
    refine (World.rowIs_alloc w #[.int .i64 0, .int .i64 0] 27 (fun _ => .int .i64 0) ?_).of_block (ht1.other _ hg (by simp))
    intro i hi
    match i, hi with
    | 0, _ => rfl
    | 1, _ => rfl
  have HS1 := Lib.hid hs1
  have HT1 := Lib.hid (((Thr.refl g w).alloc (Nat.le_of_lt hg) _).trans ht1)
  have HF1 := Lib.hid f1
  have hp3 : p < 80 := by omega
  clear ht1 hs1 f1 hp2
  go_wp2_with fail
  refine (next _ _ _ (by decide) HS1.out).mono ?_
  rintro e w2 ⟨q, rfl, hq1, hq2, hs2, ht2⟩
  have hb2 : w.heap.size < w2.heap.size := by have := ht2.below.size; omega
  have HS2 := Lib.hid hs2
  have HT2 := Lib.hid (HT1.out.trans ht2)
  have HF2 := Lib.hid (HF1.out.of_block (ht2.other _ hg hb1))
  have hq3 : q < 9 := by omega
  clear ht2 hs2 hq2
  go_wp2_with fail
  refine (sRatio _ _ _ (by omega) (by omega) (by omega) (by omega) (by omega)).mono ?_
  rintro e w3 ⟨rfl, hb3⟩
  obtain ⟨rn, hrn⟩ : ∃ x, x = M.ratN (p - 40) (1 + q) := ⟨_, rfl⟩
  obtain ⟨rd, hrd⟩ : ∃ x, x = M.ratD (p - 40) (1 + q) := ⟨_, rfl⟩
  have en := M.tdiv_bd (if 1 + q < 0 then -(p - 40) else p - 40) (Int.gcd (p - 40) (1 + q)) (by split <;> omega) (by split <;> omega)
  have ed := M.tdiv_bd (if 1 + q < 0 then -(1 + q) else 1 + q) (Int.gcd (p - 40) (1 + q)) (by split <;> omega) (by split <;> omega)
  have hn' : -1000000 ≤ rn ∧ rn ≤ 1000000 := by rw [hrn]; exact en
  have hd' : -1000000 ≤ rd ∧ rd ≤ 1000000 := by rw [hrd]; exact ed
  clear en ed
  obtain ⟨n1, n2⟩ := hn'
  obtain ⟨d1, d2⟩ := hd'
  rw [← hrn, ← hrd]
  clear hrn hrd
  have hb3' : w.heap.size < w3.heap.size := by have := hb3.size; omega
  have hg3 : g < w3.heap.size := by omega
  have HS3 := Lib.hid ((HS2.out.below (hb3.mono (by omega))).alloc (.cells #[.int .i64 rn, .int .i64 rd] 27))
  have HT3 := Lib.hid ((HT2.out.trans ⟨hb3.mono (by omega), fun k _ h2 => hb3.block k h2⟩).alloc (Nat.le_of_lt hg3) (.cells #[.int .i64 rn, .int .i64 rd] 27))
  have HF3 := Lib.hid ((HF2.out.of_block (hb3.block _ hb2)).alloc (.cells #[.int .i64 rn, .int .i64 rd] 27))
  have HR3 := Lib.hid (World.rowIs_alloc w3 #[.int .i64 rn, .int .i64 rd] 27 (fun i => if i = 0 then .int .i64 rn else .int .i64 rd) (by
    intro i hi
    match i, hi with
    | 0, _ => rfl
    | 1, _ => rfl))
  clear hb3 HT1 HT2 HF1 HF2 HS1 HS2
  go_wp2_with fail
  refine (next _ _ _ (by decide) HS3.out).mono ?_
  rintro e w4 ⟨k, rfl, hk1, hk2, hs4, ht4⟩
  have hb4 : w3.heap.size < w4.heap.size := by have := ht4.below.size; simp at this; omega
  have HS4 := Lib.hid hs4
  have HT4 := Lib.hid (HT3.out.trans ht4)
  have hF4 := HF3.out.of_block (ht4.other _ hg (by simp; omega))
  have hR4 := HR3.out.of_block (ht4.other _ hg3 (by simp))
  have c0 : w4.cell? ⟨w3.heap.size, 0, none⟩ = some (.int .i64 rn) := hR4.cell (i := 0) (by simp)
  have c1 : w4.cell? ⟨w3.heap.size, 1, none⟩ = some (.int .i64 rd) := hR4.cell (i := 1) (by simp)
  have r0 : w4.cell? ⟨w.heap.size, 0, none⟩ = some (.int .i64 0) := hF4.cell (i := 0) (by omega)
  have r1 : w4.cell? ⟨w.heap.size, 1, none⟩ = some (.int .i64 0) := hF4.cell (i := 1) (by omega)
  have z0 := hF4.frozen 0
  have z1 := hF4.frozen 1
  have HF4 := Lib.hid hF4
  clear ht4 hs4 hk2 hF4 hR4 HS3 HT3 HF3 HR3
  by_cases h0 : k = 0
  · subst h0
    go_wp2
    exact bodyPost_ret (v := .agg #[.int .i64 (2 * rn), .int .i64 (2 * rd)]) (by simp [results, Tryz.results125, go_sem, r0, r1]) rfl
      ⟨_, _, rfl, wf_small _ (by omega) (by omega), wf_small _ (by omega) (by omega), (HS4.out.setNew hg _).setNew hg _, (HT4.out.setNew (Nat.le_refl _) (Nat.le_of_lt hg) _).setNew (Nat.le_refl _) (Nat.le_of_lt hg) _⟩
  · have e0 : (k == 0) = false := by simpa using h0
    clear h0
    by_cases h1 : k = 1
    · subst h1
      go_wp2_with fail
      refine (pick _ _ 0 3 3 _ (HS4.out.alloc _) (by omega) (by omega) HS4.out.lt (litCells _ [1000000, 1000001, -1000000] _ _ rfl (by decide))).mono ?_
      rintro e w5 ⟨x, rfl, hx, hs5, ht5⟩
      have hb5 : w4.heap.size < w5.heap.size := by have := ht5.below.size; simp at this; omega
      have HS5 := Lib.hid hs5
      have HT5 := Lib.hid ((HT4.out.alloc (by omega) _).trans ht5)
      have HF5 := Lib.hid ((HF4.out.alloc _).of_block (ht5.other _ hg (by simp; omega)))
      clear hs5 ht5
      go_wp2_with fail
      refine (pick _ _ 0 4 4 _ (HS5.out.alloc _) (by omega) (by omega) HS5.out.lt (litCells _ [1, 1000000, 0, -1] _ _ rfl (by decide))).mono ?_
      rintro e w6 ⟨y, rfl, hy, hs6, ht6⟩
      have HS6 := Lib.hid hs6
      have HT6 := Lib.hid ((HT5.out.alloc (by omega) _).trans ht6)
      have hF6 := (HF5.out.alloc _).of_block (ht6.other _ hg (by simp; omega))
      have s0 : w6.cell? ⟨w.heap.size, 0, none⟩ = some (.int .i64 0) := hF6.cell (i := 0) (by omega)
      have s1 : w6.cell? ⟨w.heap.size, 1, none⟩ = some (.int .i64 0) := hF6.cell (i := 1) (by omega)
      have y0 := hF6.frozen 0
      have y1 := hF6.frozen 1
      clear hs6 ht6 hF6
      go_wp2
      exact bodyPost_ret (v := .agg #[.int .i64 x, .int .i64 y]) (by simp [results, Tryz.results125, go_sem, s0, s1]) rfl
        ⟨_, _, rfl, hx, hy, (HS6.out.setNew hg _).setNew hg _, (HT6.out.setNew (Nat.le_refl _) (Nat.le_of_lt hg) _).setNew (Nat.le_refl _) (Nat.le_of_lt hg) _⟩
    · have e1 : (k == 1) = false := by simpa using h1
      clear h1
      go_wp2
      exact bodyPost_ret (v := .agg #[.int .i64 rn, .int .i64 rd]) (by simp [results, Tryz.results125, go_sem, r0, r1]) rfl
        ⟨_, _, rfl, wf_small _ (by omega) (by omega), wf_small _ (by omega) (by omega), (HS4.out.setNew hg _).setNew hg _, (HT4.out.setNew (Nat.le_refl _) (Nat.le_of_lt hg) _).setNew (Nat.le_refl _) (Nat.le_of_lt hg) _⟩

end Go.Proofs.YtmhpgnndjagogaaGreat.V

namespace Go.Proofs.YtmhpgnndjagogaaGreat.V
set_option maxRecDepth 100000
open Go.RowKit
/-- A drawn matrix and a drawn ratio. -/
def DrawRB (g : Nat) (w : World) (e : Ending) (w' : World) : Prop :=
  ∃ (a : Option Addr) (n cap : Nat) (R : List (List Int)) (x y : Int), e = .returned (.tuple #[.slice a n cap, .agg #[.int .i64 x, .int .i64 y]]) ∧ n ≤ 200 ∧ OwnM w' w.heap.size (.slice a n cap) R ∧ Src w' g ∧ Thr g w w'
theorem mean_bd {R : List (List Int)} (h : (M.cycMeanRes R).2 = 0) : -1000000 ≤ (M.cycMeanRes R).1.1 ∧ (M.cycMeanRes R).1.1 ≤ 1000000 ∧ 1 ≤ (M.cycMeanRes R).1.2 ∧ (M.cycMeanRes R).1.2 ≤ 10 := by
  obtain ⟨h1, h2, h3, h4⟩ := M.cyc_t h
  obtain ⟨n1, n2, hA⟩ := M.sq_sm h1
  obtain ⟨⟨b1, -⟩, -, -, -, b2⟩ := M.bestR_best n2 hA h2
  rw [h4]
  have := M.isRat_t h3
  show -1000000 ≤ (M.bestR (M.ent R) R.length).1 ∧ (M.bestR (M.ent R) R.length).1 ≤ 1000000 ∧ 1 ≤ (M.bestR (M.ent R) R.length).2 ∧ (M.bestR (M.ent R) R.length).2 ≤ 10
  exact ⟨by omega, by omega, b1, b2⟩
theorem frz_box (w : World) (x y : Int) (i : Nat) : (w.alloc (rbox x y)).frozen? ⟨w.heap.size, i, none⟩ = false := by
  have hg : (w.alloc (rbox x y)).heap[w.heap.size]? = some (.cells #[.int .i64 x, .int .i64 y] 27 (0, 0)) := heap_alloc_last _ _
  unfold World.frozen?
  simp only [hg]
  simp
theorem box_thr {g : Nat} {w0 w w' : World} {x y : Int} (h : w = w0.alloc (rbox x y)) (hg : g < w0.heap.size) (ht : Thr g w w') :
    (w'.cell? ⟨w0.heap.size, 0, none⟩ = some (.int .i64 x) ∧ w'.cell? ⟨w0.heap.size, 1, none⟩ = some (.int .i64 y)) ∧ w'.frozen? ⟨w0.heap.size, 0, none⟩ = false ∧ w'.frozen? ⟨w0.heap.size, 1, none⟩ = false ∧ w0.heap.size < w'.heap.size := by
  subst h
  have hz := ht.below.size
  simp at hz
  refine ⟨⟨?_, ?_⟩, ?_, ?_, by omega⟩
  · rw [ht.cell (p := ⟨w0.heap.size, 0, none⟩) (by simp) (by show w0.heap.size ≠ g; omega)]; simp
  · rw [ht.cell (p := ⟨w0.heap.size, 1, none⟩) (by simp) (by show w0.heap.size ≠ g; omega)]; simp
  · rw [ht.frozen (p := ⟨w0.heap.size, 0, none⟩) (by simp) (by show g < w0.heap.size; omega)]; exact frz_box _ _ _ _
  · rw [ht.frozen (p := ⟨w0.heap.size, 1, none⟩) (by simp) (by show g < w0.heap.size; omega)]; exact frz_box _ _ _ _
set_option maxRecDepth 100000 in
set_option maxHeartbeats 4000000 in
theorem drawRat4 (g : Nat) (w0 : World) (h : Src w0 g) : Calls Tryz.prog 66 #[.pointer (some ⟨g, 0, none⟩)] w0 (DrawRB g w0) := by
  obtain ⟨w, hwd⟩ : ∃ w, w = w0.alloc (rbox 0 0) := ⟨_, rfl⟩
  have HX : Hid (Boxed w0 w 0 0) := by show Boxed _ _ _ _; rw [hwd]; exact boxed _ _ _
  have hgl := h.lt
  have hsz : w.heap.size = w0.heap.size + 1 := by rw [hwd]; simp
  have HS := Lib.hid (show Src w g by rw [hwd]; exact h.alloc _)
  have HT := Lib.hid (show Thr g w0 w by rw [hwd]; exact (Thr.refl g w0).alloc (by omega) _)
  have HSz := Lib.hid hsz
  have hgw : g < w.heap.size := by omega
  clear h hsz
  go_enter Tryz.func66, Tryz.ntmps66
  go_wp2_with fail
  change Calls _ _ _ (w0.alloc (rbox 0 0)) _
  rw [← hwd]
  refine (draw4 g _ HS.out).mono ?_
  rintro e w2 ⟨a2, n2, c2, R, rfl, hn2, ho, hs2, ht2⟩
  have HO2 := Lib.hid ho
  have HS2 := Lib.hid hs2
  have HT2 := Lib.hid ht2
  clear ho hs2 ht2
  obtain ⟨cv, hcv⟩ : ∃ cv, cv = M.cycMeanRes R := ⟨_, rfl⟩
  have hbd := mean_bd (R := R)
  rw [← hcv] at hbd
  have HCV := Lib.hid hcv
  clear hcv
  obtain ⟨⟨c1, c2'⟩, c3⟩ := cv
  go_wp2_with fail
  refine (sCycleMean _ _ _ R _ HO2.out.mat).mono ?_
  rintro e w3 ⟨rfl, hb⟩
  rw [← HCV.out]
  have hz2 := HT2.out.below.size
  have hg2 := HS2.out.lt
  have ht3 : Thr g w2 w3 := Thr.of_below hb (by omega)
  have HO3 := Lib.hid (HO2.out.below hb)
  have HS3 := Lib.hid (HS2.out.below (hb.mono hg2))
  have HT3 := Lib.hid (HT2.out.trans ht3)
  have hz3 := hb.size
  clear hb ht3 HO2 HS2 HT2
  obtain ⟨w4, hw4⟩ : ∃ x, x = w3.alloc (rbox c1 c2') := ⟨_, rfl⟩
  have HW4 := Lib.hid hw4
  have HO4 : Hid (OwnM w4 w.heap.size (.slice a2 n2 c2) R) := by show OwnM _ _ _ _; rw [hw4]; exact HO3.out.below (b_alloc _ _)
  have HS4 : Hid (Src w4 g) := by show Src _ _; rw [hw4]; exact HS3.out.alloc _
  have HT4 : Hid (Thr g w w4) := by show Thr _ _ _; rw [hw4]; exact HT3.out.alloc (by omega) _
  have HWD := Lib.hid hwd
  clear hwd HO3 HS3 HT3
  by_cases hc : c3 = 0
  · subst hc
    obtain ⟨k1, k2, k3, k4⟩ := hbd rfl
    have k1 : -1000000 ≤ c1 := k1
    have k2 : c1 ≤ 1000000 := k2
    have k3 : 1 ≤ c2' := k3
    have k4 : c2' ≤ 10 := k4
    clear hbd
    go_wp2_with fail
    change Calls _ _ _ (w3.alloc (rbox c1 c2')) _
    rw [← hw4]
    clear hw4
    refine (next g 4 _ (by decide) HS4.out).mono ?_
    rintro e w5 ⟨x, rfl, -, -, hs5, ht5⟩
    have HO5 := Lib.hid (HO4.out.thr ht5 hgw)
    have HS5 := Lib.hid hs5
    have HT5 := Lib.hid (HT4.out.trans ht5)
    have HU5 := Lib.hid ht5
    clear hs5 ht5
    by_cases hx : x = 0
    · subst hx
      go_wp2_with fail
      refine (drawRatio g _ HS5.out).mono ?_
      rintro e w6 ⟨x1, y1, rfl, hx, hy, hs6, ht6⟩
      have HO6 := Lib.hid (HO5.out.thr ht6 hgw)
      have HS6 := Lib.hid hs6
      have HT6 := Lib.hid (HT.out.trans (HT5.out.trans ht6))
      obtain ⟨⟨r0, r1⟩, z0, z1, hlt⟩ := box_thr HWD.out hgl (HT5.out.trans ht6)
      clear hs6 ht6
      go_wp2
      exact bodyPost_ret (v := .tuple #[.slice a2 n2 c2, .agg #[.int .i64 x1, .int .i64 y1]]) (by simp [results, Tryz.results66, go_sem, r0, r1]) rfl
        ⟨_, _, _, R, _, _, rfl, hn2, (HO6.out.keep (fun k h1 _ => (Below.heap_setCell _ _ _ _ (by have := HSz.out; show k ≠ w0.heap.size; omega)).trans (Below.heap_setCell _ _ _ _ (by have := HSz.out; show k ≠ w0.heap.size; omega)))).mono (by have := HSz.out; omega), (HS6.out.setNew hgl _).setNew hgl _, (HT6.out.setNew (Nat.le_refl _) (Nat.le_of_lt hgl) _).setNew (Nat.le_refl _) (Nat.le_of_lt hgl) _⟩
    · have ex : (x == 0) = false := by simpa using hx
      go_wp2_with fail
      refine (next g 2 _ (by decide) HS5.out).mono ?_
      rintro e w6 ⟨y, rfl, -, -, hs6, ht6⟩
      have HO6 := Lib.hid (HO5.out.thr ht6 hgw)
      have HS6 := Lib.hid hs6
      have HT6 := Lib.hid (HT.out.trans (HT5.out.trans ht6))
      obtain ⟨⟨r0, r1⟩, z0, z1, hlt⟩ := box_thr HWD.out hgl (HT5.out.trans ht6)
      obtain ⟨⟨u0, u1⟩, v0, v1, hlt2⟩ := box_thr HW4.out (by omega) (HU5.out.trans ht6)
      have HV6 := Lib.hid (HT5.out.trans ht6)
      have HU6 := Lib.hid (HU5.out.trans ht6)
      clear hs6 ht6
      by_cases hy : y = 0
      · subst hy
        go_wp2
        go_region
        all_goals
          go_wp2
          exact bodyPost_ret (v := .tuple #[.slice a2 n2 c2, .agg #[.int .i64 c1, .int .i64 c2']]) (by simp [results, Tryz.results66, go_sem, r0, r1]) rfl
            ⟨_, _, _, R, _, _, rfl, hn2, (HO6.out.keep (fun k h1 _ => (Below.heap_setCell _ _ _ _ (by have := HSz.out; show k ≠ w0.heap.size; omega)).trans (Below.heap_setCell _ _ _ _ (by have := HSz.out; show k ≠ w0.heap.size; omega)))).mono (by have := HSz.out; omega), (HS6.out.setNew hgl _).setNew hgl _, ((HT6.out.setNew (Nat.le_refl _) (Nat.le_of_lt hgl) _).setNew (Nat.le_refl _) (Nat.le_of_lt hgl) _).drew⟩
      · have ey : (y == 0) = false := by simpa using hy
        go_wp2
        go_region_with (first
          | (go_at_call 124; rw [IntWalk.i64_in (c1 + p) (by omega), IntWalk.i64_in (c1 + p - 2) (by omega), IntWalk.i64_in (c2' + q) (by omega)]; refine (sRatio _ _ _ (by omega) (by omega) (by omega) (by omega) (by omega)).mono ?_; rintro e w9 ⟨rfl, hb9⟩; have HT9 := Lib.hid (HV8.out.trans (Thr.of_below hb9 (by omega))); have HS9 := Lib.hid (HS8.out.below (hb9.mono (by omega))); have HO9 := Lib.hid (HO8.out.below hb9); obtain ⟨⟨r0, r1⟩, z0, z1, hlt⟩ := box_thr HWD.out hgl HT9.out)
          | (have _g := HS7.out; clear _g; go_at_call 57; refine (next g 2 _ (by decide) (by exact HS7.out)).mono ?_; rintro e w8 ⟨q, rfl, hq1, hq2, hs8, ht8⟩; have HS8 := Lib.hid hs8; have HV8 : Hid (Thr g w w8) := Lib.hid (by first | exact HV7.out.trans ht8 | exact HV7.out.drew.trans ht8); have HU8 : Hid (Thr g w4 w8) := Lib.hid (by first | exact HU7.out.trans ht8 | exact HU7.out.drew.trans ht8); have HO8 : Hid (OwnM w8 w.heap.size (.slice a2 n2 c2) R) := Lib.hid (by first | exact HO7.out.thr ht8 hgw | exact OwnM.thr (HO7.out.keep (w' := w7.drew) (fun _ _ _ => rfl)) ht8 hgw); obtain ⟨⟨r0, r1⟩, z0, z1, hlt⟩ := box_thr HWD.out hgl HV8.out; obtain ⟨⟨u0, u1⟩, v0, v1, hlt8⟩ := box_thr HW4.out (by omega) HU8.out; clear hs8 ht8)
          | (go_at_call 57; refine (next g 7 _ (by decide) (by exact HS6.out)).mono ?_; rintro e w7 ⟨p, rfl, hp1, hp2, hs7, ht7⟩; have HS7 := Lib.hid hs7; have HV7 : Hid (Thr g w w7) := Lib.hid (by first | exact HV6.out.trans ht7 | exact HV6.out.drew.trans ht7); have HU7 : Hid (Thr g w4 w7) := Lib.hid (by first | exact HU6.out.trans ht7 | exact HU6.out.drew.trans ht7); have HO7 : Hid (OwnM w7 w.heap.size (.slice a2 n2 c2) R) := Lib.hid (by first | exact HO6.out.thr ht7 hgw | exact OwnM.thr (HO6.out.keep (w' := w6.drew) (fun _ _ _ => rfl)) ht7 hgw); obtain ⟨⟨r0, r1⟩, z0, z1, hlt⟩ := box_thr HWD.out hgl HV7.out; obtain ⟨⟨u0, u1⟩, v0, v1, hlt7⟩ := box_thr HW4.out (by omega) HU7.out; clear hs7 ht7))
        all_goals
          have hTf : Thr g w0 w9 := HT.out.trans HT9.out
          have hOf := HO9.out
          have hSf := HS9.out
          go_wp2
          exact bodyPost_ret (v := .tuple #[.slice a2 n2 c2, .agg #[.int .i64 (M.ratN (c1 + p - 2) (c2' + q)), .int .i64 (M.ratD (c1 + p - 2) (c2' + q))]]) (by simp [results, Tryz.results66, go_sem, r0, r1]) rfl
            ⟨_, _, _, R, _, _, rfl, hn2, (hOf.keep (fun k h1 _ => (Below.heap_setCell _ _ _ _ (by have := HSz.out; show k ≠ w0.heap.size; omega)).trans (Below.heap_setCell _ _ _ _ (by have := HSz.out; show k ≠ w0.heap.size; omega)))).mono (by have := HSz.out; omega), (hSf.setNew hgl _).setNew hgl _, (hTf.setNew (Nat.le_refl _) (Nat.le_of_lt hgl) _).setNew (Nat.le_refl _) (Nat.le_of_lt hgl) _⟩
  · have hcn : (c3 == 0) = false := by simpa using hc
    go_wp2_with fail
    change Calls _ _ _ (w3.alloc (rbox c1 c2')) _
    rw [← hw4]
    clear hw4
    refine (drawRatio g _ HS4.out).mono ?_
    rintro e w6 ⟨x1, y1, rfl, hx, hy, hs6, ht6⟩
    have HO6 := Lib.hid (HO4.out.thr ht6 hgw)
    have HS6 := Lib.hid hs6
    have HT6 := Lib.hid (HT.out.trans (HT4.out.trans ht6))
    obtain ⟨⟨r0, r1⟩, z0, z1, hlt⟩ := box_thr HWD.out hgl (HT4.out.trans ht6)
    clear hs6 ht6
    go_wp2
    exact bodyPost_ret (v := .tuple #[.slice a2 n2 c2, .agg #[.int .i64 x1, .int .i64 y1]]) (by simp [results, Tryz.results66, go_sem, r0, r1]) rfl
      ⟨_, _, _, R, _, _, rfl, hn2, (HO6.out.keep (fun k h1 _ => (Below.heap_setCell _ _ _ _ (by have := HSz.out; show k ≠ w0.heap.size; omega)).trans (Below.heap_setCell _ _ _ _ (by have := HSz.out; show k ≠ w0.heap.size; omega)))).mono (by have := HSz.out; omega), (HS6.out.setNew hgl _).setNew hgl _, (HT6.out.setNew (Nat.le_refl _) (Nat.le_of_lt hgl) _).setNew (Nat.le_refl _) (Nat.le_of_lt hgl) _⟩
end Go.Proofs.YtmhpgnndjagogaaGreat.V

namespace Go.Proofs.YtmhpgnndjagogaaGreat.V
set_option maxRecDepth 100000
open Go.RowKit
/-- A drawn matrix, a drawn ratio and a drawn list. -/
def DrawPR (g : Nat) (w : World) (e : Ending) (w' : World) : Prop :=
  ∃ (a : Option Addr) (n cap : Nat) (R : List (List Int)) (x y : Int) (b : Option Addr) (N c : Nat) (l : List Int), e = .returned (.tuple #[.slice a n cap, .agg #[.int .i64 x, .int .i64 y], .slice b N c]) ∧ n ≤ 200 ∧ OwnM w' w.heap.size (.slice a n cap) R ∧ Own w' w.heap.size (.slice b N c) l ∧ Src w' g ∧ Thr g w w'
theorem potRes_pos7 {R : List (List Int)} {a b : Int} (h : (M.potRes R a b).2 = 0) : 1 ≤ (M.potRes R a b).1.length ∧ (M.potRes R a b).1.length ≤ 10 := by
  unfold M.potRes at h ⊢
  by_cases h1 : (M.sqB R && M.isRat a b) = true
  · rw [if_pos h1] at h ⊢
    by_cases h2 : M.noPos (M.shf (M.ent R) a b) R.length = true
    · rw [if_pos h2] at h ⊢
      by_cases h3 : M.isVec (M.potL R a b) = true
      · rw [if_pos h3]
        exact ⟨(M.isVec_t h3).1, (M.isVec_t h3).2.1⟩
      · rw [if_neg h3] at h; simp at h
    · rw [if_neg h2] at h; simp at h
  · rw [if_neg h1] at h; simp at h
set_option maxRecDepth 100000 in
set_option maxHeartbeats 4000000 in
theorem drawProof4 (g : Nat) (w0 : World) (h : Src w0 g) : Calls Tryz.prog 56 #[.pointer (some ⟨g, 0, none⟩)] w0 (DrawPR g w0) := by
  obtain ⟨w, hwd⟩ : ∃ w, w = w0.alloc (rbox 0 0) := ⟨_, rfl⟩
  have hgl := h.lt
  have hsz : w.heap.size = w0.heap.size + 1 := by rw [hwd]; simp
  have HS := Lib.hid (show Src w g by rw [hwd]; exact h.alloc _)
  have HT := Lib.hid (show Thr g w0 w by rw [hwd]; exact (Thr.refl g w0).alloc (by omega) _)
  have HSz := Lib.hid hsz
  have hgw : g < w.heap.size := by omega
  clear h hsz
  go_enter Tryz.func56, Tryz.ntmps56
  go_wp2_with fail
  change Calls _ _ _ (w0.alloc (rbox 0 0)) _
  rw [← hwd]
  refine (drawRat4 g _ HS.out).mono ?_
  rintro e w2 ⟨a2, n2, c2, R, r1, r2, rfl, hn2, ho, hs2, ht2⟩
  have HO2 := Lib.hid ho
  have HS2 := Lib.hid hs2
  have HT2 := Lib.hid ht2
  have HWD := Lib.hid hwd
  have hz2 := ht2.below.size
  clear ho hs2 ht2 hwd
  obtain ⟨w3, hw3⟩ : ∃ x, x = w2.alloc (rbox r1 r2) := ⟨_, rfl⟩
  have HW3 := Lib.hid hw3
  have HO3 : Hid (OwnM w3 w.heap.size (.slice a2 n2 c2) R) := by show OwnM _ _ _ _; rw [hw3]; exact HO2.out.below (b_alloc _ _)
  have HS3 : Hid (Src w3 g) := by show Src _ _; rw [hw3]; exact HS2.out.alloc _
  have HT3 : Hid (Thr g w w3) := by show Thr _ _ _; rw [hw3]; exact HT2.out.alloc (by omega) _
  have hz3 : w3.heap.size = w2.heap.size + 1 := by rw [hw3]; simp
  obtain ⟨pv, hpv⟩ : ∃ pv, pv = M.potRes R r1 r2 := ⟨_, rfl⟩
  have hpp := potRes_pos7 (R := R) (a := r1) (b := r2)
  rw [← hpv] at hpp
  have HPV := Lib.hid hpv
  clear hpv HO2 HS2 HT2
  obtain ⟨l, d⟩ := pv
  go_wp2_with fail
  change Calls _ _ _ (w2.alloc (rbox r1 r2)) _
  rw [← hw3]
  clear hw3
  refine (sPotentialOf _ _ _ R r1 r2 _ HO3.out.mat).mono ?_
  rintro e w4 ⟨xa, xn, xc, rfl, ho, hb⟩
  rw [← HPV.out] at ho ⊢
  have ho : Own w4 w3.heap.size (.slice xa xn xc) l := ho
  have hxl : xn = l.length := ho.len
  have ht4 : Thr g w3 w4 := Thr.of_below hb (by omega)
  have HO4 := Lib.hid (HO3.out.below hb)
  have HX4 := Lib.hid ho
  have HS4 := Lib.hid (HS3.out.below (hb.mono (by omega)))
  have HT4 := Lib.hid (HT3.out.trans ht4)
  have HU4 := Lib.hid ht4
  clear ho hb ht4 HS3 HT3
  have hn2w : (Lit.int .i64 (n2 : Int)).wf = true := wf_small _ (by omega) (by omega)
  by_cases hd : d = 0
  · subst hd
    obtain ⟨q1, q2⟩ := hpp rfl
    have q1 : 1 ≤ l.length := q1
    have q2 : l.length ≤ 10 := q2
    have q3 : 1 ≤ xn := by omega
    have q4 : xn ≤ 10 := by omega
    have hxw : (Lit.int .i64 (xn : Int)).wf = true := wf_small _ (by omega) (by omega)
    have HXl := Lib.hid hxl
    have hfx : ∃ xg, xa = some ⟨xg, 0, none⟩ ∧ w3.heap.size ≤ xg ∧ xg < w4.heap.size := by
      obtain ⟨a', c', hv, -, -, hg⟩ := own_form HX4.out
      injection hv with e1 e2 e3
      obtain ⟨xg, hx1, hx2, hx3⟩ := hg (by first | (simp; omega) | omega)
      exact ⟨xg, e1.trans hx1, hx2, hx3⟩
    obtain ⟨xg, rfl, hxg1, hxg2⟩ := hfx
    clear hpp hxl q1 q2
    go_wp2_with fail
    refine (next g 3 _ (by decide) HS4.out).mono ?_
    rintro e w5 ⟨x, rfl, -, -, hs5, ht5⟩
    have HO5 := Lib.hid (HO4.out.thr ht5 hgw)
    have HX5 := Lib.hid (HX4.out.thr ht5 (by omega))
    have HS5 := Lib.hid hs5
    have HV5 := Lib.hid (HT4.out.trans ht5)
    have HU5 := Lib.hid (HU4.out.trans ht5)
    obtain ⟨⟨r0, s1⟩, z0, z1, hlt⟩ := box_thr HWD.out hgl HV5.out
    obtain ⟨⟨u0, u1⟩, v0, v1, hlt2⟩ := box_thr HW3.out (by omega) HU5.out
    clear hs5 ht5
    by_cases hx : x = 0
    · subst hx
      have HOC : Hid (OwnMC w3 w.heap.size w3.heap.size (.slice a2 n2 c2) R) := Lib.hid HO3.out.upto
      go_wp2
      go_region_with (first
        | (have _g := HS6.out; clear _g; go_at_call 57; refine (next g 5 _ (by decide) (by exact HS6.out)).mono ?_; rintro e w7 ⟨y, rfl, hy1, hy2, hs7, ht7⟩; have HS7 := Lib.hid hs7; have HV7 : Hid (Thr g w w7) := Lib.hid (by first | exact HV6.out.trans ht7 | exact HV6.out.drew.trans ht7); have HU7 : Hid (Thr g w3 w7) := Lib.hid (by first | exact HU6.out.trans ht7 | exact HU6.out.drew.trans ht7); have HX7 : Hid (Own w7 w3.heap.size (.slice (some ⟨xg, 0, none⟩) xn xc) l) := Lib.hid (by first | exact HX6.out.thr ht7 (by omega) | exact Own.thr (HX6.out.keep (w' := w6.drew) (fun _ _ _ => rfl)) ht7 (by omega)); have cx := HX7.out.cellAt p hp3; have fx := HX7.out.frozenAt p; clear hs7 ht7)
        | (go_at_call 57; refine (next g (xn : Int) _ hxw (by exact HS5.out)).mono ?_; rintro e w6 ⟨p, rfl, hp1, hp2, hs6, ht6⟩; obtain ⟨p, rfl⟩ := Int.eq_ofNat_of_zero_le hp1; have hp3 : p < xn := (by omega); have hpi : (p : Int) < (xn : Int) := (by omega); have HS6 := Lib.hid hs6; have HV6 : Hid (Thr g w w6) := Lib.hid (by first | exact HV5.out.trans ht6 | exact HV5.out.drew.trans ht6); have HU6 : Hid (Thr g w3 w6) := Lib.hid (by first | exact HU5.out.trans ht6 | exact HU5.out.drew.trans ht6); have HX6 : Hid (Own w6 w3.heap.size (.slice (some ⟨xg, 0, none⟩) xn xc) l) := Lib.hid (by first | exact HX5.out.thr ht6 (by omega) | exact Own.thr (HX5.out.keep (w' := w5.drew) (fun _ _ _ => rfl)) ht6 (by omega)); have cx := HX6.out.cellAt p hp3; have fx := HX6.out.frozenAt p; clear hs6 ht6))
      all_goals
        go_wp2
        generalize IntKind.i64.wrap (l[p]?.getD 0 + IntKind.i64.wrap (y - 2)) = v
        obtain ⟨w8, hw8⟩ : ∃ x, x = w7.setCell ⟨xg, p, none⟩ (.int .i64 v) := ⟨_, rfl⟩
        have HX8 : Hid (Own w8 w3.heap.size (.slice (some ⟨xg, 0, none⟩) xn xc) (l.set p v)) := by show Own _ _ _ _; rw [hw8]; exact Own.set HX7.out p v
        have HU8 : Hid (Thr g w3 w8) := by show Thr _ _ _; rw [hw8]; exact HU7.out.setNew (by show w3.heap.size ≤ xg; omega) (by show g ≤ xg; omega) _
        have HV8 : Hid (Thr g w w8) := by show Thr _ _ _; rw [hw8]; exact HV7.out.setNew (by show w.heap.size ≤ xg; omega) (by show g ≤ xg; omega) _
        have HS8 : Hid (Src w8 g) := by show Src _ _; rw [hw8]; exact HS7.out.setNew (by show g < xg; omega) _
        have HO8 : Hid (OwnM w8 w.heap.size (.slice a2 n2 c2) R) := Lib.hid (HOC.out.keep (fun k h1 h2 => HU8.out.other k (by omega) h2)).own
        obtain ⟨⟨r0, s1⟩, z0, z1, hlt⟩ := box_thr HWD.out hgl HV8.out
        obtain ⟨⟨u0, u1⟩, v0, v1, hlt2⟩ := box_thr HW3.out (by omega) HU8.out
        have hTf : Thr g w0 w8 := HT.out.trans HV8.out
        rw [← hw8]
        clear hw8 cx fx
        go_region
        all_goals
          go_wp2
          exact bodyPost_ret (v := .tuple #[.slice a2 n2 c2, .agg #[.int .i64 r1, .int .i64 r2], .slice (some ⟨xg, 0, none⟩) xn xc]) (by simp [results, Tryz.results56, go_sem, r0, s1]) rfl
            ⟨_, _, _, R, _, _, _, _, _, l.set p v, rfl, hn2, (HO8.out.keep (fun k h1 _ => (Below.heap_setCell _ _ _ _ (by have := HSz.out; show k ≠ w0.heap.size; omega)).trans (Below.heap_setCell _ _ _ _ (by have := HSz.out; show k ≠ w0.heap.size; omega)))).mono (by have := HSz.out; omega), (HX8.out.keep (fun k h1 _ => (Below.heap_setCell _ _ _ _ (by have := HSz.out; show k ≠ w0.heap.size; omega)).trans (Below.heap_setCell _ _ _ _ (by have := HSz.out; show k ≠ w0.heap.size; omega)))).mono (by have := HSz.out; omega), (HS8.out.setNew hgl _).setNew hgl _, (((hTf).setNew (Nat.le_refl _) (Nat.le_of_lt hgl) _).setNew (Nat.le_refl _) (Nat.le_of_lt hgl) _).drew⟩
    · have ex : (x == 0) = false := by simpa using hx
      go_wp2
      go_region
      all_goals
        have hTf : Thr g w0 w5 := HT.out.trans HV5.out
        go_wp2
        exact bodyPost_ret (v := .tuple #[.slice a2 n2 c2, .agg #[.int .i64 r1, .int .i64 r2], .slice (some ⟨xg, 0, none⟩) xn xc]) (by simp [results, Tryz.results56, go_sem, r0, s1]) rfl
          ⟨_, _, _, R, _, _, _, _, _, l, rfl, hn2, (HO5.out.keep (fun k h1 _ => (Below.heap_setCell _ _ _ _ (by have := HSz.out; show k ≠ w0.heap.size; omega)).trans (Below.heap_setCell _ _ _ _ (by have := HSz.out; show k ≠ w0.heap.size; omega)))).mono (by have := HSz.out; omega), (HX5.out.keep (fun k h1 _ => (Below.heap_setCell _ _ _ _ (by have := HSz.out; show k ≠ w0.heap.size; omega)).trans (Below.heap_setCell _ _ _ _ (by have := HSz.out; show k ≠ w0.heap.size; omega)))).mono (by have := HSz.out; omega), (HS5.out.setNew hgl _).setNew hgl _, ((hTf.setNew (Nat.le_refl _) (Nat.le_of_lt hgl) _).setNew (Nat.le_refl _) (Nat.le_of_lt hgl) _).drew⟩
  · have hd1 : (d != 0) = true := by simpa using hd
    obtain ⟨⟨r0, s1⟩, z0, z1, hlt⟩ := box_thr HWD.out hgl HT4.out
    obtain ⟨⟨u0, u1⟩, v0, v1, hlt2⟩ := box_thr HW3.out (by omega) HU4.out
    clear hpp hxl
    go_wp2
    go_region_with (go_at_call 114; refine (drawVector g n2 _ (by exact HS4.out) (by omega)).mono ?_; rintro e w5 ⟨b, N, c, l5, rfl, ho5, hs5, ht5⟩; have HV5 : Hid (Thr g w w5) := Lib.hid (by first | exact HT4.out.trans ht5 | exact HT4.out.drew.trans ht5); have HU5 : Hid (Thr g w3 w5) := Lib.hid (by first | exact HU4.out.trans ht5 | exact HU4.out.drew.trans ht5); have HO5 : Hid (OwnM w5 w.heap.size (.slice a2 n2 c2) R) := Lib.hid (by first | exact HO4.out.thr ht5 hgw | exact OwnM.thr (HO4.out.keep (w' := w4.drew) (fun _ _ _ => rfl)) ht5 hgw); have HX5 : Hid (Own w5 w.heap.size (.slice b N c) l5) := Lib.hid (ho5.mono (by have := HT4.out.below.size; have := HSz.out; simp; omega)); have HS5 := Lib.hid hs5; obtain ⟨⟨r0, s1⟩, z0, z1, hlt⟩ := box_thr HWD.out hgl HV5.out; obtain ⟨⟨u0, u1⟩, v0, v1, hlt2⟩ := box_thr HW3.out (by omega) HU5.out; clear hs5 ht5 ho5)
    all_goals
      have hTf : Thr g w0 w5 := HT.out.trans HV5.out
      go_wp2
      exact bodyPost_ret (v := .tuple #[.slice a2 n2 c2, .agg #[.int .i64 r1, .int .i64 r2], .slice b N c]) (by simp [results, Tryz.results56, go_sem, r0, s1]) rfl
            ⟨_, _, _, R, _, _, _, _, _, l5, rfl, hn2, (HO5.out.keep (fun k h1 _ => (Below.heap_setCell _ _ _ _ (by have := HSz.out; show k ≠ w0.heap.size; omega)).trans (Below.heap_setCell _ _ _ _ (by have := HSz.out; show k ≠ w0.heap.size; omega)))).mono (by have := HSz.out; omega), (HX5.out.keep (fun k h1 _ => (Below.heap_setCell _ _ _ _ (by have := HSz.out; show k ≠ w0.heap.size; omega)).trans (Below.heap_setCell _ _ _ _ (by have := HSz.out; show k ≠ w0.heap.size; omega)))).mono (by have := HSz.out; omega), (HS5.out.setNew hgl _).setNew hgl _, ((hTf).setNew (Nat.le_refl _) (Nat.le_of_lt hgl) _).setNew (Nat.le_refl _) (Nat.le_of_lt hgl) _⟩
end Go.Proofs.YtmhpgnndjagogaaGreat.V

namespace Go.Proofs.YtmhpgnndjagogaaGreat.V
set_option maxRecDepth 100000
open Go.RowKit
/-- A drawn matrix and a drawn ratio. -/
def DrawnMR (w : World) (e : Ending) (w' : World) : Prop :=
  ∃ (a : Option Addr) (n cap : Nat) (R : List (List Int)) (x y : Int), e = .returned (.tuple #[.slice a n cap, .agg #[.int .i64 x, .int .i64 y]]) ∧ Mat w' a n R ∧ Below w.heap.size w w'
/-- A drawn matrix, a drawn ratio and a drawn list. -/
def DrawnMRV (w : World) (e : Ending) (w' : World) : Prop :=
  ∃ (a : Option Addr) (n cap : Nat) (R : List (List Int)) (x y : Int) (b : Option Addr) (N c : Nat) (l : List Int), e = .returned (.tuple #[.slice a n cap, .agg #[.int .i64 x, .int .i64 y], .slice b N c]) ∧ Mat w' a n R ∧ Ints .i64 w' b N l ∧ Below w.heap.size w w'
theorem box_bel {w0 w w' : World} {x y : Int} (h : w = w0.alloc (rbox x y)) (hb : Below w.heap.size w w') :
    (w'.cell? ⟨w0.heap.size, 0, none⟩ = some (.int .i64 x) ∧ w'.cell? ⟨w0.heap.size, 1, none⟩ = some (.int .i64 y)) ∧ w'.frozen? ⟨w0.heap.size, 0, none⟩ = false ∧ w'.frozen? ⟨w0.heap.size, 1, none⟩ = false ∧ w0.heap.size < w'.heap.size := by
  subst h
  have hz := hb.size
  simp at hz
  refine ⟨⟨?_, ?_⟩, ?_, ?_, by omega⟩
  · rw [hb.cell (p := ⟨w0.heap.size, 0, none⟩) (by simp)]; simp
  · rw [hb.cell (p := ⟨w0.heap.size, 1, none⟩) (by simp)]; simp
  · rw [hb.frozen (p := ⟨w0.heap.size, 0, none⟩) (by simp)]; exact frz_box _ _ _ _
  · rw [hb.frozen (p := ⟨w0.heap.size, 1, none⟩) (by simp)]; exact frz_box _ _ _ _
set_option maxRecDepth 100000 in
set_option maxHeartbeats 1000000 in
theorem drawPotentialOf (a : Option Addr) (n cap : Nat) (w0 : World) (h : Bytes w0 a n) :
    Calls Tryz.prog 22 #[.slice a n cap] w0 (DrawnMR w0) := by
  obtain ⟨w, hwd⟩ : ∃ w, w = w0.alloc (rbox 0 0) := ⟨_, rfl⟩
  have HB := Lib.hid (show Bytes w a n by rw [hwd]; exact h.below (b_alloc _ _))
  have hsz : w.heap.size = w0.heap.size + 1 := by rw [hwd]; simp
  have HSz := Lib.hid hsz
  have HWB := Lib.hid (show Below w0.heap.size w0 w by rw [hwd]; exact b_alloc _ _)
  clear h hsz
  go_enter Tryz.func22, Tryz.ntmps22
  go_wp2_with fail
  change Calls _ _ _ (w0.alloc (rbox 0 0)) _
  rw [← hwd]
  have HWD := Lib.hid hwd
  clear hwd
  refine (from_ _ _ _ _ HB.out).mono ?_
  rintro e w1 ⟨rfl, hs1, hb1⟩
  have HS1 := Lib.hid hs1
  have HB1 := Lib.hid hb1
  clear hs1 hb1
  go_wp2_with fail
  refine (drawRat4 _ _ HS1.out).mono ?_
  rintro e w2 ⟨a2, n2, c2, R, x, y, rfl, -, ho, hs2, ht2⟩
  have HO := Lib.hid ho
  have HB2 := Lib.hid (HB1.out.trans ht2.below)
  obtain ⟨⟨r0, r1⟩, z0, z1, hlt⟩ := box_bel HWD.out HB2.out
  have hz1 := HB1.out.size
  clear ho hs2 ht2
  go_wp2
  exact bodyPost_ret (v := .tuple #[.slice a2 n2 c2, .agg #[.int .i64 x, .int .i64 y]]) (by simp [results, Tryz.results22, go_sem, r0, r1]) rfl
    ⟨_, _, _, R, _, _, rfl, (HO.out.keep (fun k h1 _ => (Below.heap_setCell _ _ _ _ (by have := HSz.out; show k ≠ w0.heap.size; omega)).trans (Below.heap_setCell _ _ _ _ (by have := HSz.out; show k ≠ w0.heap.size; omega)))).mat, ((HWB.out.trans (HB2.out.mono HWB.out.size)).setCell (Nat.le_refl _) _).setCell (Nat.le_refl _) _⟩
set_option maxRecDepth 100000 in
set_option maxHeartbeats 1000000 in
theorem drawShiftMatrix (a : Option Addr) (n cap : Nat) (w0 : World) (h : Bytes w0 a n) :
    Calls Tryz.prog 26 #[.slice a n cap] w0 (DrawnMR w0) := by
  obtain ⟨w, hwd⟩ : ∃ w, w = w0.alloc (rbox 0 0) := ⟨_, rfl⟩
  have HB := Lib.hid (show Bytes w a n by rw [hwd]; exact h.below (b_alloc _ _))
  have hsz : w.heap.size = w0.heap.size + 1 := by rw [hwd]; simp
  have HSz := Lib.hid hsz
  have HWB := Lib.hid (show Below w0.heap.size w0 w by rw [hwd]; exact b_alloc _ _)
  clear h hsz
  go_enter Tryz.func26, Tryz.ntmps26
  go_wp2_with fail
  change Calls _ _ _ (w0.alloc (rbox 0 0)) _
  rw [← hwd]
  have HWD := Lib.hid hwd
  clear hwd
  refine (from_ _ _ _ _ HB.out).mono ?_
  rintro e w1 ⟨rfl, hs1, hb1⟩
  have HS1 := Lib.hid hs1
  have HB1 := Lib.hid hb1
  clear hs1 hb1
  go_wp2_with fail
  refine (drawRat4 _ _ HS1.out).mono ?_
  rintro e w2 ⟨a2, n2, c2, R, x, y, rfl, -, ho, hs2, ht2⟩
  have HO := Lib.hid ho
  have HB2 := Lib.hid (HB1.out.trans ht2.below)
  obtain ⟨⟨r0, r1⟩, z0, z1, hlt⟩ := box_bel HWD.out HB2.out
  have hz1 := HB1.out.size
  clear ho hs2 ht2
  go_wp2
  exact bodyPost_ret (v := .tuple #[.slice a2 n2 c2, .agg #[.int .i64 x, .int .i64 y]]) (by simp [results, Tryz.results26, go_sem, r0, r1]) rfl
    ⟨_, _, _, R, _, _, rfl, (HO.out.keep (fun k h1 _ => (Below.heap_setCell _ _ _ _ (by have := HSz.out; show k ≠ w0.heap.size; omega)).trans (Below.heap_setCell _ _ _ _ (by have := HSz.out; show k ≠ w0.heap.size; omega)))).mat, ((HWB.out.trans (HB2.out.mono HWB.out.size)).setCell (Nat.le_refl _) _).setCell (Nat.le_refl _) _⟩
set_option maxRecDepth 100000 in
set_option maxHeartbeats 1000000 in
theorem drawIsPotential (a : Option Addr) (n cap : Nat) (w0 : World) (h : Bytes w0 a n) :
    Calls Tryz.prog 25 #[.slice a n cap] w0 (DrawnMRV w0) := by
  obtain ⟨w, hwd⟩ : ∃ w, w = w0.alloc (rbox 0 0) := ⟨_, rfl⟩
  have HB := Lib.hid (show Bytes w a n by rw [hwd]; exact h.below (b_alloc _ _))
  have hsz : w.heap.size = w0.heap.size + 1 := by rw [hwd]; simp
  have HSz := Lib.hid hsz
  have HWB := Lib.hid (show Below w0.heap.size w0 w by rw [hwd]; exact b_alloc _ _)
  clear h hsz
  go_enter Tryz.func25, Tryz.ntmps25
  go_wp2_with fail
  change Calls _ _ _ (w0.alloc (rbox 0 0)) _
  rw [← hwd]
  have HWD := Lib.hid hwd
  clear hwd
  refine (from_ _ _ _ _ HB.out).mono ?_
  rintro e w1 ⟨rfl, hs1, hb1⟩
  have HS1 := Lib.hid hs1
  have HB1 := Lib.hid hb1
  clear hs1 hb1
  go_wp2_with fail
  refine (drawProof4 _ _ HS1.out).mono ?_
  rintro e w2 ⟨a2, n2, c2, R, x, y, b, N, c, l, rfl, -, ho, hv, hs2, ht2⟩
  have HO := Lib.hid ho
  have HV := Lib.hid hv
  have HB2 := Lib.hid (HB1.out.trans ht2.below)
  obtain ⟨⟨r0, r1⟩, z0, z1, hlt⟩ := box_bel HWD.out HB2.out
  have hz1 := HB1.out.size
  clear ho hv hs2 ht2
  go_wp2
  exact bodyPost_ret (v := .tuple #[.slice a2 n2 c2, .agg #[.int .i64 x, .int .i64 y], .slice b N c]) (by simp [results, Tryz.results25, go_sem, r0, r1]) rfl
    ⟨_, _, _, R, _, _, _, _, _, l, rfl, (HO.out.keep (fun k h1 _ => (Below.heap_setCell _ _ _ _ (by have := HSz.out; show k ≠ w0.heap.size; omega)).trans (Below.heap_setCell _ _ _ _ (by have := HSz.out; show k ≠ w0.heap.size; omega)))).mat, (HV.out.keep (fun k h1 _ => (Below.heap_setCell _ _ _ _ (by have := HSz.out; show k ≠ w0.heap.size; omega)).trans (Below.heap_setCell _ _ _ _ (by have := HSz.out; show k ≠ w0.heap.size; omega)))).ints', ((HWB.out.trans (HB2.out.mono HWB.out.size)).setCell (Nat.le_refl _) _).setCell (Nat.le_refl _) _⟩
end Go.Proofs.YtmhpgnndjagogaaGreat.V

namespace Go.Proofs.YtmhpgnndjagogaaGreat.V
set_option maxRecDepth 100000
open Go.RowKit
/-- A drawn matrix, a drawn ratio and two drawn lists. -/
def DrawnMRVV (w : World) (e : Ending) (w' : World) : Prop :=
  ∃ (a : Option Addr) (n cap : Nat) (R : List (List Int)) (x y : Int) (b : Option Addr) (N c : Nat) (l : List Int) (b' : Option Addr) (N' c' : Nat) (l' : List Int), e = .returned (.tuple #[.slice a n cap, .agg #[.int .i64 x, .int .i64 y], .slice b N c, .slice b' N' c']) ∧ Mat w' a n R ∧ Ints .i64 w' b N l ∧ Ints .i64 w' b' N' l' ∧ N ≤ c ∧ c ≤ maxLen ∧ Below w.heap.size w w'
set_option maxRecDepth 100000 in
set_option maxHeartbeats 4000000 in
theorem drawIsMeanCertificate (a : Option Addr) (n cap : Nat) (w0 : World) (h : Bytes w0 a n) :
    Calls Tryz.prog 15 #[.slice a n cap] w0 (DrawnMRVV w0) := by
  obtain ⟨w, hwd⟩ : ∃ w, w = w0.alloc (rbox 0 0) := ⟨_, rfl⟩
  have HB := Lib.hid (show Bytes w a n by rw [hwd]; exact h.below (b_alloc _ _))
  have hsz : w.heap.size = w0.heap.size + 1 := by rw [hwd]; simp
  have HSz := Lib.hid hsz
  have HWB := Lib.hid (show Below w0.heap.size w0 w by rw [hwd]; exact b_alloc _ _)
  clear h hsz
  go_enter Tryz.func15, Tryz.ntmps15
  go_wp2_with fail
  change Calls _ _ _ (w0.alloc (rbox 0 0)) _
  rw [← hwd]
  have HWD := Lib.hid hwd
  clear hwd
  refine (from_ _ _ _ _ HB.out).mono ?_
  rintro e w1 ⟨rfl, hs1, hb1⟩
  have HS1 := Lib.hid hs1
  have HB1 := Lib.hid hb1
  have hg1 := hs1.lt
  clear hs1 hb1
  go_wp2_with fail
  refine (drawProof4 _ _ HS1.out).mono ?_
  rintro e w2 ⟨a2, n2, c2, R, r1, r2, xa, xn, xc, x, rfl, hn2, ho, hx, hs2, ht2⟩
  have HO2 := Lib.hid ho
  have HX2 := Lib.hid hx
  have HS2 := Lib.hid hs2
  have HB2 := Lib.hid (HB1.out.trans ht2.below)
  have hz2 := ht2.below.size
  clear ho hx hs2 ht2
  obtain ⟨w3, hw3⟩ : ∃ x, x = w2.alloc (rbox r1 r2) := ⟨_, rfl⟩
  have HW3 := Lib.hid hw3
  have HO3 : Hid (OwnM w3 w1.heap.size (.slice a2 n2 c2) R) := by show OwnM _ _ _ _; rw [hw3]; exact HO2.out.below (b_alloc _ _)
  have HX3 : Hid (Own w3 w1.heap.size (.slice xa xn xc) x) := by show Own _ _ _ _; rw [hw3]; exact HX2.out.below (b_alloc _ _)
  have HS3 : Hid (Src w3 w.heap.size) := by show Src _ _; rw [hw3]; exact HS2.out.alloc _
  have HB3 : Hid (Below w.heap.size w w3) := by show Below _ _ _; rw [hw3]; exact HB2.out.alloc HB2.out.size _
  have hz3 : w3.heap.size = w2.heap.size + 1 := by rw [hw3]; simp
  have hgl : w.heap.size < w2.heap.size := by omega
  clear HO2 HX2 HS2
  obtain ⟨bv, hbv⟩ : ∃ bv, bv = M.bestRes R := ⟨_, rfl⟩
  have HBV := Lib.hid hbv
  clear hbv
  obtain ⟨l, d⟩ := bv
  go_wp2_with fail
  change Calls _ _ _ (w2.alloc (rbox r1 r2)) _
  rw [← hw3]
  clear hw3
  refine (sBestCycle _ _ _ R _ HO3.out.mat).mono ?_
  rintro e w4 ⟨la, ln, lc, rfl, ho, hb⟩
  rw [← HBV.out] at ho ⊢
  have HL4 : Hid (Own w4 w3.heap.size (.slice la ln lc) l) := Lib.hid ho
  have HO4 := Lib.hid (HO3.out.below hb)
  have HX4 := Lib.hid (HX3.out.below hb)
  have HS4 := Lib.hid (HS3.out.below (hb.mono (by omega)))
  have HB4 := Lib.hid (HB3.out.trans (hb.mono HB3.out.size))
  have HU4 : Hid (Thr w.heap.size w3 w4) := Lib.hid (Thr.of_below hb (by omega))
  have hz4 := hb.size
  clear ho hb HO3 HX3 HS3
  by_cases hd : d = 0
  · subst hd
    go_wp2_with fail
    refine (next _ 4 _ (by decide) HS4.out).mono ?_
    rintro e w5 ⟨y, rfl, -, -, hs5, ht5⟩
    have HL5 := Lib.hid (HL4.out.thr ht5 (by omega))
    have HO5 := Lib.hid (HO4.out.thr ht5 hg1)
    have HX5 := Lib.hid (HX4.out.thr ht5 hg1)
    have HS5 := Lib.hid hs5
    have HB5 := Lib.hid (HB4.out.trans ht5.below)
    have HU5 := Lib.hid (HU4.out.trans ht5)
    have hz5 := ht5.below.size
    clear hs5 ht5
    by_cases hy : y = 0
    · subst hy
      go_wp2_with fail
      refine (drawNodes _ n2 c2 _ a2 R _ HS5.out HO5.out hg1 hn2).mono ?_
      rintro e w6 ⟨na, nn, nc, nl, rfl, hn6, hs6, ht6⟩
      have HN6 := Lib.hid hn6
      have HO6 := Lib.hid (HO5.out.thr ht6 hg1)
      have HX6 := Lib.hid (HX5.out.thr ht6 hg1)
      have HB6 := Lib.hid (HB5.out.trans ht6.below)
      have HU6 := Lib.hid (HU5.out.trans ht6)
      have hz6 := ht6.below.size
      clear hn6 hs6 ht6
      obtain ⟨⟨r0, s1⟩, z0, z1, hlt⟩ := box_bel HWD.out HB6.out
      obtain ⟨⟨u0, u1⟩, v0, v1, hlt2⟩ := box_thr HW3.out hgl HU6.out
      obtain ⟨q1, q2⟩ := own_caps HN6.out
      go_wp2
      go_region
      all_goals
        go_wp2
        exact bodyPost_ret (v := .tuple #[.slice a2 n2 c2, .agg #[.int .i64 r1, .int .i64 r2], .slice na nn nc, .slice xa xn xc]) (by simp [results, Tryz.results15, go_sem, r0, s1]) rfl
          ⟨_, _, _, R, _, _, _, _, _, nl, _, _, _, x, rfl, (HO6.out.keep (fun k h1 _ => (Below.heap_setCell _ _ _ _ (by have := HSz.out; show k ≠ w0.heap.size; omega)).trans (Below.heap_setCell _ _ _ _ (by have := HSz.out; show k ≠ w0.heap.size; omega)))).mat, (HN6.out.keep (fun k h1 _ => (Below.heap_setCell _ _ _ _ (by have := HSz.out; show k ≠ w0.heap.size; omega)).trans (Below.heap_setCell _ _ _ _ (by have := HSz.out; show k ≠ w0.heap.size; omega)))).ints', (HX6.out.keep (fun k h1 _ => (Below.heap_setCell _ _ _ _ (by have := HSz.out; show k ≠ w0.heap.size; omega)).trans (Below.heap_setCell _ _ _ _ (by have := HSz.out; show k ≠ w0.heap.size; omega)))).ints', q1, q2, (((HWB.out.trans (HB6.out.mono HWB.out.size)).setCell (Nat.le_refl _) _).setCell (Nat.le_refl _) _).drew⟩
    · have ey : (y == 0) = false := by simpa using hy
      obtain ⟨⟨r0, s1⟩, z0, z1, hlt⟩ := box_bel HWD.out HB5.out
      obtain ⟨⟨u0, u1⟩, v0, v1, hlt2⟩ := box_thr HW3.out hgl HU5.out
      obtain ⟨q1, q2⟩ := own_caps HL5.out
      go_wp2
      go_region
      all_goals
        go_wp2
        exact bodyPost_ret (v := .tuple #[.slice a2 n2 c2, .agg #[.int .i64 r1, .int .i64 r2], .slice la ln lc, .slice xa xn xc]) (by simp [results, Tryz.results15, go_sem, r0, s1]) rfl
          ⟨_, _, _, R, _, _, _, _, _, l, _, _, _, x, rfl, (HO5.out.keep (fun k h1 _ => (Below.heap_setCell _ _ _ _ (by have := HSz.out; show k ≠ w0.heap.size; omega)).trans (Below.heap_setCell _ _ _ _ (by have := HSz.out; show k ≠ w0.heap.size; omega)))).mat, (HL5.out.keep (fun k h1 _ => (Below.heap_setCell _ _ _ _ (by have := HSz.out; show k ≠ w0.heap.size; omega)).trans (Below.heap_setCell _ _ _ _ (by have := HSz.out; show k ≠ w0.heap.size; omega)))).ints', (HX5.out.keep (fun k h1 _ => (Below.heap_setCell _ _ _ _ (by have := HSz.out; show k ≠ w0.heap.size; omega)).trans (Below.heap_setCell _ _ _ _ (by have := HSz.out; show k ≠ w0.heap.size; omega)))).ints', q1, q2, (((HWB.out.trans (HB5.out.mono HWB.out.size)).setCell (Nat.le_refl _) _).setCell (Nat.le_refl _) _).drew⟩
  · have hd1 : (d != 0) = true := by simpa using hd
    go_wp2_with fail
    refine (drawNodes _ n2 c2 _ a2 R _ HS4.out HO4.out hg1 hn2).mono ?_
    rintro e w6 ⟨na, nn, nc, nl, rfl, hn6, hs6, ht6⟩
    have HN6 := Lib.hid hn6
    have HO6 := Lib.hid (HO4.out.thr ht6 hg1)
    have HX6 := Lib.hid (HX4.out.thr ht6 hg1)
    have HB6 := Lib.hid (HB4.out.trans ht6.below)
    have HU6 := Lib.hid (HU4.out.trans ht6)
    have hz6 := ht6.below.size
    clear hn6 hs6 ht6
    obtain ⟨⟨r0, s1⟩, z0, z1, hlt⟩ := box_bel HWD.out HB6.out
    obtain ⟨⟨u0, u1⟩, v0, v1, hlt2⟩ := box_thr HW3.out hgl HU6.out
    obtain ⟨q1, q2⟩ := own_caps HN6.out
    go_wp2
    go_region
    all_goals
      go_wp2
      exact bodyPost_ret (v := .tuple #[.slice a2 n2 c2, .agg #[.int .i64 r1, .int .i64 r2], .slice na nn nc, .slice xa xn xc]) (by simp [results, Tryz.results15, go_sem, r0, s1]) rfl
        ⟨_, _, _, R, _, _, _, _, _, nl, _, _, _, x, rfl, (HO6.out.keep (fun k h1 _ => (Below.heap_setCell _ _ _ _ (by have := HSz.out; show k ≠ w0.heap.size; omega)).trans (Below.heap_setCell _ _ _ _ (by have := HSz.out; show k ≠ w0.heap.size; omega)))).mat, (HN6.out.keep (fun k h1 _ => (Below.heap_setCell _ _ _ _ (by have := HSz.out; show k ≠ w0.heap.size; omega)).trans (Below.heap_setCell _ _ _ _ (by have := HSz.out; show k ≠ w0.heap.size; omega)))).ints', (HX6.out.keep (fun k h1 _ => (Below.heap_setCell _ _ _ _ (by have := HSz.out; show k ≠ w0.heap.size; omega)).trans (Below.heap_setCell _ _ _ _ (by have := HSz.out; show k ≠ w0.heap.size; omega)))).ints', q1, q2, (((HWB.out.trans (HB6.out.mono HWB.out.size)).setCell (Nat.le_refl _) _).setCell (Nat.le_refl _) _).drew⟩
end Go.Proofs.YtmhpgnndjagogaaGreat.V

namespace Go.Proofs.YtmhpgnndjagogaaGreat.V
open Go.RowKit

set_option maxRecDepth 100000 in
set_option maxHeartbeats 400000 in
theorem likeInts (a : Option Addr) (n cap : Nat) (l : List Int) (a' : Option Addr) (n' cap' : Nat) (l' : List Int) (w : World) (h : Ints .i64 w a n l) (h' : Ints .i64 w a' n' l') (heq : l = l') :
    Calls Tryz.prog 19 #[.slice a n cap, .slice a' n' cap'] w fun e w' => e = .returned (.bool true) ∧ ∃ q, w' = w.drewN q := by
  subst heq
  obtain ⟨hl, hm, hr⟩ := h
  obtain ⟨hl', hm', hr'⟩ := h'
  obtain rfl : n = n' := by omega
  unfold maxLen at hm
  clear hm'
  have HL := Lib.hid hl
  clear hl hl'
  go_enter Tryz.func19, Tryz.ntmps19
  go_wp2
  go_loopw [5] (fun i wr => ∃ k : Nat, k ≤ n ∧ i = .int .i64 k ∧ ∃ q, wr = w.drewN q) (fun i _ => n - (intOf i).toNat)
  case atStart => exact ⟨0, Nat.zero_le _, rfl, 0, rfl⟩
  case round =>
    obtain ⟨k, hk, rfl, q, rfl⟩ := hrel
    by_cases hlt : k < n
    · rcases hr with h0 | ⟨b, off, rfl, hbl, hc⟩
      · omega
      rcases hr' with h0 | ⟨b', off', rfl, hbl', hc'⟩
      · omega
      have hck := hc k hlt
      have hck' := hc' k hlt
      obtain ⟨x, hx⟩ : ∃ x, x = l.getD k 0 := ⟨_, rfl⟩
      rw [← hx] at hck hck'
      clear hc hx hc'
      have hki : (k : Int) < (n : Int) := by omega
      go_wp2
      go_quiet (fail)
      go_wp2
      go_roundw
      case rel => exact ⟨k + 1, by omega, by go_num, _, rfl⟩
      case measure => simp [intOf]; omega
    · have hkn : k = n := by omega
      subst hkn
      clear hr hr'
      go_wp2
      go_ret
      exact ⟨rfl, q, rfl⟩

set_option maxRecDepth 100000 in
set_option maxHeartbeats 400000 in
theorem likeIntss (a : Option Addr) (n cap : Nat) (R : List (List Int)) (a' : Option Addr) (n' cap' : Nat) (R' : List (List Int)) (w : World) (h : Mat w a n R) (h' : Mat w a' n' R') (heq : R = R') :
    Calls Tryz.prog 31 #[.slice a n cap, .slice a' n' cap'] w fun e w' => e = .returned (.bool true) ∧ ∃ q, w' = w.drewN q := by
  subst heq
  have HM := Lib.hid h
  have HM' := Lib.hid h'
  obtain ⟨hl, hm, -⟩ := h
  obtain ⟨hl', -, -⟩ := h'
  obtain rfl : n = n' := by omega
  unfold maxLen at hm
  have HL := Lib.hid hl
  clear hl hl'
  go_enter Tryz.func31, Tryz.ntmps31
  go_wp2
  go_loopw [5] (fun i wr => ∃ k : Nat, k ≤ n ∧ i = .int .i64 k ∧ ∃ q, wr = w.drewN q) (fun i _ => n - (intOf i).toNat)
  case atStart => exact ⟨0, Nat.zero_le _, rfl, 0, rfl⟩
  case round =>
    obtain ⟨k, hk, rfl, q, rfl⟩ := hrel
    by_cases hlt : k < n
    · obtain ⟨b, off, ra, rc, L, l, rfl, hbl, hll, hc, hI⟩ := HM.out.at k hlt
      obtain ⟨b', off', ra', rc', L', l', rfl, hbl', hll', hc', hI'⟩ := HM'.out.at k hlt
      have HI := Lib.hid hI
      have HI' := Lib.hid hI'
      have HE := Lib.hid (hll.trans hll'.symm)
      clear hI hI' hll hll' HM HM'
      have hki : (k : Int) < (n : Int) := by omega
      go_wp2
      go_quiet ((go_at_call 19; exact q_more (likeInts _ _ _ l _ _ _ l' _ HI.out HI'.out HE.out)))
      go_wp2
      go_roundw
      case rel => exact ⟨k + 1, by omega, by go_num, _, rfl⟩
      case measure => simp [intOf]; omega
    · have hkn : k = n := by omega
      subst hkn
      go_wp2
      go_ret
      exact ⟨rfl, q, rfl⟩

/-- The same, said for the laws. -/
theorem likeM (a : Option Addr) (n cap : Nat) (R : List (List Int)) (a' : Option Addr) (n' cap' : Nat) (w : World) (h : Mat w a n R) (h' : Mat w a' n' R) :
    Calls Tryz.prog 31 #[.slice a n cap, .slice a' n' cap'] w fun e w' => e = .returned (.bool true) ∧ Below w.heap.size w w' := by
  refine (likeIntss _ _ _ _ _ _ _ _ _ h h' rfl).mono ?_
  rintro e w' ⟨rfl, q, rfl⟩
  exact ⟨rfl, b_draws _ _⟩
theorem likeV (a : Option Addr) (n cap : Nat) (l : List Int) (a' : Option Addr) (n' cap' : Nat) (w : World) (h : Ints .i64 w a n l) (h' : Ints .i64 w a' n' l) :
    Calls Tryz.prog 19 #[.slice a n cap, .slice a' n' cap'] w fun e w' => e = .returned (.bool true) ∧ Below w.heap.size w w' := by
  refine (likeInts _ _ _ _ _ _ _ _ _ h h' rfl).mono ?_
  rintro e w' ⟨rfl, q, rfl⟩
  exact ⟨rfl, b_draws _ _⟩
set_option maxRecDepth 100000 in
set_option maxHeartbeats 400000 in
theorem big (a : Option Addr) (n cap : Nat) (w : World) (h : n ≤ maxLen) :
    Calls Tryz.prog 11 #[.slice a n cap] w fun e w' => e = .returned (.bool (decide (4096 < n))) ∧ w = w' := by
  unfold maxLen at h
  go_enter Tryz.func11, Tryz.ntmps11
  go_wp2
  go_ret
  exact ⟨retB (decide_eq_decide.2 (by omega)), rfl⟩
end Go.Proofs.YtmhpgnndjagogaaGreat.V
