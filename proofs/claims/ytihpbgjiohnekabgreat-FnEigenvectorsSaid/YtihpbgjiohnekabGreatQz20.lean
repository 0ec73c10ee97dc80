/- Texts laid together: Dr4, Dr6, DrawR, Like. -/
import Derived.Test.YtihpbgjiohnekabGreatQz19
import Derived.Test.YtihpbgjiohnekabGreatQz4
import Derived.Deep.RegionHeld3
import Derived.StillTailTactics
import Derived.IntWalk
import Derived.Test.YtihpbgjiohnekabGreatRows
import Derived.Test.YtihpbgjiohnekabGreatQz1
import Derived.Test.YtihpbgjiohnekabGreatQz3
import Derived.Test.YtihpbgjiohnekabGreatQz18
import Derived.Test.YtihpbgjiohnekabGreatQz8
import Derived.WalkKit
import Derived.ProofKit
import Derived.WalkSmall
import Derived.Deep.QuietTactic
import Derived.BigQuiet
import Derived.BigRegion
import Derived.Deep.Draws
import Derived.Lib.Hide
import Derived.OpenShut
import Derived.Deep.OwnRows
set_option linter.unusedSimpArgs false
set_option linter.unusedVariables false
set_option linter.unusedSectionVars false
namespace Go.Proofs.YtihpbgjiohnekabGreat.V
set_option maxRecDepth 100000
open Go.RowKit
theorem ownM_two (w : World) (B : Nat) (hB : B ≤ w.heap.size) {v1 v2 : Value} {l1 l2 : List Int} (h1 : Own w B v1 l1) (h2 : Own w B v2 l2) (hne : ∀ k, v1.ownBlock = some k → v2.ownBlock ≠ some k) :
    OwnM (w.alloc (.cells #[v1, v2] 29)) B (.slice (some ⟨w.heap.size, 0, none⟩) 2 2) [l1, l2] := by
  have lt1 : ∀ k, v1.ownBlock = some k → k < w.heap.size := fun k hk => (own_lt h1 hk).2
  have lt2 : ∀ k, v2.ownBlock = some k → k < w.heap.size := fun k hk => (own_lt h2 hk).2
  refine ⟨[v1, v2], rfl, World.ownsRow_lit w #[v1, v2] 2 hB (by decide) rfl, fun i hi => ?_, fun i hi k hk => ?_, fun i j hi hj hij k hk => ?_⟩
  · have : i = 0 ∨ i = 1 := by simp at hi; omega
    rcases this with rfl | rfl
    · exact h1.below (b_alloc w _)
    · exact h2.below (b_alloc w _)
  · have hk2 : k < w.heap.size := by
      have : i = 0 ∨ i = 1 := by simp at hi; omega
      rcases this with rfl | rfl
      · exact lt1 k hk
      · exact lt2 k hk
    intro e
    simp only [Value.ownBlock, Option.some.injEq] at e
    omega
  · have hi' : i = 0 ∨ i = 1 := by simp at hi; omega
    have hj' : j = 0 ∨ j = 1 := by simp at hj; omega
    rcases hi' with rfl | rfl <;> rcases hj' with rfl | rfl
    · omega
    · exact hne k hk
    · intro e; exact hne k e hk
    · omega
theorem ownLit2D (w : World) (B : Nat) (hB : B ≤ w.heap.size) (x y : Int) : Own (w.alloc (.cells #[.int .i64 x, .int .i64 y] 2)) B (.slice (some ⟨w.heap.size, 0, none⟩) 2 2) [x, y] := World.ownsRow_lit w #[.int .i64 x, .int .i64 y] 2 hB (by decide) rfl
set_option maxRecDepth 100000 in
set_option maxHeartbeats 2000000 in
theorem draw4 (g : Nat) (w : World) (h : Src w g) : Calls Tryz.prog 89 #[.pointer (some ⟨g, 0, none⟩)] w (DrawMB g w) := by
  have HS := Lib.hid h
  have hgl := h.lt
  clear h
  go_enter Tryz.func89, Tryz.ntmps89
  go_wp2_with fail
  refine (drawSquareB g _ HS.out).mono ?_
  rintro e w2 ⟨a2, n2, c2, R, rfl, hn2, ho, hs2, ht2⟩
  have HO2 := Lib.hid ho
  have HS2 := Lib.hid hs2
  have HT2 := Lib.hid ht2
  clear ho hs2 ht2
  go_wp2_with fail
  refine (next g 30 _ (by decide) HS2.out).mono ?_
  rintro e w3 ⟨x, rfl, -, -, hs3, ht3⟩
  have HO3 := Lib.hid (HO2.out.thr ht3 hgl)
  have HS3 := Lib.hid hs3
  have HT3 := Lib.hid (HT2.out.trans ht3)
  clear hs3 ht3 HO2 HS2 HT2
  by_cases hx0 : x = 0
  · subst hx0
    have hg3 := HS3.out.lt
    go_wp2_with fail
    refine (pick g _ 0 2 2 _ (HS3.out.alloc _) (by omega) (by omega) hg3 (litCells _ [1000000, 999983] _ _ rfl (by decide))).mono ?_
    rintro e w4 ⟨p1, rfl, -, hs4, ht4⟩
    have HS4 := Lib.hid hs4
    have HT4 := Lib.hid ((HT3.out.alloc (by omega) _).trans ht4)
    have hg4 := hs4.lt
    clear hs4 ht4
    have hg0 : g < w.heap.size := hgl
    have hz4 : w.heap.size ≤ w4.heap.size := HT4.out.below.size
    obtain ⟨wr, hwr⟩ : ∃ x, x = w4.alloc (.cells #[.int .i64 (-1000000000000000), .int .i64 p1] 2) := ⟨_, rfl⟩
    have HR1 : Hid (Own wr w.heap.size (.slice (some ⟨w4.heap.size, 0, none⟩) 2 2) [-1000000000000000, p1]) := by show Own _ _ _ _; rw [hwr]; exact ownLit2D _ _ hz4 _ _
    have HSr : Hid (Src wr g) := by show Src _ _; rw [hwr]; exact HS4.out.alloc _
    have HTr : Hid (Thr g w wr) := by show Thr _ _ _; rw [hwr]; exact HT4.out.alloc (by omega) _
    have hzr : wr.heap.size = w4.heap.size + 1 := by rw [hwr]; simp
    have hlit := litCells wr [1000000, -7] #[.int .i64 1000000, .int .i64 (-7)] 2 rfl (by decide)
    rw [hzr] at hlit
    have HLit := Lib.hid hlit
    have HZr := Lib.hid hzr
    clear hlit hzr
    go_wp2_with fail
    simp only [← hwr]
    clear hwr
    refine (pick g (w4.heap.size + 1) 0 2 2 _ (HSr.out.alloc _) (by omega) (by omega) (by omega) HLit.out).mono ?_
    rintro e w5 ⟨p2, rfl, -, hs5, ht5⟩
    have hzr := HZr.out
    have HS5 := Lib.hid hs5
    have ht5' : Thr g wr w5 := ((Thr.refl g wr).alloc (by omega) _).trans ht5
    have HT5 := Lib.hid (HTr.out.trans ht5')
    have HR5 := Lib.hid (HR1.out.thr ht5' hgl)
    have hz5 : w4.heap.size < w5.heap.size := by have := ht5'.below; have h2 := ht5.below.size; simp at h2; omega
    clear hs5 ht5 ht5' HR1 hzr
    have hz5b : w.heap.size ≤ w5.heap.size := by omega
    have hO := ownM_two (w5.alloc (.cells #[.int .i64 p2, .int .i64 (-1000000000000000)] 2)) w.heap.size (by simp; omega) (HR5.out.below (b_alloc _ _)) (ownLit2D w5 w.heap.size hz5b p2 (-1000000000000000)) (fun k hk e => by
      simp only [Value.ownBlock, Option.some.injEq] at hk e
      omega)
    have hzz : (w5.alloc (.cells #[.int .i64 p2, .int .i64 (-1000000000000000)] 2)).heap.size = w5.heap.size + 1 := by simp
    rw [hzz] at hO
    have HO := Lib.hid hO
    have HSf := Lib.hid ((HS5.out.alloc (.cells #[.int .i64 p2, .int .i64 (-1000000000000000)] 2)).alloc (.cells #[.slice (some ⟨w4.heap.size, 0, none⟩) 2 2, .slice (some ⟨w5.heap.size, 0, none⟩) 2 2] 29))
    have HTf := Lib.hid ((HT5.out.alloc (by omega) (.cells #[.int .i64 p2, .int .i64 (-1000000000000000)] 2)).alloc (by simp; omega) (.cells #[.slice (some ⟨w4.heap.size, 0, none⟩) 2 2, .slice (some ⟨w5.heap.size, 0, none⟩) 2 2] 29))
    clear hO hzz HR5
    go_wp2
    go_ret
    exact ⟨_, _, _, _, rfl, by omega, HO.out, HSf.out, HTf.out⟩
  · have ex : (x == 0) = false := by simpa using hx0
    go_wp2
    go_ret
    exact ⟨_, _, _, R, rfl, hn2, HO3.out, HS3.out, HT3.out⟩
/-- A drawn matrix, of few rows, and a drawn number. -/
def DrawNB (g : Nat) (w : World) (e : Ending) (w' : World) : Prop :=
  ∃ (a : Option Addr) (n cap : Nat) (R : List (List Int)) (x : Int), e = .returned (.tuple #[.slice a n cap, .int .i64 x]) ∧ n ≤ 200 ∧ OwnM w' w.heap.size (.slice a n cap) R ∧ Src w' g ∧ Thr g w w'
set_option maxRecDepth 100000 in
set_option maxHeartbeats 1000000 in
theorem drawBestCycle (a : Option Addr) (n cap : Nat) (w : World) (h : Bytes w a n) :
    Calls Tryz.prog 28 #[.slice a n cap] w (DrawnM w) := by
  have HB := Lib.hid h
  clear h
  go_enter Tryz.func28, Tryz.ntmps28
  go_wp2_with fail
  refine (from_ _ _ _ _ HB.out).mono ?_
  rintro e w1 ⟨rfl, hs1, hb1⟩
  have HS1 := Lib.hid hs1
  have HB1 := Lib.hid hb1
  clear hs1 hb1
  go_wp2_with fail
  refine (draw4 _ _ HS1.out).mono ?_
  rintro e w2 ⟨a2, n2, c2, R, rfl, -, ho, hs2, ht2⟩
  have HO := Lib.hid ho.mat
  have HB2 := Lib.hid (HB1.out.trans ht2.below)
  clear ho hs2 ht2
  go_wp2
  go_ret
  exact ⟨a2, n2, c2, R, rfl, HO.out, HB2.out⟩
set_option maxRecDepth 100000 in
set_option maxHeartbeats 1000000 in
theorem drawCertifyMean (a : Option Addr) (n cap : Nat) (w : World) (h : Bytes w a n) :
    Calls Tryz.prog 24 #[.slice a n cap] w (DrawnM w) := by
  have HB := Lib.hid h
  clear h
  go_enter Tryz.func24, Tryz.ntmps24
  go_wp2_with fail
  refine (from_ _ _ _ _ HB.out).mono ?_
  rintro e w1 ⟨rfl, hs1, hb1⟩
  have HS1 := Lib.hid hs1
  have HB1 := Lib.hid hb1
  clear hs1 hb1
  go_wp2_with fail
  refine (draw4 _ _ HS1.out).mono ?_
  rintro e w2 ⟨a2, n2, c2, R, rfl, -, ho, hs2, ht2⟩
  have HO := Lib.hid ho.mat
  have HB2 := Lib.hid (HB1.out.trans ht2.below)
  clear ho hs2 ht2
  go_wp2
  go_ret
  exact ⟨a2, n2, c2, R, rfl, HO.out, HB2.out⟩
set_option maxRecDepth 100000 in
set_option maxHeartbeats 1000000 in
theorem drawEigenVector (a : Option Addr) (n cap : Nat) (w : World) (h : Bytes w a n) :
    Calls Tryz.prog 50 #[.slice a n cap] w (DrawnM w) := by
  have HB := Lib.hid h
  clear h
  go_enter Tryz.func50, Tryz.ntmps50
  go_wp2_with fail
  refine (from_ _ _ _ _ HB.out).mono ?_
  rintro e w1 ⟨rfl, hs1, hb1⟩
  have HS1 := Lib.hid hs1
  have HB1 := Lib.hid hb1
  clear hs1 hb1
  go_wp2_with fail
  refine (draw4 _ _ HS1.out).mono ?_
  rintro e w2 ⟨a2, n2, c2, R, rfl, -, ho, hs2, ht2⟩
  have HO := Lib.hid ho.mat
  have HB2 := Lib.hid (HB1.out.trans ht2.below)
  clear ho hs2 ht2
  go_wp2
  go_ret
  exact ⟨a2, n2, c2, R, rfl, HO.out, HB2.out⟩
end Go.Proofs.YtihpbgjiohnekabGreat.V

namespace Go.Proofs.YtihpbgjiohnekabGreat.V
set_option maxRecDepth 100000
open Go.RowKit

set_option maxRecDepth 100000 in
set_option maxHeartbeats 4000000 in
theorem draw6 (g : Nat) (w : World) (h : Src w g) : Calls Tryz.prog 111 #[.pointer (some ⟨g, 0, none⟩)] w (DrawMB g w) := by
  have HS := Lib.hid h
  have hgl := h.lt
  clear h
  go_enter Tryz.func111, Tryz.ntmps111
  go_wp2_with fail
  refine (draw4 g _ HS.out).mono ?_
  rintro e w1 ⟨a, n, cap, R, rfl, hn200, ho, hs1, ht1⟩
  have HO1 := Lib.hid ho
  have HS1 := Lib.hid hs1
  have HT1 := Lib.hid ht1
  have hz1 : w.heap.size ≤ w1.heap.size := ht1.below.size
  clear ho hs1 ht1
  by_cases hq : M.sqB R = true
  · have HQ := Lib.hid hq
    obtain ⟨-, hr, -, n1, n2⟩ := sq_of HO1.out.mat hq
    have HR := Lib.hid hr
    clear hq hr
    go_wp2_with fail
    refine (sSquare_b _ _ _ R _ true HQ.out HO1.out.mat).mono ?_
    rintro e w' ⟨rfl, q, rfl⟩
    have HO2 : Hid (OwnM (w1.drewN q) w.heap.size (.slice a n cap) R) := HO1.out.below (b_draws _ _)
    have HS2 : Hid (Src (w1.drewN q) g) := HS1.out.below (by have := HS1.out.lt; exact (b_draws w1 q).mono (by omega))
    have HT2 : Hid (Thr g w (w1.drewN q)) := HT1.out.drewN q
    have hz2 : w.heap.size ≤ (w1.drewN q).heap.size := hz1
    generalize w1.drewN q = w2 at HO2 HS2 HT2 hz2
    clear HO1 HS1 HT1 hz1
    go_wp2_with fail
    refine (next g 3 _ (by decide) HS2.out).mono ?_
    rintro e w3 ⟨x, rfl, hx1, -, hs3, ht3⟩
    have HO3 := Lib.hid (HO2.out.thr ht3 hgl)
    have HS3 := Lib.hid hs3
    have HT3 := Lib.hid (HT2.out.trans ht3)
    have hz3 : w.heap.size ≤ w3.heap.size := HT3.out.below.size
    clear hs3 ht3 HO2 HS2 HT2
    by_cases hx0 : x = 0
    · subst hx0
      go_wp2
      go_ret
      exact ⟨_, _, _, _, rfl, hn200, HO3.out, HS3.out, HT3.out⟩
    · have e0 : (x == 0) = false := by simpa using hx0
      have hg3 : g < w3.heap.size := by omega
      have HL0 : Hid (DL g w3.heap.size (.slice (some ⟨w3.heap.size, 0, none⟩) 0 0) [] w3 (w3.alloc (.cells #[] 2))) :=
        ⟨own_lit0 w3 _ (Nat.le_refl _), HS3.out.alloc _, (Thr.refl _ _).alloc (Nat.le_of_lt hg3) _⟩
      have HB0 : Hid (∀ x ∈ ([] : List Int), 0 ≤ x ∧ x < 6) := fun x hx => absurd hx (by simp)
      go_wp2
      go_loopw [4, 5] (fun out i wr => ∃ (t : Nat) (l : List Int) (b : Option Addr) (c : Nat), t ≤ n ∧ i = .int .i64 t ∧ out = .slice b t c ∧ Hid (DL g w3.heap.size (.slice b t c) l w3 wr) ∧ Hid (∀ x ∈ l, 0 ≤ x ∧ x < 6)) (fun _ i _ => n - (intOf i).toNat)
      case atStart => exact ⟨0, [], _, _, Nat.zero_le _, rfl, rfl, HL0, HB0⟩
      case round =>
        obtain ⟨t, l, b, c, ht, rfl, rfl, HJ, HBl⟩ := hrel
        clear HL0 HB0
        by_cases hlt : t < n
        · have hti : (t : Int) < (n : Int) := by omega
          go_wp2_with fail
          refine (next g 6 _ (by decide) HJ.out.2.1).mono ?_
          rintro e w4 ⟨y, rfl, hy1, hy2, hs4, ht4⟩
          have HJ1 := Lib.hid (HJ.out.next hg3 hs4 ht4)
          have hz4 : w3.heap.size ≤ w4.heap.size := HJ1.out.2.2.below.size
          have HLn := Lib.hid HJ1.out.1.len
          have HBl2 : Hid (∀ x ∈ l ++ [y], 0 ≤ x ∧ x < 6) := fun x hx => by
            rcases List.mem_append.1 hx with h | h
            · exact HBl.out x h
            · simp at h; subst h; omega
          clear hs4 ht4 hy2 HJ
          go_wp2_with (at_builtin; refine append1 _ rfl (.tmp 27) (.tmp 30) rfl w3.heap.size _ _ _ t HJ1.out.1.len.symm rfl HJ1.out.1 rfl (by rw [← HLn.out]; omega) hz4 ?_)
          intro b2 c2 w5 hO5 hb5 _
          have HJ2 := Lib.hid (HJ1.out.app hg3 hO5 hb5)
          clear hO5 hb5 HJ1
          go_wp2
          go_roundw
          case rel => exact ⟨t + 1, _, _, _, by omega, by go_num, rfl, HJ2, HBl2⟩
          case measure => simp [intOf]; omega
        · obtain rfl : t = n := by omega
          obtain ⟨o, -, -, -, -, rfl, -⟩ := HO3.out.at 0 0 (by omega) (by rw [HR.out.2 0 (by omega)]; omega)
          have hzr : w3.heap.size ≤ wr.heap.size := HJ.out.2.2.below.size
          have HD0 : Hid (D3 g w.heap.size w3.heap.size t cap o (.slice b t c) l w wr) :=
            ⟨R, HR.out, HO3.out.upto.keep (fun k k1 k2 => HJ.out.2.2.other k (by omega) k2), HJ.out.1, hzr, HJ.out.2.1, HT3.out.trans HJ.out.2.2⟩
          have HLn := Lib.hid HJ.out.1.len
          have HBx : Hid (∀ k, k < t → 0 ≤ l.getD k 0 ∧ l.getD k 0 < 6) := fun k hk => by
            have hk2 : k < l.length := by rw [← HLn.out]; exact hk
            have := HBl.out l[k] (List.getElem_mem hk2)
            simpa [hk2] using this
          clear HJ HO3 HS3 HT3
          go_wp2_with fail
          refine (next g 7 _ (by decide) HD0.out.choose_spec.2.2.2.2.1).mono ?_
          rintro e wm ⟨ym, rfl, hym1, hym2, hsm, htm⟩
          have HD1 := Lib.hid (HD0.out.next hgl hz3 hsm htm)
          clear HD0 hsm htm
          go_wp2
          go_loopw [7, 8] (fun i _ wr => ∃ k : Nat, k ≤ t ∧ i = .int .i64 k ∧ Hid (D3 g w.heap.size w3.heap.size t cap o (.slice b t c) l w wr)) (fun i _ _ => t - (intOf i).toNat)
          case atStart => exact ⟨0, Nat.zero_le _, rfl, HD1⟩
          case round =>
            obtain ⟨k, hk, rfl, HD⟩ := hrel
            obtain ⟨wo, rfl⟩ : ∃ x, x = wr := ⟨_, rfl⟩
            clear HD1
            by_cases hlt : k < t
            · have hki : (k : Int) < (t : Int) := by omega
              go_wp2
              go_loopw [8] (fun i wr => ∃ s : Nat, s ≤ t ∧ i = .int .i64 s ∧ Hid (D3 g w.heap.size w3.heap.size t cap o (.slice b t c) l w wr)) (fun i _ => t - (intOf i).toNat)
              case atStart => exact ⟨0, Nat.zero_le _, rfl, HD⟩
              case round =>
                obtain ⟨s, hs, rfl, HE⟩ := hrel
                obtain ⟨wp, rfl⟩ : ∃ x, x = wr := ⟨_, rfl⟩
                clear HD
                by_cases hsl : s < t
                · have hsi : (s : Int) < (t : Int) := by omega
                  obtain ⟨q, c2, x, xb, rfl, hq1, hq2, hxb, hqo, ho1, ho2, c1, c2', f1, d1, d2⟩ := HE.out.cells hgl k s hlt hsl hlt hsl
                  obtain ⟨u, hu⟩ : ∃ u, u = l.getD k 0 := ⟨_, rfl⟩
                  obtain ⟨v, hv⟩ : ∃ v, v = l.getD s 0 := ⟨_, rfl⟩
                  have hub := HBx.out k hlt
                  have hvb := HBx.out s hsl
                  rw [← hu] at d1 hub
                  rw [← hv] at d2 hvb
                  obtain ⟨hu1, hu2⟩ := hub
                  obtain ⟨hv1, hv2⟩ := hvb
                  obtain ⟨bf, hbf⟩ : ∃ bf, bf = M.isFin x := ⟨_, rfl⟩
                  have HCf : ∀ w, Calls Tryz.prog 144 #[.int .i64 x] w fun e w' => e = .returned (.bool bf) ∧ w = w' := fun w => by rw [hbf]; exact sFinite x w
                  obtain ⟨bi, hbi⟩ : ∃ bi, bi = (decide (-100 ≤ x) && decide (x ≤ 100)) := ⟨_, rfl⟩
                  have HCi : ∀ w, Calls Tryz.prog 127 #[.int .i64 x, .int .i64 (-100), .int .i64 100] w fun e w' => e = .returned (.bool bi) ∧ w = w' := fun w => by rw [hbi]; exact sIn x _ _ w
                  clear hu hv hbf hbi
                  cases bf with
                  | false =>
                    go_wp2_with (go_at_call 144; refine (HCf _).mono ?_; rintro e w' ⟨rfl, rfl⟩)
                    go_roundw
                    case rel => exact ⟨s + 1, by omega, by go_num, HE⟩
                    case measure => simp [intOf]; omega
                  | true =>
                    cases bi with
                    | false =>
                      go_wp2_with (first | (go_at_call 144; refine (HCf _).mono ?_; rintro e w' ⟨rfl, rfl⟩) | (go_at_call 127; refine (HCi _).mono ?_; rintro e w' ⟨rfl, rfl⟩))
                      go_roundw
                      case rel => exact ⟨s + 1, by omega, by go_num, HE⟩
                      case measure => simp [intOf]; omega
                    | true =>
                      go_wp2_with (first | (go_at_call 144; refine (HCf _).mono ?_; rintro e w' ⟨rfl, rfl⟩) | (go_at_call 127; refine (HCi _).mono ?_; rintro e w' ⟨rfl, rfl⟩))
                      have HE1 := Lib.hid HE.out.drew
                      go_region_held3 (fun w' => w'.cell? ⟨o, k, none⟩ = some (.slice (some ⟨q, 0, none⟩) t c2) ∧ w'.cell? ⟨xb, k, none⟩ = some (.int .i64 u) ∧ w'.cell? ⟨xb, s, none⟩ = some (.int .i64 v) ∧ D3 g w.heap.size w3.heap.size t cap o (.slice (some ⟨xb, 0, none⟩) t c) l w w')
                        (first
                          | exact ⟨c1, d1, d2, HE1.out⟩
                          | exact d3_next ‹_ ∧ _ ∧ _ ∧ D3 _ _ _ _ _ _ _ _ _ _› hgl hz3 ho1 hxb HSx.out HTx.out
                          | exact d3_store ‹_ ∧ _ ∧ _ ∧ D3 _ _ _ _ _ _ _ _ _ _› hgl (Nat.le_refl _) hlt hsl hqo hq2 hxb _
                          | assumption | exact ⟨‹_›, ‹_›, ‹_›, ‹_›⟩)
                        ((go_at_call 94; refine (next g 5 _ (by decide) HE1.out.choose_spec.2.2.2.2.1).mono ?_; rintro e wx ⟨y, rfl, hy1, hy2, hsx, htx⟩; have HSx := Lib.hid hsx; have HTx := Lib.hid htx; have cqx : wx.cell? ⟨q, s, none⟩ = some (.int .i64 x) := (htx.cell (p := ⟨q, s, none⟩) (cell_lt c2') (show q ≠ g by omega)).trans c2'; have fqx : wx.frozen? ⟨q, s, none⟩ = false := (htx.frozen (p := ⟨q, s, none⟩) (cell_lt c2') (show g < q by omega)).trans f1; clear hsx htx))
                      go_wp2
                      go_roundw
                      case rel => exact ⟨s + 1, by omega, by go_num, d3_of (d3_store (d3_next (w := wp.drew) ⟨c1, d1, d2, HE1.out⟩ hgl hz3 ho1 hxb HSx.out HTx.out) hgl (Nat.le_refl _) hlt hsl hqo hq2 hxb _)⟩
                      case measure => simp [intOf]; omega
                · obtain rfl : s = t := by omega
                  go_wp2
                  go_roundw
                  case rel => exact ⟨k + 1, by omega, by go_num, HE⟩
                  case measure => simp [intOf]; omega
            · obtain rfl : k = t := by omega
              obtain ⟨R2, -, h2, -, -, h5, h6⟩ := HD.out
              go_wp2
              go_ret
              exact ⟨_, _, _, _, rfl, hn200, h2.own, h5, h6⟩
  · simp only [Bool.not_eq_true] at hq
    have HQ := Lib.hid hq
    clear hq
    go_wp2_with fail
    refine (sSquare_b _ _ _ R _ false HQ.out HO1.out.mat).mono ?_
    rintro e w' ⟨rfl, q, rfl⟩
    have hlt := HS1.out.lt
    go_wp2
    go_ret
    exact ⟨_, _, _, _, rfl, hn200, HO1.out.below (b_draws _ _), HS1.out.below ((b_draws w1 q).mono (by omega)), HT1.out.drewN q⟩
set_option maxRecDepth 100000 in
set_option maxHeartbeats 1000000 in
theorem drawCriticalArcs (a : Option Addr) (n cap : Nat) (w : World) (h : Bytes w a n) :
    Calls Tryz.prog 40 #[.slice a n cap] w (DrawnM w) := by
  have HB := Lib.hid h
  clear h
  go_enter Tryz.func40, Tryz.ntmps40
  go_wp2_with fail
  refine (from_ _ _ _ _ HB.out).mono ?_
  rintro e w1 ⟨rfl, hs1, hb1⟩
  have HS1 := Lib.hid hs1
  have HB1 := Lib.hid hb1
  clear hs1 hb1
  go_wp2_with fail
  refine (draw6 _ _ HS1.out).mono ?_
  rintro e w2 ⟨a2, n2, c2, R, rfl, -, ho, hs2, ht2⟩
  have HO := Lib.hid ho.mat
  have HB2 := Lib.hid (HB1.out.trans ht2.below)
  clear ho hs2 ht2
  go_wp2
  go_ret
  exact ⟨a2, n2, c2, R, rfl, HO.out, HB2.out⟩
set_option maxRecDepth 100000 in
set_option maxHeartbeats 1000000 in
theorem drawEigenColumns (a : Option Addr) (n cap : Nat) (w : World) (h : Bytes w a n) :
    Calls Tryz.prog 64 #[.slice a n cap] w (DrawnM w) := by
  have HB := Lib.hid h
  clear h
  go_enter Tryz.func64, Tryz.ntmps64
  go_wp2_with fail
  refine (from_ _ _ _ _ HB.out).mono ?_
  rintro e w1 ⟨rfl, hs1, hb1⟩
  have HS1 := Lib.hid hs1
  have HB1 := Lib.hid hb1
  clear hs1 hb1
  go_wp2_with fail
  refine (draw6 _ _ HS1.out).mono ?_
  rintro e w2 ⟨a2, n2, c2, R, rfl, -, ho, hs2, ht2⟩
  have HO := Lib.hid ho.mat
  have HB2 := Lib.hid (HB1.out.trans ht2.below)
  clear ho hs2 ht2
  go_wp2
  go_ret
  exact ⟨a2, n2, c2, R, rfl, HO.out, HB2.out⟩
end Go.Proofs.YtihpbgjiohnekabGreat.V

namespace Go.Proofs.YtihpbgjiohnekabGreat.V
open Go.RowKit

theorem Thr.setNew {g : Nat} {a b : World} (h : Thr g a b) {p : Addr} (hp : a.heap.size ≤ p.block) (hg : g ≤ p.block) (v : Value) : Thr g a (b.setCell p v) :=
  ⟨h.below.setCell hg v, fun k h1 h2 => (Below.heap_setCell _ _ _ _ (by omega)).trans (h.other k h1 h2)⟩
theorem Src.setNew {w : World} {g : Nat} (h : Src w g) {p : Addr} (hg : g < p.block) (v : Value) : Src (w.setCell p v) g := h.below ((Below.refl _ _).setCell hg v)

/-- A drawn ratio: two integers. -/
def RatPost (g : Nat) (w : World) (e : Ending) (w' : World) : Prop :=
  ∃ x y : Int, e = .returned (.agg #[.int .i64 x, .int .i64 y]) ∧ (Lit.int .i64 x).wf = true ∧ (Lit.int .i64 y).wf = true ∧ Src w' g ∧ Thr g w w'

set_option maxRecDepth 100000 in
set_option maxHeartbeats 1000000 in
theorem drawRatio (g : Nat) (w : World) (h : Src w g) :
    Calls Tryz.prog 137 #[.pointer (some ⟨g, 0, none⟩)] w (RatPost g w) := by
  have HS := Lib.hid h
  have hg := h.lt
  clear h
  go_enter Tryz.func137, Tryz.ntmps137
  go_wp2_with fail
  refine (next _ _ _ (by decide) (HS.out.alloc _)).mono ?_
  rintro e w1 ⟨p, rfl, hp1, hp2, hs1, ht1⟩
  have hb1 : w.heap.size < w1.heap.size := by have := ht1.below.size; simp at this; omega
  have f1 : w1.rowIs w.heap.size 26 2 (fun _ => .int .i64 0) := by
    refine (World.rowIs_alloc w #[.int .i64 0, .int .i64 0] 26 (fun _ => .int .i64 0) ?_).of_block (ht1.other _ hg (by simp))
    intro i hi
    match i, hi with
    | 0, _ => rfl
    | 1, _ => rfl
  have HS1 := Lib.hid hs1
  have HT1 := Lib.hid (((Thr.refl g w).alloc (Nat.le_of_lt hg) _).trans ht1)
  have HF1 := Lib.hid f1
  have hp3 : p < 80 := by omega
  clear ht1 hs1 f1 hp2
  go_wp2_with fail
  refine (next _ _ _ (by decide) HS1.out).mono ?_
  rintro e w2 ⟨q, rfl, hq1, hq2, hs2, ht2⟩
  have hb2 : w.heap.size < w2.heap.size := by have := ht2.below.size; omega
  have HS2 := Lib.hid hs2
  have HT2 := Lib.hid (HT1.out.trans ht2)
  have HF2 := Lib.hid (HF1.out.of_block (ht2.other _ hg hb1))
  have hq3 : q < 9 := by omega
  clear ht2 hs2 hq2
  go_wp2_with fail
  refine (sRatio _ _ _ (by omega) (by omega) (by omega) (by omega) (by omega)).mono ?_
  rintro e w3 ⟨rfl, hb3⟩
  obtain ⟨rn, hrn⟩ : ∃ x, x = M.ratN (p - 40) (1 + q) := ⟨_, rfl⟩
  obtain ⟨rd, hrd⟩ : ∃ x, x = M.ratD (p - 40) (1 + q) := ⟨_, rfl⟩
  have en := M.tdiv_bd (if 1 + q < 0 then -(p - 40) else p - 40) (Int.gcd (p - 40) (1 + q)) (by split <;> omega) (by split <;> omega)
  have ed := M.tdiv_bd (if 1 + q < 0 then -(1 + q) else 1 + q) (Int.gcd (p - 40) (1 + q)) (by split <;> omega) (by split <;> omega)
  have hn' : -1000000 ≤ rn ∧ rn ≤ 1000000 := by rw [hrn]; exact en
  have hd' : -1000000 ≤ rd ∧ rd ≤ 1000000 := by rw [hrd]; exact ed
  clear en ed
  obtain ⟨n1, n2⟩ := hn'
  obtain ⟨d1, d2⟩ := hd'
  rw [← hrn, ← hrd]
  clear hrn hrd
  have hb3' : w.heap.size < w3.heap.size := by have := hb3.size; omega
  have hg3 : g < w3.heap.size := by omega
  have HS3 := Lib.hid ((HS2.out.below (hb3.mono (by omega))).alloc (.cells #[.int .i64 rn, .int .i64 rd] 26))
  have HT3 := Lib.hid ((HT2.out.trans ⟨hb3.mono (by omega), fun k _ h2 => hb3.block k h2⟩).alloc (Nat.le_of_lt hg3) (.cells #[.int .i64 rn, .int .i64 rd] 26))
  have HF3 := Lib.hid ((HF2.out.of_block (hb3.block _ hb2)).alloc (.cells #[.int .i64 rn, .int .i64 rd] 26))
  have HR3 := Lib.hid (World.rowIs_alloc w3 #[.int .i64 rn, .int .i64 rd] 26 (fun i => if i = 0 then .int .i64 rn else .int .i64 rd) (by
    intro i hi
    match i, hi with
    | 0, _ => rfl
    | 1, _ => rfl))
  clear hb3 HT1 HT2 HF1 HF2 HS1 HS2
  go_wp2_with fail
  refine (next _ _ _ (by decide) HS3.out).mono ?_
  rintro e w4 ⟨k, rfl, hk1, hk2, hs4, ht4⟩
  have hb4 : w3.heap.size < w4.heap.size := by have := ht4.below.size; simp at this; omega
  have HS4 := Lib.hid hs4
  have HT4 := Lib.hid (HT3.out.trans ht4)
  have hF4 := HF3.out.of_block (ht4.other _ hg (by simp; omega))
  have hR4 := HR3.out.of_block (ht4.other _ hg3 (by simp))
  have c0 : w4.cell? ⟨w3.heap.size, 0, none⟩ = some (.int .i64 rn) := hR4.cell (i := 0) (by simp)
  have c1 : w4.cell? ⟨w3.heap.size, 1, none⟩ = some (.int .i64 rd) := hR4.cell (i := 1) (by simp)
  have r0 : w4.cell? ⟨w.heap.size, 0, none⟩ = some (.int .i64 0) := hF4.cell (i := 0) (by omega)
  have r1 : w4.cell? ⟨w.heap.size, 1, none⟩ = some (.int .i64 0) := hF4.cell (i := 1) (by omega)
  have z0 := hF4.frozen 0
  have z1 := hF4.frozen 1
  have HF4 := Lib.hid hF4
  clear ht4 hs4 hk2 hF4 hR4 HS3 HT3 HF3 HR3
  by_cases h0 : k = 0
  · subst h0
    go_wp2
    exact bodyPost_ret (v := .agg #[.int .i64 (2 * rn), .int .i64 (2 * rd)]) (by simp [results, Tryz.results137, go_sem, r0, r1]) rfl
      ⟨_, _, rfl, wf_small _ (by omega) (by omega), wf_small _ (by omega) (by omega), (HS4.out.setNew hg _).setNew hg _, (HT4.out.setNew (Nat.le_refl _) (Nat.le_of_lt hg) _).setNew (Nat.le_refl _) (Nat.le_of_lt hg) _⟩
  · have e0 : (k == 0) = false := by simpa using h0
    clear h0
    by_cases h1 : k = 1
    · subst h1
      go_wp2_with fail
      refine (pick _ _ 0 3 3 _ (HS4.out.alloc _) (by omega) (by omega) HS4.out.lt (litCells _ [1000000, 1000001, -1000000] _ _ rfl (by decide))).mono ?_
      rintro e w5 ⟨x, rfl, hx, hs5, ht5⟩
      have hb5 : w4.heap.size < w5.heap.size := by have := ht5.below.size; simp at this; omega
      have HS5 := Lib.hid hs5
      have HT5 := Lib.hid ((HT4.out.alloc (by omega) _).trans ht5)
      have HF5 := Lib.hid ((HF4.out.alloc _).of_block (ht5.other _ hg (by simp; omega)))
      clear hs5 ht5
      go_wp2_with fail
      refine (pick _ _ 0 4 4 _ (HS5.out.alloc _) (by omega) (by omega) HS5.out.lt (litCells _ [1, 1000000, 0, -1] _ _ rfl (by decide))).mono ?_
      rintro e w6 ⟨y, rfl, hy, hs6, ht6⟩
      have HS6 := Lib.hid hs6
      have HT6 := Lib.hid ((HT5.out.alloc (by omega) _).trans ht6)
      have hF6 := (HF5.out.alloc _).of_block (ht6.other _ hg (by simp; omega))
      have s0 : w6.cell? ⟨w.heap.size, 0, none⟩ = some (.int .i64 0) := hF6.cell (i := 0) (by omega)
      have s1 : w6.cell? ⟨w.heap.size, 1, none⟩ = some (.int .i64 0) := hF6.cell (i := 1) (by omega)
      have y0 := hF6.frozen 0
      have y1 := hF6.frozen 1
      clear hs6 ht6 hF6
      go_wp2
      exact bodyPost_ret (v := .agg #[.int .i64 x, .int .i64 y]) (by simp [results, Tryz.results137, go_sem, s0, s1]) rfl
        ⟨_, _, rfl, hx, hy, (HS6.out.setNew hg _).setNew hg _, (HT6.out.setNew (Nat.le_refl _) (Nat.le_of_lt hg) _).setNew (Nat.le_refl _) (Nat.le_of_lt hg) _⟩
    · have e1 : (k == 1) = false := by simpa using h1
      clear h1
      go_wp2
      exact bodyPost_ret (v := .agg #[.int .i64 rn, .int .i64 rd]) (by simp [results, Tryz.results137, go_sem, r0, r1]) rfl
        ⟨_, _, rfl, wf_small _ (by omega) (by omega), wf_small _ (by omega) (by omega), (HS4.out.setNew hg _).setNew hg _, (HT4.out.setNew (Nat.le_refl _) (Nat.le_of_lt hg) _).setNew (Nat.le_refl _) (Nat.le_of_lt hg) _⟩

end Go.Proofs.YtihpbgjiohnekabGreat.V

namespace Go.Proofs.YtihpbgjiohnekabGreat.V
open Go.RowKit

set_option maxRecDepth 100000 in
set_option maxHeartbeats 400000 in
theorem likeInts (a : Option Addr) (n cap : Nat) (l : List Int) (a' : Option Addr) (n' cap' : Nat) (l' : List Int) (w : World) (h : Ints .i64 w a n l) (h' : Ints .i64 w a' n' l') (heq : l = l') :
    Calls Tryz.prog 18 #[.slice a n cap, .slice a' n' cap'] w fun e w' => e = .returned (.bool true) ∧ ∃ q, w' = w.drewN q := by
  subst heq
  obtain ⟨hl, hm, hr⟩ := h
  obtain ⟨hl', hm', hr'⟩ := h'
  obtain rfl : n = n' := by omega
  unfold maxLen at hm
  clear hm'
  have HL := Lib.hid hl
  clear hl hl'
  go_enter Tryz.func18, Tryz.ntmps18
  go_wp2
  go_loopw [5] (fun i wr => ∃ k : Nat, k ≤ n ∧ i = .int .i64 k ∧ ∃ q, wr = w.drewN q) (fun i _ => n - (intOf i).toNat)
  case atStart => exact ⟨0, Nat.zero_le _, rfl, 0, rfl⟩
  case round =>
    obtain ⟨k, hk, rfl, q, rfl⟩ := hrel
    by_cases hlt : k < n
    · rcases hr with h0 | ⟨b, off, rfl, hbl, hc⟩
      · omega
      rcases hr' with h0 | ⟨b', off', rfl, hbl', hc'⟩
      · omega
      have hck := hc k hlt
      have hck' := hc' k hlt
      obtain ⟨x, hx⟩ : ∃ x, x = l.getD k 0 := ⟨_, rfl⟩
      rw [← hx] at hck hck'
      clear hc hx hc'
      have hki : (k : Int) < (n : Int) := by omega
      go_wp2
      go_quiet (fail)
      go_wp2
      go_roundw
      case rel => exact ⟨k + 1, by omega, by go_num, _, rfl⟩
      case measure => simp [intOf]; omega
    · have hkn : k = n := by omega
      subst hkn
      clear hr hr'
      go_wp2
      go_ret
      exact ⟨rfl, q, rfl⟩

set_option maxRecDepth 100000 in
set_option maxHeartbeats 400000 in
theorem likeIntss (a : Option Addr) (n cap : Nat) (R : List (List Int)) (a' : Option Addr) (n' cap' : Nat) (R' : List (List Int)) (w : World) (h : Mat w a n R) (h' : Mat w a' n' R') (heq : R = R') :
    Calls Tryz.prog 21 #[.slice a n cap, .slice a' n' cap'] w fun e w' => e = .returned (.bool true) ∧ ∃ q, w' = w.drewN q := by
  subst heq
  have HM := Lib.hid h
  have HM' := Lib.hid h'
  obtain ⟨hl, hm, -⟩ := h
  obtain ⟨hl', -, -⟩ := h'
  obtain rfl : n = n' := by omega
  unfold maxLen at hm
  have HL := Lib.hid hl
  clear hl hl'
  go_enter Tryz.func21, Tryz.ntmps21
  go_wp2
  go_loopw [5] (fun i wr => ∃ k : Nat, k ≤ n ∧ i = .int .i64 k ∧ ∃ q, wr = w.drewN q) (fun i _ => n - (intOf i).toNat)
  case atStart => exact ⟨0, Nat.zero_le _, rfl, 0, rfl⟩
  case round =>
    obtain ⟨k, hk, rfl, q, rfl⟩ := hrel
    by_cases hlt : k < n
    · obtain ⟨b, off, ra, rc, L, l, rfl, hbl, hll, hc, hI⟩ := HM.out.at k hlt
      obtain ⟨b', off', ra', rc', L', l', rfl, hbl', hll', hc', hI'⟩ := HM'.out.at k hlt
      have HI := Lib.hid hI
      have HI' := Lib.hid hI'
      have HE := Lib.hid (hll.trans hll'.symm)
      clear hI hI' hll hll' HM HM'
      have hki : (k : Int) < (n : Int) := by omega
      go_wp2
      go_quiet ((go_at_call 18; exact q_more (likeInts _ _ _ l _ _ _ l' _ HI.out HI'.out HE.out)))
      go_wp2
      go_roundw
      case rel => exact ⟨k + 1, by omega, by go_num, _, rfl⟩
      case measure => simp [intOf]; omega
    · have hkn : k = n := by omega
      subst hkn
      go_wp2
      go_ret
      exact ⟨rfl, q, rfl⟩

/-- The same, said for the laws. -/
theorem likeM (a : Option Addr) (n cap : Nat) (R : List (List Int)) (a' : Option Addr) (n' cap' : Nat) (w : World) (h : Mat w a n R) (h' : Mat w a' n' R) :
    Calls Tryz.prog 21 #[.slice a n cap, .slice a' n' cap'] w fun e w' => e = .returned (.bool true) ∧ Below w.heap.size w w' := by
  refine (likeIntss _ _ _ _ _ _ _ _ _ h h' rfl).mono ?_
  rintro e w' ⟨rfl, q, rfl⟩
  exact ⟨rfl, b_draws _ _⟩
theorem likeV (a : Option Addr) (n cap : Nat) (l : List Int) (a' : Option Addr) (n' cap' : Nat) (w : World) (h : Ints .i64 w a n l) (h' : Ints .i64 w a' n' l) :
    Calls Tryz.prog 18 #[.slice a n cap, .slice a' n' cap'] w fun e w' => e = .returned (.bool true) ∧ Below w.heap.size w w' := by
  refine (likeInts _ _ _ _ _ _ _ _ _ h h' rfl).mono ?_
  rintro e w' ⟨rfl, q, rfl⟩
  exact ⟨rfl, b_draws _ _⟩
set_option maxRecDepth 100000 in
set_option maxHeartbeats 400000 in
theorem big (a : Option Addr) (n cap : Nat) (w : World) (h : n ≤ maxLen) :
    Calls Tryz.prog 10 #[.slice a n cap] w fun e w' => e = .returned (.bool (decide (4096 < n))) ∧ w = w' := by
  unfold maxLen at h
  go_enter Tryz.func10, Tryz.ntmps10
  go_wp2
  go_ret
  exact ⟨retB (decide_eq_decide.2 (by omega)), rfl⟩
end Go.Proofs.YtihpbgjiohnekabGreat.V
