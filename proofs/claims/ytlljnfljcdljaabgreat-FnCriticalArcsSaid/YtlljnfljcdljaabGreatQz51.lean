/- Texts laid together: Dr6. -/
import Derived.Test.YtlljnfljcdljaabGreatQz50
import Derived.Test.YtlljnfljcdljaabGreatQz47
import Derived.Test.YtlljnfljcdljaabGreatQz5
import Derived.Test.YtlljnfljcdljaabGreatQz6
import Derived.Deep.RegionHeld3
import Derived.StillTailTactics
import Derived.IntWalk
set_option linter.unusedSimpArgs false
set_option linter.unusedVariables false
set_option linter.unusedSectionVars false
namespace Go.Proofs.YtlljnfljcdljaabGreat.V
set_option maxRecDepth 100000
open Go.RowKit

set_option maxRecDepth 100000 in
set_option maxHeartbeats 4000000 in
theorem draw6 (g : Nat) (w : World) (h : Src w g) : Calls Tryz.prog 36 #[.pointer (some ⟨g, 0, none⟩)] w (DrawMB g w) := by
  have HS := Lib.hid h
  have hgl := h.lt
  clear h
  go_enter Tryz.func36, Tryz.ntmps36
  go_wp2_with fail
  refine (draw4 g _ HS.out).mono ?_
  rintro e w1 ⟨a, n, cap, R, rfl, hn200, ho, hs1, ht1⟩
  have HO1 := Lib.hid ho
  have HS1 := Lib.hid hs1
  have HT1 := Lib.hid ht1
  have hz1 : w.heap.size ≤ w1.heap.size := ht1.below.size
  clear ho hs1 ht1
  by_cases hq : M.sqB R = true
  · have HQ := Lib.hid hq
    obtain ⟨-, hr, -, n1, n2⟩ := sq_of HO1.out.mat hq
    have HR := Lib.hid hr
    clear hq hr
    go_wp2_with fail
    refine (sSquare_b _ _ _ R _ true HQ.out HO1.out.mat).mono ?_
    rintro e w' ⟨rfl, q, rfl⟩
    have HO2 : Hid (OwnM (w1.drewN q) w.heap.size (.slice a n cap) R) := HO1.out.below (b_draws _ _)
    have HS2 : Hid (Src (w1.drewN q) g) := HS1.out.below (by have := HS1.out.lt; exact (b_draws w1 q).mono (by omega))
    have HT2 : Hid (Thr g w (w1.drewN q)) := HT1.out.drewN q
    have hz2 : w.heap.size ≤ (w1.drewN q).heap.size := hz1
    generalize w1.drewN q = w2 at HO2 HS2 HT2 hz2
    clear HO1 HS1 HT1 hz1
    go_wp2_with fail
    refine (next g 3 _ (by decide) HS2.out).mono ?_
    rintro e w3 ⟨x, rfl, hx1, -, hs3, ht3⟩
    have HO3 := Lib.hid (HO2.out.thr ht3 hgl)
    have HS3 := Lib.hid hs3
    have HT3 := Lib.hid (HT2.out.trans ht3)
    have hz3 : w.heap.size ≤ w3.heap.size := HT3.out.below.size
    clear hs3 ht3 HO2 HS2 HT2
    by_cases hx0 : x = 0
    · subst hx0
      go_wp2
      go_ret
      exact ⟨_, _, _, _, rfl, hn200, HO3.out, HS3.out, HT3.out⟩
    · have e0 : (x == 0) = false := by simpa using hx0
      have hg3 : g < w3.heap.size := by omega
      have HL0 : Hid (DL g w3.heap.size (.slice (some ⟨w3.heap.size, 0, none⟩) 0 0) [] w3 (w3.alloc (.cells #[] 2))) :=
        ⟨own_lit0 w3 _ (Nat.le_refl _), HS3.out.alloc _, (Thr.refl _ _).alloc (Nat.le_of_lt hg3) _⟩
      have HB0 : Hid (∀ x ∈ ([] : List Int), 0 ≤ x ∧ x < 6) := fun x hx => absurd hx (by simp)
      go_wp2
      go_loopw [4, 5] (fun out i wr => ∃ (t : Nat) (l : List Int) (b : Option Addr) (c : Nat), t ≤ n ∧ i = .int .i64 t ∧ out = .slice b t c ∧ Hid (DL g w3.heap.size (.slice b t c) l w3 wr) ∧ Hid (∀ x ∈ l, 0 ≤ x ∧ x < 6)) (fun _ i _ => n - (intOf i).toNat)
      case atStart => exact ⟨0, [], _, _, Nat.zero_le _, rfl, rfl, HL0, HB0⟩
      case round =>
        obtain ⟨t, l, b, c, ht, rfl, rfl, HJ, HBl⟩ := hrel
        clear HL0 HB0
        by_cases hlt : t < n
        · have hti : (t : Int) < (n : Int) := by omega
          go_wp2_with fail
          refine (next g 6 _ (by decide) HJ.out.2.1).mono ?_
          rintro e w4 ⟨y, rfl, hy1, hy2, hs4, ht4⟩
          have HJ1 := Lib.hid (HJ.out.next hg3 hs4 ht4)
          have hz4 : w3.heap.size ≤ w4.heap.size := HJ1.out.2.2.below.size
          have HLn := Lib.hid HJ1.out.1.len
          have HBl2 : Hid (∀ x ∈ l ++ [y], 0 ≤ x ∧ x < 6) := fun x hx => by
            rcases List.mem_append.1 hx with h | h
            · exact HBl.out x h
            · simp at h; subst h; omega
          clear hs4 ht4 hy2 HJ
          go_wp2_with (at_builtin; refine append1 _ rfl (.tmp 27) (.tmp 30) rfl w3.heap.size _ _ _ t HJ1.out.1.len.symm rfl HJ1.out.1 rfl (by rw [← HLn.out]; omega) hz4 ?_)
          intro b2 c2 w5 hO5 hb5 _
          have HJ2 := Lib.hid (HJ1.out.app hg3 hO5 hb5)
          clear hO5 hb5 HJ1
          go_wp2
          go_roundw
          case rel => exact ⟨t + 1, _, _, _, by omega, by go_num, rfl, HJ2, HBl2⟩
          case measure => simp [intOf]; omega
        · obtain rfl : t = n := by omega
          obtain ⟨o, -, -, -, -, rfl, -⟩ := HO3.out.at 0 0 (by omega) (by rw [HR.out.2 0 (by omega)]; omega)
          have hzr : w3.heap.size ≤ wr.heap.size := HJ.out.2.2.below.size
          have HD0 : Hid (D3 g w.heap.size w3.heap.size t cap o (.slice b t c) l w wr) :=
            ⟨R, HR.out, HO3.out.upto.keep (fun k k1 k2 => HJ.out.2.2.other k (by omega) k2), HJ.out.1, hzr, HJ.out.2.1, HT3.out.trans HJ.out.2.2⟩
          have HLn := Lib.hid HJ.out.1.len
          have HBx : Hid (∀ k, k < t → 0 ≤ l.getD k 0 ∧ l.getD k 0 < 6) := fun k hk => by
            have hk2 : k < l.length := by rw [← HLn.out]; exact hk
            have := HBl.out l[k] (List.getElem_mem hk2)
            simpa [hk2] using this
          clear HJ HO3 HS3 HT3
          go_wp2_with fail
          refine (next g 7 _ (by decide) HD0.out.choose_spec.2.2.2.2.1).mono ?_
          rintro e wm ⟨ym, rfl, hym1, hym2, hsm, htm⟩
          have HD1 := Lib.hid (HD0.out.next hgl hz3 hsm htm)
          clear HD0 hsm htm
          go_wp2
          go_loopw [7, 8] (fun i _ wr => ∃ k : Nat, k ≤ t ∧ i = .int .i64 k ∧ Hid (D3 g w.heap.size w3.heap.size t cap o (.slice b t c) l w wr)) (fun i _ _ => t - (intOf i).toNat)
          case atStart => exact ⟨0, Nat.zero_le _, rfl, HD1⟩
          case round =>
            obtain ⟨k, hk, rfl, HD⟩ := hrel
            obtain ⟨wo, rfl⟩ : ∃ x, x = wr := ⟨_, rfl⟩
            clear HD1
            by_cases hlt : k < t
            · have hki : (k : Int) < (t : Int) := by omega
              go_wp2
              go_loopw [8] (fun i wr => ∃ s : Nat, s ≤ t ∧ i = .int .i64 s ∧ Hid (D3 g w.heap.size w3.heap.size t cap o (.slice b t c) l w wr)) (fun i _ => t - (intOf i).toNat)
              case atStart => exact ⟨0, Nat.zero_le _, rfl, HD⟩
              case round =>
                obtain ⟨s, hs, rfl, HE⟩ := hrel
                obtain ⟨wp, rfl⟩ : ∃ x, x = wr := ⟨_, rfl⟩
                clear HD
                by_cases hsl : s < t
                · have hsi : (s : Int) < (t : Int) := by omega
                  obtain ⟨q, c2, x, xb, rfl, hq1, hq2, hxb, hqo, ho1, ho2, c1, c2', f1, d1, d2⟩ := HE.out.cells hgl k s hlt hsl hlt hsl
                  obtain ⟨u, hu⟩ : ∃ u, u = l.getD k 0 := ⟨_, rfl⟩
                  obtain ⟨v, hv⟩ : ∃ v, v = l.getD s 0 := ⟨_, rfl⟩
                  have hub := HBx.out k hlt
                  have hvb := HBx.out s hsl
                  rw [← hu] at d1 hub
                  rw [← hv] at d2 hvb
                  obtain ⟨hu1, hu2⟩ := hub
                  obtain ⟨hv1, hv2⟩ := hvb
                  obtain ⟨bf, hbf⟩ : ∃ bf, bf = M.isFin x := ⟨_, rfl⟩
                  have HCf : ∀ w, Calls Tryz.prog 65 #[.int .i64 x] w fun e w' => e = .returned (.bool bf) ∧ w = w' := fun w => by rw [hbf]; exact sFinite x w
                  obtain ⟨bi, hbi⟩ : ∃ bi, bi = (decide (-100 ≤ x) && decide (x ≤ 100)) := ⟨_, rfl⟩
                  have HCi : ∀ w, Calls Tryz.prog 66 #[.int .i64 x, .int .i64 (-100), .int .i64 100] w fun e w' => e = .returned (.bool bi) ∧ w = w' := fun w => by rw [hbi]; exact sIn x _ _ w
                  clear hu hv hbf hbi
                  cases bf with
                  | false =>
                    go_wp2_with (go_at_call 65; refine (HCf _).mono ?_; rintro e w' ⟨rfl, rfl⟩)
                    go_roundw
                    case rel => exact ⟨s + 1, by omega, by go_num, HE⟩
                    case measure => simp [intOf]; omega
                  | true =>
                    cases bi with
                    | false =>
                      go_wp2_with (first | (go_at_call 65; refine (HCf _).mono ?_; rintro e w' ⟨rfl, rfl⟩) | (go_at_call 66; refine (HCi _).mono ?_; rintro e w' ⟨rfl, rfl⟩))
                      go_roundw
                      case rel => exact ⟨s + 1, by omega, by go_num, HE⟩
                      case measure => simp [intOf]; omega
                    | true =>
                      go_wp2_with (first | (go_at_call 65; refine (HCf _).mono ?_; rintro e w' ⟨rfl, rfl⟩) | (go_at_call 66; refine (HCi _).mono ?_; rintro e w' ⟨rfl, rfl⟩))
                      have HE1 := Lib.hid HE.out.drew
                      go_region_held3 (fun w' => w'.cell? ⟨o, k, none⟩ = some (.slice (some ⟨q, 0, none⟩) t c2) ∧ w'.cell? ⟨xb, k, none⟩ = some (.int .i64 u) ∧ w'.cell? ⟨xb, s, none⟩ = some (.int .i64 v) ∧ D3 g w.heap.size w3.heap.size t cap o (.slice (some ⟨xb, 0, none⟩) t c) l w w')
                        (first
                          | exact ⟨c1, d1, d2, HE1.out⟩
                          | exact d3_next ‹_ ∧ _ ∧ _ ∧ D3 _ _ _ _ _ _ _ _ _ _› hgl hz3 ho1 hxb HSx.out HTx.out
                          | exact d3_store ‹_ ∧ _ ∧ _ ∧ D3 _ _ _ _ _ _ _ _ _ _› hgl (Nat.le_refl _) hlt hsl hqo hq2 hxb _
                          | assumption | exact ⟨‹_›, ‹_›, ‹_›, ‹_›⟩)
                        ((go_at_call 43; refine (next g 5 _ (by decide) HE1.out.choose_spec.2.2.2.2.1).mono ?_; rintro e wx ⟨y, rfl, hy1, hy2, hsx, htx⟩; have HSx := Lib.hid hsx; have HTx := Lib.hid htx; have cqx : wx.cell? ⟨q, s, none⟩ = some (.int .i64 x) := (htx.cell (p := ⟨q, s, none⟩) (cell_lt c2') (show q ≠ g by omega)).trans c2'; have fqx : wx.frozen? ⟨q, s, none⟩ = false := (htx.frozen (p := ⟨q, s, none⟩) (cell_lt c2') (show g < q by omega)).trans f1; clear hsx htx))
                      go_wp2
                      go_roundw
                      case rel => exact ⟨s + 1, by omega, by go_num, d3_of (d3_store (d3_next (w := wp.drew) ⟨c1, d1, d2, HE1.out⟩ hgl hz3 ho1 hxb HSx.out HTx.out) hgl (Nat.le_refl _) hlt hsl hqo hq2 hxb _)⟩
                      case measure => simp [intOf]; omega
                · obtain rfl : s = t := by omega
                  go_wp2
                  go_roundw
                  case rel => exact ⟨k + 1, by omega, by go_num, HE⟩
                  case measure => simp [intOf]; omega
            · obtain rfl : k = t := by omega
              obtain ⟨R2, -, h2, -, -, h5, h6⟩ := HD.out
              go_wp2
              go_ret
              exact ⟨_, _, _, _, rfl, hn200, h2.own, h5, h6⟩
  · simp only [Bool.not_eq_true] at hq
    have HQ := Lib.hid hq
    clear hq
    go_wp2_with fail
    refine (sSquare_b _ _ _ R _ false HQ.out HO1.out.mat).mono ?_
    rintro e w' ⟨rfl, q, rfl⟩
    have hlt := HS1.out.lt
    go_wp2
    go_ret
    exact ⟨_, _, _, _, rfl, hn200, HO1.out.below (b_draws _ _), HS1.out.below ((b_draws w1 q).mono (by omega)), HT1.out.drewN q⟩
set_option maxRecDepth 100000 in
set_option maxHeartbeats 1000000 in
theorem drawCriticalArcs (a : Option Addr) (n cap : Nat) (w : World) (h : Bytes w a n) :
    Calls Tryz.prog 13 #[.slice a n cap] w (DrawnM w) := by
  have HB := Lib.hid h
  clear h
  go_enter Tryz.func13, Tryz.ntmps13
  go_wp2_with fail
  refine (from_ _ _ _ _ HB.out).mono ?_
  rintro e w1 ⟨rfl, hs1, hb1⟩
  have HS1 := Lib.hid hs1
  have HB1 := Lib.hid hb1
  clear hs1 hb1
  go_wp2_with fail
  refine (draw6 _ _ HS1.out).mono ?_
  rintro e w2 ⟨a2, n2, c2, R, rfl, -, ho, hs2, ht2⟩
  have HO := Lib.hid ho.mat
  have HB2 := Lib.hid (HB1.out.trans ht2.below)
  clear ho hs2 ht2
  go_wp2
  go_ret
  exact ⟨a2, n2, c2, R, rfl, HO.out, HB2.out⟩
end Go.Proofs.YtlljnfljcdljaabGreat.V
