/- The plus of a square matrix, in the program. -/
import Derived.Test.YthonlfjjgmmnpabClo1
namespace Go.Proofs.Ythonlfjjgmmnpab.V
open Go.RowKit

/-- A matrix and a sign are returned. -/
def CPost (r : List (List Int) × Bool) (w : World) (e : Ending) (w' : World) : Prop :=
  ∃ b n c, e = .returned (.tuple #[.slice b n c, .bool r.2]) ∧ OwnM w' w.heap.size (.slice b n c) r.1 ∧ Below w.heap.size w w'

set_option maxRecDepth 100000 in
set_option maxHeartbeats 4000000 in
theorem plusOf (a : Option Addr) (n cap : Nat) (R : List (List Int)) (w : World) (h : Sq w a n R) :
    Calls Try.prog 121 #[.slice a n cap] w (CPost (M.plusL R n) w) := by
  have HS := Lib.hid h
  obtain ⟨n1, n2⟩ := h.2.2.2
  have HSm : Hid (∀ i j, i < n → j < n → M.Sm 1000001000000 (M.ent R i j)) := h.2.2.1
  have HRe : Hid (M.mk n n (M.cfw (M.ent R) 0) = R) := by
    show _ = _
    have e := M.mk_self R n (fun i hi => h.2.1.2 i (by rw [← h.2.1.1]; exact hi))
    rw [h.2.1.1] at e
    exact e
  have hst : ∀ (w : World) (a : Addr) (f : Fn), (store a (.func f #[] #[])).run Try.prog w = stored Try.prog w a (.func f #[] #[]) .plain := fun w a f => run_store _ w a _ _ rfl
  clear h
  go_enter Try.func121, Try.ntmps121
  go_wp2_with fail
  refine (maxPlus _).mono ?_
  rintro e w1 ⟨rfl, hb1⟩
  obtain ⟨wb, hwb⟩ : ∃ wb, wb = w1.alloc (.cells #[.func (.func 115) #[] #[], .func (.func 117) #[] #[]] 108) := ⟨_, rfl⟩
  have HSB : Hid (wb.heap.size = w1.heap.size + 1) := by show _ = _; rw [hwb]; simp
  have HBW : Hid (Below w.heap.size w wb) := by show Below _ _ _; rw [hwb]; exact hb1.alloc hb1.size _
  have HK0 : Hid (wb.cell? ⟨w1.heap.size, 0, none⟩ = some (.func (.func 115) #[] #[])) := by show _ = _; rw [hwb]; simp [go_sem]
  have HK1 : Hid (wb.cell? ⟨w1.heap.size, 1, none⟩ = some (.func (.func 117) #[] #[])) := by show _ = _; rw [hwb]; simp [go_sem]
  have HWB := Lib.hid hwb
  clear hwb
  go_wp2_with fail
  rw [← HWB.out]
  clear hb1 HWB hst
  refine (copiedMatrix _ _ _ R n _ (HS.out.1.below HBW.out) HS.out.2.1 n1 n2 n1 n2).mono ?_
  rintro e w2 ⟨a2, cap2, rfl, hO, hb⟩
  rw [← HRe.out] at hO
  obtain ⟨g, -, -, -, -, rfl, -⟩ := hO.tri (rect_mk _ _ _) 0 0 0 (by omega) (by omega) (by omega)
  have HO0 := Lib.hid hO
  have HB0 := Lib.hid hb
  have hD0 : Hid (∀ m, m < 0 → M.cfw (M.ent R) m m m ≤ 0) := fun m hm => absurd hm (Nat.not_lt_zero m)
  have HP : ∀ wr, Below wb.heap.size wb wr → wr.cell? ⟨w1.heap.size, 0, none⟩ = some (.func (.func 115) #[] #[]) ∧ wr.cell? ⟨w1.heap.size, 1, none⟩ = some (.func (.func 117) #[] #[]) := fun wr hb => by
    have hlt : w1.heap.size < wb.heap.size := by have := HSB.out; omega
    rw [hb.cell (p := ⟨w1.heap.size, 0, none⟩) hlt, hb.cell (p := ⟨w1.heap.size, 1, none⟩) hlt]
    exact ⟨HK0.out, HK1.out⟩
  have HPH := Lib.hid HP
  clear hO hb HP
  go_wp2
  go_loopw [6, 14] (fun _ i wr => ∃ k : Nat, k ≤ n ∧ i = .int .i64 k ∧ OwnM wr wb.heap.size (.slice (some ⟨g, 0, none⟩) n cap2) (M.mk n n (M.cfw (M.ent R) k)) ∧ Below wb.heap.size wb wr ∧ Hid (∀ m, m < k → M.cfw (M.ent R) m m m ≤ 0)) (fun _ i _ => n - (intOf i).toNat)
  case atStart => exact ⟨0, Nat.zero_le _, rfl, HO0.out, HB0.out, hD0⟩
  case round =>
    obtain ⟨k, hk, rfl, hO, hb, HD⟩ := hrel
    obtain ⟨wo, rfl⟩ : ∃ x, x = wr := ⟨_, rfl⟩
    have HO := Lib.hid hO
    have HB := Lib.hid hb
    clear hO hb HO0 HB0 hD0
    by_cases hlt : k < n
    · have hki : (k : Int) < (n : Int) := by omega
      obtain ⟨g2, q, c, -, -, hgg, -, h1, h2, -⟩ := HO.out.tri (rect_mk _ _ _) k k k hlt hlt hlt
      injection hgg with hgg
      injection hgg with hgg
      subst hgg
      rw [M.ent_mk _ _ _ _ _ hlt hlt] at h2
      obtain ⟨d, hd⟩ : ∃ d, d = M.cfw (M.ent R) k k k := ⟨_, rfl⟩
      rw [← hd] at h2
      by_cases hp : 0 < d
      · have HF : Hid (M.plusL R n = ([], false)) := by
          show _ = _; unfold M.plusL; rw [M.noPos_f hlt (by rw [← hd]; omega)]; rfl
        clear hd
        go_wp2
        go_ret2
        rw [HF.out]
        exact ⟨none, 0, 0, rfl, ownM_nil _ _, HBW.out.trans (HB.out.mono HBW.out.size)⟩
      · have hp2 : d ≤ 0 := by omega
        have HDk : Hid (M.cfw (M.ent R) k k k ≤ 0) := by show _ ≤ _; rw [← hd]; exact hp2
        have HD2 : Hid (∀ m, m < k + 1 → M.cfw (M.ent R) m m m ≤ 0) := fun m hm => by
          by_cases e : m = k
          · subst e; exact HDk.out
          · exact HD.out m (by omega)
        have HO2 : Hid (OwnM wo wb.heap.size (.slice (some ⟨g, 0, none⟩) n cap2) (M.mk n n (M.midF (M.ent R) k 0 0))) := by
          show OwnM _ _ _ _; rw [M.mid_zero]; exact HO.out
        clear hd HD HO
        go_wp2
        clear h1 h2
        go_loopw [7, 27] (fun _ i wr => ∃ s : Nat, s ≤ n ∧ i = .int .i64 s ∧ OwnM wr wb.heap.size (.slice (some ⟨g, 0, none⟩) n cap2) (M.mk n n (M.midF (M.ent R) k s 0)) ∧ Below wb.heap.size wb wr) (fun _ i _ => n - (intOf i).toNat)
        case atStart => exact ⟨0, Nat.zero_le _, rfl, HO2.out, HB.out⟩
        case round =>
          obtain ⟨s, hs, rfl, hO, hb⟩ := hrel
          obtain ⟨wp, rfl⟩ : ∃ x, x = wr := ⟨_, rfl⟩
          have HOs := Lib.hid hO
          have HBs := Lib.hid hb
          clear hO hb HO2 HB
          by_cases hsl : s < n
          · have hsi : (s : Int) < (n : Int) := by omega
            go_wp2
            go_loopw [8, 32] (fun _ j wr => ∃ t : Nat, t ≤ n ∧ j = .int .i64 t ∧ OwnM wr wb.heap.size (.slice (some ⟨g, 0, none⟩) n cap2) (M.mk n n (M.midF (M.ent R) k s t)) ∧ Below wb.heap.size wb wr) (fun _ j _ => n - (intOf j).toNat)
            case atStart => exact ⟨0, Nat.zero_le _, rfl, HOs.out, HBs.out⟩
            case round =>
              obtain ⟨t, ht, rfl, hO, hb⟩ := hrel
              have HOt := Lib.hid hO
              have HBt := Lib.hid hb
              clear hO hb HOs HBs
              by_cases htl : t < n
              · have hti : (t : Int) < (n : Int) := by omega
                obtain ⟨g2, q, c, q', c', hgg, hq, h1, h2, h3, h4, h5, h6, ho⟩ := HOt.out.tri (rect_mk _ _ _) s t k hsl htl hlt
                injection hgg with hgg
                injection hgg with hgg
                subst hgg
                rw [M.ent_mk _ _ _ _ _ hsl htl] at h2
                rw [M.ent_mk _ _ _ _ _ hsl hlt, M.mid_col n2 HSm.out hlt (fun m hm => HD2.out m (by omega)) HDk.out hsl] at h3
                rw [M.ent_mk _ _ _ _ _ hlt htl, M.mid_row n2 HSm.out hlt (fun m hm => HD2.out m (by omega)) HDk.out htl] at h5
                have e0 : M.midF (M.ent R) k s t s t = M.cfw (M.ent R) k s t := by unfold M.midF; rw [if_neg (by omega)]
                rw [e0] at h2
                obtain ⟨p0, p1⟩ := HPH.out _ HBt.out
                have HB1 : Hid (M.Big (M.cfw (M.ent R) k s k)) := M.big_sm (M.cfw_big n2 HSm.out (by omega) (fun m hm => HD2.out m (by omega)) s k hsl hlt) (by omega)
                have HB2 : Hid (M.Big (M.cfw (M.ent R) k k t)) := M.big_sm (M.cfw_big n2 HSm.out (by omega) (fun m hm => HD2.out m (by omega)) k t hlt htl) (by omega)
                obtain ⟨x, hx⟩ : ∃ x, x = M.cfw (M.ent R) k s t := ⟨_, rfl⟩
                obtain ⟨y, hy⟩ : ∃ y, y = M.cfw (M.ent R) k s k := ⟨_, rfl⟩
                obtain ⟨z, hz⟩ : ∃ z, z = M.cfw (M.ent R) k k t := ⟨_, rfl⟩
                rw [← hx] at h2
                rw [← hy] at h3 HB1
                rw [← hz] at h5 HB2
                obtain ⟨u, hu⟩ : ∃ u, u = M.times y z := ⟨_, rfl⟩
                obtain ⟨v, hv⟩ : ∃ v, v = max x u := ⟨_, rfl⟩
                have hv2 : v = M.cfw (M.ent R) (k + 1) s t := by rw [hv, hu, hx, hy, hz]; rfl
                have hN := ho v
                rw [hv2, M.mid_next _ _ _ _ _ hsl, ← hv2] at hN
                have HN := Lib.hid hN
                have HC1 : ∀ w : World, Calls Try.prog 117 #[.int .i64 y, .int .i64 z] w fun e w' => e = .returned (.int .i64 u) ∧ w = w' := by
                  intro w
                  rw [hu]
                  exact clTimes _ _ _ HB1.out HB2.out
                have HC2 : ∀ w : World, Calls Try.prog 115 #[.int .i64 x, .int .i64 u] w fun e w' => e = .returned (.int .i64 v) ∧ w = w' := by
                  intro w
                  rw [hv]
                  exact clPlus _ _ _
                clear hx hy hz hu hv hv2 hN ho e0
                go_wp2
                go_still_tail 33, (by kernel_rfl)
                still_call (st_of (HC1 _))
                repeat still_step
                still_call (st_of (HC2 _))
                repeat still_step
                refine wpStill_nil ?_
                change wpList _ _ _ _ _ wr.drew
                go_wp2
                go_roundw
                case rel => exact ⟨t + 1, by omega, by go_num, HN.out.keep (fun _ _ _ => rfl), HBt.out.drew.setCell hq _⟩
                case measure => simp [intOf]; omega
              · obtain rfl : t = n := by omega
                have HO3 : Hid (OwnM wr wb.heap.size (.slice (some ⟨g, 0, none⟩) t cap2) (M.mk t t (M.midF (M.ent R) k (s + 1) 0))) := by
                  show OwnM _ _ _ _; rw [← M.mid_row_end]; exact HOt.out
                clear HOt
                go_wp2
                go_roundw
                case rel => exact ⟨s + 1, by omega, by go_num, HO3.out, HBt.out⟩
                case measure => simp [intOf]; omega
          · obtain rfl : s = n := by omega
            have HO3 : Hid (OwnM wp wb.heap.size (.slice (some ⟨g, 0, none⟩) s cap2) (M.mk s s (M.cfw (M.ent R) (k + 1)))) := by
              show OwnM _ _ _ _; rw [← M.mid_end]; exact HOs.out
            clear HOs
            go_wp2
            go_roundw
            case rel => exact ⟨k + 1, by omega, by go_num, HO3.out, HBs.out, HD2⟩
            case measure => simp [intOf]; omega
    · obtain rfl : k = n := by omega
      have HF : Hid (M.plusL R k = (M.plusM R k, true)) := by
        show _ = _; unfold M.plusL; rw [M.noPos_of HD.out]; rfl
      go_wp2
      go_ret2
      rw [HF.out]
      exact ⟨_, _, _, rfl, HO.out.mono HBW.out.size, HBW.out.trans (HB.out.mono HBW.out.size)⟩
end Go.Proofs.Ythonlfjjgmmnpab.V
