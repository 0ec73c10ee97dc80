/- Texts laid together: Sh2, ShX, Pth3, Pth4, Pth6, Mean3. -/
import Derived.Test.YtcofjjipjcekjaaGreatQy5
import Derived.Test.YtcofjjipjcekjaaGreatQy4
import Derived.Test.YtcofjjipjcekjaaGreatRows
import Derived.Test.YtcofjjipjcekjaaGreatQy1
import Derived.Test.YtcofjjipjcekjaaGreatQy2
import Derived.WalkKit
import Derived.ProofKit
import Derived.WalkSmall
import Derived.Deep.QuietTactic
import Derived.BigQuiet
import Derived.BigRegion
import Derived.Deep.Draws
import Derived.Deep.RegionWith
import Derived.Deep.RegionHeld3
import Derived.Lib.Hide
import Derived.IntWalk
import Derived.OpenShut
import Derived.Deep.OwnRows
import Derived.Deep.AppendLies
set_option linter.unusedSimpArgs false
set_option linter.unusedVariables false
set_option linter.unusedSectionVars false
namespace Go.Proofs.YtcofjjipjcekjaaGreat
namespace M
/-- A matrix that is being written: the entries before i, j are the new ones. -/
def midG (f g : Nat → Nat → Int) (i j s t : Nat) : Int := if s < i ∨ (s = i ∧ t < j) then f s t else g s t
theorem midG_next (f g : Nat → Nat → Int) (n i j : Nat) (hi : i < n) :
    (mk n n (midG f g i j)).set i (((mk n n (midG f g i j)).getD i []).set j (f i j)) = mk n n (midG f g i (j + 1)) := by
  rw [mk_set _ _ _ _ _ _ hi]
  refine mk_congr fun s _ t _ => ?_
  unfold midG
  by_cases e : s = i
  · subst e
    rw [if_pos rfl]
    by_cases e2 : t = j
    · subst e2; rw [if_pos rfl, if_pos (by omega)]
    · rw [if_neg e2]
      by_cases e3 : t < j
      · rw [if_pos (by omega), if_pos (by omega)]
      · rw [if_neg (by omega), if_neg (by omega)]
  · rw [if_neg e]
    by_cases e3 : s < i
    · rw [if_pos (by omega), if_pos (by omega)]
    · rw [if_neg (by omega), if_neg (by omega)]
/-- An entry that stays. -/
theorem midG_same (f g : Nat → Nat → Int) (n i j : Nat) (h : f i j = g i j) : mk n n (midG f g i j) = mk n n (midG f g i (j + 1)) :=
  mk_congr fun s _ t _ => by
    unfold midG
    by_cases e : s < i ∨ (s = i ∧ t < j)
    · rw [if_pos e, if_pos (by omega)]
    · by_cases e2 : s = i ∧ t = j
      · obtain ⟨rfl, rfl⟩ := e2
        rw [if_neg e, if_pos (by omega), h]
      · rw [if_neg e, if_neg (by omega)]
theorem midG_row_end (f g : Nat → Nat → Int) (n i : Nat) : mk n n (midG f g i n) = mk n n (midG f g (i + 1) 0) :=
  mk_congr fun s _ t ht => by
    unfold midG
    by_cases e : s < i ∨ (s = i ∧ t < n)
    · rw [if_pos e, if_pos (by omega)]
    · rw [if_neg e, if_neg (by omega)]
theorem midG_zero (f g : Nat → Nat → Int) (n : Nat) : mk n n (midG f g 0 0) = mk n n g :=
  mk_congr fun s _ t _ => by unfold midG; rw [if_neg (by omega)]
theorem midG_end (f g : Nat → Nat → Int) (n : Nat) : mk n n (midG f g n 0) = mk n n f :=
  mk_congr fun s hs t _ => by unfold midG; rw [if_pos (by omega)]
theorem midG_at (f g : Nat → Nat → Int) (i j : Nat) : midG f g i j i j = g i j := by unfold midG; rw [if_neg (by omega)]
end M
namespace V
open Go.RowKit
abbrev rbox (a b : Int) : Obj := .cells #[.int .i64 a, .int .i64 b] 28
/-- The row's own block is not that of the rows. -/
theorem row_ne {w : World} {g q : Nat} {t : Nat} {x : Int} {a : Option Addr} {n c : Nat} (h1 : w.cell? ⟨q, t, none⟩ = some (.int .i64 x)) (h2 : w.cell? ⟨g, t, none⟩ = some (.slice a n c)) : q ≠ g := by
  rintro rfl
  rw [h1] at h2
  cases h2
set_option maxRecDepth 100000 in
set_option maxHeartbeats 4000000 in
theorem shiftedBy (a : Option Addr) (n cap : Nat) (R : List (List Int)) (num den : Int) (w0 : World) (h : Mat w0 a n R) (hr : Rect R n n) (n1 : 1 ≤ n) (n2 : n ≤ 10) (hs : ∀ i j, i < n → j < n → M.Sm 1000000 (M.ent R i j)) (hab : M.Near num den) :
    Calls Tryz.prog 39 #[.slice a n cap, .agg #[.int .i64 num, .int .i64 den]] w0 (MPost n (M.mk n n (M.shf (M.ent R) num den)) w0) := by
  obtain ⟨w, hwd⟩ : ∃ w, w = w0.alloc (rbox num den) := ⟨_, rfl⟩
  have HW0 : Hid (Below w0.heap.size w0 w) := by rw [hwd]; exact b_alloc _ _
  have HA : Hid (Mat w a n R) := h.below HW0.out
  have HR := Lib.hid hr
  have HS := Lib.hid hs
  have HN := Lib.hid hab
  have hLx : w.heap.size = w0.heap.size + 1 := by rw [hwd]; simp
  have HC0 : Hid (w.cell? ⟨w0.heap.size, 0, none⟩ = some (.int .i64 num)) := by show _ = _; rw [hwd]; simp
  have HC1 : Hid (w.cell? ⟨w0.heap.size, 1, none⟩ = some (.int .i64 den)) := by show _ = _; rw [hwd]; simp
  have HRe : Hid (M.mk n n (M.midG (M.shf (M.ent R) num den) (M.ent R) 0 0) = R) := by
    show _ = _
    rw [M.midG_zero]
    have e := M.mk_self R n (fun i hi => hr.2 i (by rw [← hr.1]; exact hi))
    rw [hr.1] at e
    exact e
  clear h hr hs hab
  go_enter Tryz.func39, Tryz.ntmps39
  go_wp2_with fail
  simp only [← hwd] at *
  obtain ⟨Lx, hLxd⟩ : ∃ Lx, Lx = w0.heap.size := ⟨_, rfl⟩
  rw [← hLxd] at hLx HC0 HC1 ⊢
  clear hwd
  refine (copiedMatrix _ _ _ R n _ HA.out HR.out n1 n2 n1 n2).mono ?_
  rintro e w2 ⟨a2, cap2, rfl, hO, hb⟩
  rw [← HRe.out] at hO
  obtain ⟨g, -, -, -, -, rfl, -⟩ := hO.tri (rect_mk _ _ _) 0 0 0 (by omega) (by omega) (by omega)
  have HO0 := Lib.hid hO
  have HB0 := Lib.hid hb
  clear hO hb
  have HX : Hid (∀ wr, Below w.heap.size w wr → wr.cell? ⟨Lx, 0, none⟩ = some (.int .i64 num) ∧ wr.cell? ⟨Lx, 1, none⟩ = some (.int .i64 den)) := fun wr hb =>
    ⟨(hb.cell (p := ⟨Lx, 0, none⟩) (by show Lx < _; omega)).trans HC0.out, (hb.cell (p := ⟨Lx, 1, none⟩) (by show Lx < _; omega)).trans HC1.out⟩
  clear hLxd
  go_wp2
  go_loopw [7, 14] (fun _ i wr => ∃ s : Nat, s ≤ n ∧ i = .int .i64 s ∧ OwnM wr w.heap.size (.slice (some ⟨g, 0, none⟩) n cap2) (M.mk n n (M.midG (M.shf (M.ent R) num den) (M.ent R) s 0)) ∧ Below w.heap.size w wr) (fun _ i _ => n - (intOf i).toNat)
  case atStart => exact ⟨0, Nat.zero_le _, rfl, HO0.out, HB0.out⟩
  case round =>
    obtain ⟨s, hs, rfl, hO, hb⟩ := hrel
    obtain ⟨wp, rfl⟩ : ∃ x, x = wr := ⟨_, rfl⟩
    have HOs := Lib.hid hO
    have HBs := Lib.hid hb
    clear hO hb HO0 HB0
    by_cases hsl : s < n
    · have hsi : (s : Int) < (n : Int) := by omega
      obtain ⟨g2, q, c, -, -, hgg, -, hrow, -⟩ := HOs.out.tri (rect_mk _ _ _) s 0 0 hsl (by omega) (by omega)
      injection hgg with hgg
      injection hgg with hgg
      subst hgg
      have HRow := Lib.hid hrow
      go_wp2
      clear hrow
      go_loopw [8, 9, 20] (fun _ _ j wr => ∃ t : Nat, t ≤ n ∧ j = .int .i64 t ∧ wr.cell? ⟨g, s, none⟩ = some (.slice (some ⟨q, 0, none⟩) n c) ∧ OwnM wr w.heap.size (.slice (some ⟨g, 0, none⟩) n cap2) (M.mk n n (M.midG (M.shf (M.ent R) num den) (M.ent R) s t)) ∧ Below w.heap.size w wr) (fun _ _ j _ => n - (intOf j).toNat)
      case atStart => exact ⟨0, Nat.zero_le _, rfl, HRow.out, HOs.out, HBs.out⟩
      case round =>
        obtain ⟨t, ht, rfl, hrow, hO, hb⟩ := hrel
        have HOt := Lib.hid hO
        have HBt := Lib.hid hb
        have HRt := Lib.hid hrow
        clear hO hb HOs HBs hrow HRow
        by_cases htl : t < n
        · have hti : (t : Int) < (n : Int) := by omega
          obtain ⟨g2, q2, c2, q', c', hgg, hq, h1, h2, -, h4, -, h6, ho⟩ := HOt.out.tri (rect_mk _ _ _) s t t hsl htl htl
          injection hgg with hgg
          injection hgg with hgg
          subst hgg
          rw [HRt.out] at h1
          injection h1 with h1
          injection h1 with h1 _ h1c
          injection h1 with h1
          injection h1 with h1
          subst h1
          rw [M.ent_mk _ _ _ _ _ hsl htl, M.midG_at] at h2
          have hne := row_ne h2 h4
          obtain ⟨x, hx⟩ : ∃ x, x = M.ent R s t := ⟨_, rfl⟩
          rw [← hx] at h2
          obtain ⟨p0, p1⟩ := HX.out _ HBt.out
          by_cases hxb : x = -1000000000000000
          · have e : M.shf (M.ent R) num den s t = M.ent R s t := by unfold M.shf; rw [if_pos (by rw [← hx]; exact hxb), ← hx, hxb]
            have HO3 : Hid (OwnM wr w.heap.size (.slice (some ⟨g, 0, none⟩) n cap2) (M.mk n n (M.midG (M.shf (M.ent R) num den) (M.ent R) s (t + 1)))) := by
              show OwnM _ _ _ _; rw [← M.midG_same _ _ _ _ _ e]; exact HOt.out
            clear ho hx e h4 h6
            subst hxb
            go_wp2
            go_roundw
            case rel => exact ⟨t + 1, by omega, by go_num, HRt.out, HO3.out, HBt.out⟩
            case measure => simp [intOf]; omega
          · obtain ⟨s1, s2, s3⟩ := M.shf_fin HN.out (HS.out s t hsl htl) (by rw [← hx]; exact hxb)
            rw [← hx] at s1 s2 s3
            have hN := ho (den * x - num)
            rw [← s1, M.midG_next _ _ _ _ _ hsl, s1] at hN
            have HNn := Lib.hid hN
            obtain ⟨n1', n2', n3'⟩ := HN.out
            have hxs : -1000000 ≤ x ∧ x ≤ 1000000 := by have := HS.out s t hsl htl; rw [← hx] at this; unfold M.Sm at this; omega
            have pa := Int.mul_le_mul_of_nonneg_left hxs.2 (show (0 : Int) ≤ den by omega)
            have pb := Int.mul_le_mul_of_nonneg_left hxs.1 (show (0 : Int) ≤ den by omega)
            have e1 : IntKind.i64.wrap (den * x) = den * x := IntWalk.i64_in _ (by omega)
            have e2 : IntKind.i64.wrap (den * x - num) = den * x - num := IntWalk.i64_in _ (by omega)
            have hxn : (x == -1000000000000000) = false := by simpa using hxb
            have hkeep : (wr.setCell ⟨q, t, none⟩ (.int .i64 (den * x - num))).cell? ⟨g, s, none⟩ = some (.slice (some ⟨q, 0, none⟩) n c) := by
              rw [World.cell?_of_block (w := wr) (a := ⟨g, s, none⟩) (Below.heap_setCell wr ⟨q, t, none⟩ _ g (Ne.symm hne))]; exact HRt.out
            have HKeep := Lib.hid hkeep
            clear hN ho hx s1 s2 s3 hxs pa pb hkeep h4 n1' n2' n3'
            go_wp2
            go_roundw
            case rel => exact ⟨t + 1, by omega, by go_num, HKeep.out, HNn.out, HBt.out.setCell hq _⟩
            case measure => simp [intOf]; omega
        · obtain rfl : t = n := by omega
          have HO3 : Hid (OwnM wr w.heap.size (.slice (some ⟨g, 0, none⟩) t cap2) (M.mk t t (M.midG (M.shf (M.ent R) num den) (M.ent R) (s + 1) 0))) := by
            show OwnM _ _ _ _; rw [← M.midG_row_end]; exact HOt.out
          clear HOt
          go_wp2
          go_roundw
          case rel => exact ⟨s + 1, by omega, by go_num, HO3.out, HBt.out⟩
          case measure => simp [intOf]; omega
    · obtain rfl : s = n := by omega
      have HO3 : Hid (OwnM wp w.heap.size (.slice (some ⟨g, 0, none⟩) s cap2) (M.mk s s (M.shf (M.ent R) num den))) := by
        show OwnM _ _ _ _; rw [← M.midG_end]; exact HOs.out
      clear HOs
      go_wp2
      go_ret
      exact ⟨_, _, rfl, HO3.out.mono HW0.out.size, HW0.out.trans (HBs.out.mono HW0.out.size)⟩
end V
end Go.Proofs.YtcofjjipjcekjaaGreat

namespace Go.Proofs.YtcofjjipjcekjaaGreat.V
open Go.RowKit
theorem isRatio_b (n d : Int) (b : Bool) (hb : M.isRat n d = b) (w : World) :
    Calls Tryz.prog 76 #[.agg #[.int .i64 n, .int .i64 d]] w fun e w' => e = .returned (.bool b) ∧ Below w.heap.size w w' := by
  subst hb; exact isRatio n d w
theorem sIsRatio_b (n d : Int) (b : Bool) (hb : M.isRat n d = b) (w : World) :
    Calls Tryz.prog 79 #[.agg #[.int .i64 n, .int .i64 d]] w fun e w' => e = .returned (.bool b) ∧ Below w.heap.size w w' := by
  subst hb; exact sIsRatio n d w
/-- A boxed ratio and what becomes of it. -/
structure Boxed (w0 w : World) (num den : Int) : Prop where
  below : Below w0.heap.size w0 w
  size : w.heap.size = w0.heap.size + 1
  c0 : w.cell? ⟨w0.heap.size, 0, none⟩ = some (.int .i64 num)
  c1 : w.cell? ⟨w0.heap.size, 1, none⟩ = some (.int .i64 den)
theorem boxed (w0 : World) (num den : Int) : Boxed w0 (w0.alloc (rbox num den)) num den := ⟨b_alloc _ _, by simp, by simp, by simp⟩
theorem Boxed.cells {w0 w wr : World} {num den : Int} (h : Boxed w0 w num den) (hb : Below w.heap.size w wr) : wr.cell? ⟨w0.heap.size, 0, none⟩ = some (.int .i64 num) ∧ wr.cell? ⟨w0.heap.size, 1, none⟩ = some (.int .i64 den) := by
  have := h.size
  exact ⟨(hb.cell (p := ⟨w0.heap.size, 0, none⟩) (by show w0.heap.size < _; omega)).trans h.c0, (hb.cell (p := ⟨w0.heap.size, 1, none⟩) (by show w0.heap.size < _; omega)).trans h.c1⟩
theorem Boxed.trans {w0 w wr : World} {num den : Int} (h : Boxed w0 w num den) (hb : Below w.heap.size w wr) : Below w0.heap.size w0 wr := h.below.trans (hb.mono h.below.size)
theorem sq_parts {w : World} {a : Option Addr} {n : Nat} {R : List (List Int)} (h : Mat w a n R) (hs : M.sqB R = true) : Rect R n n ∧ 1 ≤ n ∧ n ≤ 10 ∧ ∀ i j, i < n → j < n → M.Sm 1000000 (M.ent R i j) := by
  have hq := sq_of h hs
  have e := (M.sq_sm hs).2.2
  rw [h.1] at e
  exact ⟨hq.2.1, hq.2.2.2.1, hq.2.2.2.2, e⟩
set_option maxRecDepth 100000 in
set_option maxHeartbeats 4000000 in
theorem sShift (a : Option Addr) (n cap : Nat) (R : List (List Int)) (num den : Int) (w0 : World) (h : Mat w0 a n R) (hr : Rect R n n) (n1 : 1 ≤ n) (n2 : n ≤ 10) (hs : ∀ i j, i < n → j < n → M.Sm 1000000 (M.ent R i j)) (hab : M.Near num den) :
    Calls Tryz.prog 31 #[.slice a n cap, .agg #[.int .i64 num, .int .i64 den]] w0 (MPost n (M.mk n n (M.shf (M.ent R) num den)) w0) := by
  obtain ⟨w, hwd⟩ : ∃ w, w = w0.alloc (rbox num den) := ⟨_, rfl⟩
  have HX : Hid (Boxed w0 w num den) := by show Boxed _ _ _ _; rw [hwd]; exact boxed _ _ _
  have HA : Hid (Mat w a n R) := h.below HX.out.below
  have hz := HX.out.size
  have HR := Lib.hid hr
  have HS := Lib.hid hs
  have HN := Lib.hid hab
  have HRe : Hid (M.mk n n (M.midG (M.shf (M.ent R) num den) (M.ent R) 0 0) = R) := by
    show _ = _
    rw [M.midG_zero]
    have e := M.mk_self R n (fun i hi => hr.2 i (by rw [← hr.1]; exact hi))
    rw [hr.1] at e
    exact e
  obtain ⟨b, off, -, -, rfl, -, -⟩ := HA.out.rect_first hr (by omega)
  clear h hr hs hab
  go_enter Tryz.func31, Tryz.ntmps31
  go_wp2_with fail
  simp only [← hwd] at *
  clear hwd
  refine (sOwnM _ _ _ R _ HA.out (by omega) (fun i hi => by rw [HR.out.2 i hi]; omega)).mono ?_
  rintro e w2 ⟨a2, cap2, rfl, hO, hb⟩
  rw [← HRe.out] at hO
  obtain ⟨g, -, -, -, -, rfl, -⟩ := hO.tri (rect_mk _ _ _) 0 0 0 (by omega) (by omega) (by omega)
  have HO0 := Lib.hid hO
  have HB0 := Lib.hid hb
  clear hO hb
  go_wp2
  go_loopw [6] (fun i wr => ∃ s : Nat, s ≤ n ∧ i = .int .i64 s ∧ OwnM wr w.heap.size (.slice (some ⟨g, 0, none⟩) n cap2) (M.mk n n (M.midG (M.shf (M.ent R) num den) (M.ent R) s 0)) ∧ Below w.heap.size w wr) (fun i _ => n - (intOf i).toNat)
  case atStart => exact ⟨0, Nat.zero_le _, rfl, HO0.out, HB0.out⟩
  case round =>
    obtain ⟨s, hs, rfl, hO, hb⟩ := hrel
    obtain ⟨wp, rfl⟩ : ∃ x, x = wr := ⟨_, rfl⟩
    have HOs := Lib.hid hO
    have HBs := Lib.hid hb
    clear hO hb HO0 HB0
    by_cases hsl : s < n
    · have hsi : (s : Int) < (n : Int) := by omega
      go_wp2
      go_loopw [7] (fun j wr => ∃ t : Nat, t ≤ n ∧ j = .int .i64 t ∧ OwnM wr w.heap.size (.slice (some ⟨g, 0, none⟩) n cap2) (M.mk n n (M.midG (M.shf (M.ent R) num den) (M.ent R) s t)) ∧ Below w.heap.size w wr) (fun j _ => n - (intOf j).toNat)
      case atStart => exact ⟨0, Nat.zero_le _, rfl, HOs.out, HBs.out⟩
      case round =>
        obtain ⟨t, ht, rfl, hO, hb⟩ := hrel
        have HOt := Lib.hid hO
        have HBt := Lib.hid hb
        clear hO hb HOs HBs
        by_cases htl : t < n
        · have hti : (t : Int) < (n : Int) := by omega
          obtain ⟨g2, q, c, q', c', hgg, hq, h1, h2, -, -, -, h6, ho⟩ := HOt.out.tri (rect_mk _ _ _) s t t hsl htl htl
          injection hgg with hgg
          injection hgg with hgg
          subst hgg
          obtain ⟨d, od, rd, ro, c4, x, hdd, hx, c41, c42⟩ := (HA.out.below HBt.out).rect_ent HR.out s t hsl htl
          injection hdd with hdd
          injection hdd with e1 e2
          subst e1 e2
          obtain ⟨p0, p1⟩ := HX.out.cells HBt.out
          by_cases hxb : x = -1000000000000000
          · have e : M.shf (M.ent R) num den s t = M.ent R s t := by unfold M.shf; rw [if_pos (by rw [← hx]; exact hxb), ← hx, hxb]
            have HO3 : Hid (OwnM wr w.heap.size (.slice (some ⟨g, 0, none⟩) n cap2) (M.mk n n (M.midG (M.shf (M.ent R) num den) (M.ent R) s (t + 1)))) := by
              show OwnM _ _ _ _; rw [← M.midG_same _ _ _ _ _ e]; exact HOt.out
            clear ho hx e h1 h2 h6
            subst hxb
            go_wp2
            go_roundw
            case rel => exact ⟨t + 1, by omega, by go_num, HO3.out, HBt.out⟩
            case measure => simp [intOf]; omega
          · obtain ⟨s1, s2, s3⟩ := M.shf_fin HN.out (HS.out s t hsl htl) (by rw [← hx]; exact hxb)
            rw [← hx] at s1 s2 s3
            have hN := ho (den * x - num)
            rw [← s1, M.midG_next _ _ _ _ _ hsl, s1] at hN
            have HNn := Lib.hid hN
            obtain ⟨n1', n2', n3'⟩ := HN.out
            have hxs : -1000000 ≤ x ∧ x ≤ 1000000 := by have := HS.out s t hsl htl; rw [← hx] at this; unfold M.Sm at this; omega
            have pa := Int.mul_le_mul_of_nonneg_left hxs.2 (show (0 : Int) ≤ den by omega)
            have pb := Int.mul_le_mul_of_nonneg_left hxs.1 (show (0 : Int) ≤ den by omega)
            have e1 : IntKind.i64.wrap (den * x) = den * x := IntWalk.i64_in _ (by omega)
            have e2 : IntKind.i64.wrap (den * x - num) = den * x - num := IntWalk.i64_in _ (by omega)
            have hxn : (x == -1000000000000000) = false := by simpa using hxb
            clear hN ho hx s1 s2 s3 hxs pa pb n1' n2' n3'
            go_wp2
            go_still_tail 19, (by kernel_rfl)
            repeat still_step
            try refine wpStill_nil ?_
            change wpList _ _ _ _ _ wr.drew
            go_wp2
            go_roundw
            case rel => exact ⟨t + 1, by omega, by go_num, HNn.out.keep (fun _ _ _ => rfl), HBt.out.drew.setCell hq _⟩
            case measure => simp [intOf]; omega
        · obtain rfl : t = n := by omega
          have HO3 : Hid (OwnM wr w.heap.size (.slice (some ⟨g, 0, none⟩) t cap2) (M.mk t t (M.midG (M.shf (M.ent R) num den) (M.ent R) (s + 1) 0))) := by
            show OwnM _ _ _ _; rw [← M.midG_row_end]; exact HOt.out
          clear HOt
          go_wp2
          go_roundw
          case rel => exact ⟨s + 1, by omega, by go_num, HO3.out, HBt.out⟩
          case measure => simp [intOf]; omega
    · obtain rfl : s = n := by omega
      have HO3 : Hid (OwnM wp w.heap.size (.slice (some ⟨g, 0, none⟩) s cap2) (M.mk s s (M.shf (M.ent R) num den))) := by
        show OwnM _ _ _ _; rw [← M.midG_end]; exact HOs.out
      clear HOs
      go_wp2
      go_ret
      exact ⟨_, _, rfl, HO3.out.mono HX.out.below.size, HX.out.trans HBs.out⟩
end Go.Proofs.YtcofjjipjcekjaaGreat.V

namespace Go.Proofs.YtcofjjipjcekjaaGreat
namespace M
theorem shiftRes_ok (R : List (List Int)) (a b : Int) : okM (shiftRes R a b).1 := by
  unfold shiftRes
  split
  · split
    · next h => exact .inr h
    · exact .inl rfl
  · exact .inl rfl
theorem potRes_len (R : List (List Int)) (a b : Int) : (potRes R a b).1.length ≤ 10 := by
  unfold potRes
  split
  · split
    · split
      · next h => exact (isVec_t h).2.1
      · simp
    · simp
  · simp
theorem bestRes_len (R : List (List Int)) : (bestRes R).1.length ≤ 10 := by
  unfold bestRes
  split
  · split
    · next h1 h2 => exact (best_cyc h1 h2).2.2.2
    · simp
  · simp
end M
namespace V
open Go.RowKit
theorem low3 {w1 w2 : World} {P Q : Prop} (h : P ∧ Q ∧ Below w1.heap.size w1 w2) : Below w1.heap.size w1 w2 := h.2.2
theorem keep3 {w0 w1 w2 : World} {b i j : Nat} {x y : Value} (hb0 : b < w0.heap.size) (h : w1.cell? ⟨b, i, none⟩ = some x ∧ w1.cell? ⟨b, j, none⟩ = some y ∧ Below w0.heap.size w0 w1) (hb : Below w1.heap.size w1 w2) : w2.cell? ⟨b, i, none⟩ = some x ∧ w2.cell? ⟨b, j, none⟩ = some y ∧ Below w0.heap.size w0 w2 := by
  have := h.2.2.size
  exact ⟨(hb.cell (p := ⟨b, i, none⟩) (by show b < _; omega)).trans h.1, (hb.cell (p := ⟨b, j, none⟩) (by show b < _; omega)).trans h.2.1, h.2.2.trans (hb.mono this)⟩
end V
end Go.Proofs.YtcofjjipjcekjaaGreat

namespace Go.Proofs.YtcofjjipjcekjaaGreat.V
open Go.RowKit

theorem caps_own {w : World} {B n cap : Nat} {a : Option Addr} {l : List Int} (h : Own w B (.slice a n cap) l) : n ≤ cap ∧ cap ≤ maxLen := by
  obtain ⟨a', c', hv, h1, h2, _⟩ := own_form h
  injection hv with e1 e2 e3
  subst e2 e3
  exact ⟨h1, h2⟩
theorem has_snoc (l : List Int) (k : Nat) (h : k < l.length) (x : Int) : M.hasB (l.take (k + 1)) x = (M.hasB (l.take k) x || decide (x = l.getD k 0)) := by
  rw [M.take_snoc l k h, Bool.eq_iff_iff]
  simp [M.hasB, List.contains_iff_mem]

set_option maxRecDepth 100000 in
set_option maxHeartbeats 1000000 in
theorem areDifferent (n : Nat) (a' : Option Addr) (N cap' : Nat) (l : List Int) (w : World) (h' : Ints .i64 w a' N l) (hv : M.nodesB n l = true) (n2 : n ≤ 10) :
    Calls Tryz.prog 110 #[.slice a' N cap'] w fun e w' => e = .returned (.bool (M.diffB l)) ∧ Below w.heap.size w w' := by
  have HI := Lib.hid h'
  have HV := Lib.hid hv
  have HL := Lib.hid h'.1
  have hm := h'.2.1
  unfold maxLen at hm
  have hr0 : Hid ((w.alloc (.cells #[.bool false, .bool false, .bool false, .bool false, .bool false, .bool false, .bool false, .bool false, .bool false, .bool false] 107)).rowIs w.heap.size 107 10 (fun s => .bool (M.hasB (l.take 0) (s : Int)))) :=
    World.rowIs_alloc w _ _ _ (fun i hi => by
      have : i = 0 ∨ i = 1 ∨ i = 2 ∨ i = 3 ∨ i = 4 ∨ i = 5 ∨ i = 6 ∨ i = 7 ∨ i = 8 ∨ i = 9 := by simp at hi; omega
      rcases this with rfl | rfl | rfl | rfl | rfl | rfl | rfl | rfl | rfl | rfl <;> rfl)
  have hb0 : Hid (Below w.heap.size w (w.alloc (.cells #[.bool false, .bool false, .bool false, .bool false, .bool false, .bool false, .bool false, .bool false, .bool false, .bool false] 107))) := b_alloc w _
  have hd0 : Hid (∀ i, i < 0 → M.hasB (l.take i) (l.getD i 0) = false) := fun i hi => absurd hi (Nat.not_lt_zero i)
  clear h' hv
  go_enter Tryz.func110, Tryz.ntmps110
  go_wp2
  go_loopw [5, 8] (fun _ i wr => ∃ k : Nat, k ≤ N ∧ i = .int .i64 k ∧ wr.rowIs w.heap.size 107 10 (fun s => .bool (M.hasB (l.take k) (s : Int))) ∧ Below w.heap.size w wr ∧ Hid (∀ i, i < k → M.hasB (l.take i) (l.getD i 0) = false)) (fun _ i _ => N - (intOf i).toNat)
  case atStart => exact ⟨0, Nat.zero_le _, rfl, hr0.out, hb0.out, hd0⟩
  case round =>
    obtain ⟨k, hk, rfl, hR, hB, HD⟩ := hrel
    have HR := Lib.hid hR
    have HB := Lib.hid hB
    clear hR hB hr0 hb0 hd0
    by_cases hlt : k < N
    · have hki : (k : Int) < (N : Int) := by omega
      have hl := HL.out
      obtain ⟨b', off', x, rfl, hd, hx, c1⟩ := (HI.out.below HB.out).at k hlt
      have hb1 := M.nodesB_at HV.out (k := k) (by omega)
      have hv1 : x = ((M.vx l k : Nat) : Int) := by rw [hx]; unfold M.vx; omega
      have hw1 := M.vx_lt HV.out (k := k) (by omega)
      have hx2 : ((M.vx l k : Nat) : Int) = l.getD k 0 := by rw [← hv1, hx]
      generalize M.vx l k = u at hv1 hw1 hx2
      subst hv1
      have hu : u < 10 := by omega
      have hu2 : (u : Int) < 10 := by omega
      obtain ⟨q, hq⟩ : ∃ q, q = M.hasB (l.take k) (u : Int) := ⟨_, rfl⟩
      have hc := HR.out.cell (i := u) hu
      rw [← hq] at hc
      have hf := HR.out.frozen u
      cases q with
      | true =>
        have HF : Hid (M.diffB l = false) := M.diffB_f (i := k) (by omega) (by rw [← hx2]; exact hq.symm)
        clear hq hx hx2 hl hb1
        go_wp2
        go_ret
        exact ⟨retB HF.out.symm, HB.out⟩
      | false =>
        have HD2 : Hid (∀ i, i < k + 1 → M.hasB (l.take i) (l.getD i 0) = false) := fun i hi => by
          by_cases e : i = k
          · subst e; rw [← hx2]; exact hq.symm
          · exact HD.out i (by omega)
        have HR2 : Hid ((wr.setCell ⟨w.heap.size, u, none⟩ (.bool true)).rowIs w.heap.size 107 10 (fun s => .bool (M.hasB (l.take (k + 1)) (s : Int)))) :=
          (HR.out.set u (.bool true)).congr (fun s hs => by
            have := has_snoc l k (by have := HL.out; omega) (s : Int)
            show (if s = u then Value.bool true else Value.bool (M.hasB (l.take k) (s : Int))) = Value.bool (M.hasB (l.take (k + 1)) (s : Int))
            rw [this, ← hx2]
            by_cases e : s = u
            · subst e; simp
            · have e2 : ¬ ((s : Int) = (u : Int)) := by omega
              simp [e, e2])
        clear hq hx hx2 hl hb1 HD
        go_wp2
        go_roundw
        case rel => exact ⟨k + 1, by omega, by go_num, HR2.out, HB.out.setCell (Nat.le_refl _) _, HD2⟩
        case measure => simp [intOf]; omega
    · obtain rfl : k = N := by omega
      go_wp2
      go_ret
      exact ⟨retB (M.diffB_of (fun i hi => HD.out i (by have := HL.out; omega))).symm, HB.out⟩

set_option maxRecDepth 100000 in
set_option maxHeartbeats 400000 in
theorem sHas (a' : Option Addr) (N cap' : Nat) (l : List Int) (x : Int) (w : World) (h : Ints .i64 w a' N l) :
    Calls Tryz.prog 107 #[.slice a' N cap', .int .i64 x] w fun e w' => e = .returned (.bool (M.hasB l x)) ∧ w = w' := by
  obtain ⟨hl, hm, hr⟩ := h
  unfold maxLen at hm
  have HL := Lib.hid hl
  clear hl
  go_enter Tryz.func107, Tryz.ntmps107
  go_wp2
  go_loop [5] (fun i => ∃ k : Nat, k ≤ N ∧ i = .int .i64 k ∧ Hid (M.hasB (l.take k) x = false)) (fun i => N - (intOf i).toNat)
  case atStart => exact ⟨0, Nat.zero_le _, rfl, rfl⟩
  case round =>
    obtain ⟨k, hk, rfl, HA⟩ := hrel
    by_cases hlt : k < N
    · rcases hr with h0 | ⟨b, off, rfl, hbl, hc⟩
      · omega
      · have hck := hc k hlt
        have hsn := has_snoc l k (by have := HL.out; omega) x
        obtain ⟨y, hy⟩ : ∃ y, y = l.getD k 0 := ⟨_, rfl⟩
        rw [← hy] at hck hsn
        have HY := Lib.hid hy
        have HS := Lib.hid hsn
        clear hc hy hsn
        by_cases hv : y = x
        · subst hv
          have HF : Hid (M.hasB l y = true) := by
            show _ = _
            rw [M.hasB_iff]
            have : k < l.length := by have := HL.out; omega
            have e := HY.out
            simp only [List.getD_eq_getElem?_getD, List.getElem?_eq_getElem this, Option.getD_some] at e
            rw [e]; exact List.getElem_mem this
          go_wp2
          go_ret
          exact ⟨retB HF.out.symm, rfl⟩
        · have HA2 : Hid (M.hasB (l.take (k + 1)) x = false) := by
            show _ = _; rw [HS.out, HA.out]; simp; omega
          have hv2 : (y == x) = false := by simpa using hv
          go_wp2
          go_round
          case rel => exact ⟨k + 1, by omega, by go_num, HA2⟩
          case measure => simp [intOf]; omega
    · have hkn : k = N := by omega
      subst hkn
      have HT : Hid (l.take k = l) := M.take_all l k (by have := HL.out; omega)
      clear hr
      go_wp2
      go_ret
      exact ⟨retB (by have h2 := HA.out; rw [HT.out] at h2; exact h2.symm), rfl⟩
theorem ints_take {w : World} {a : Option Addr} {n : Nat} {l : List Int} (h : Ints .i64 w a n l) (k : Nat) (hk : k ≤ n) : Ints .i64 w a k (l.take k) := by
  obtain ⟨h1, h2, h3⟩ := h
  refine ⟨by rw [List.length_take]; omega, by omega, ?_⟩
  rcases h3 with h0 | ⟨b, off, rfl, hb, hc⟩
  · left; omega
  · right
    refine ⟨b, off, rfl, hb, fun i hi => ?_⟩
    rw [hc i (by omega)]
    simp [List.getD_eq_getElem?_getD, List.getElem?_take, hi]
end Go.Proofs.YtcofjjipjcekjaaGreat.V

namespace Go.Proofs.YtcofjjipjcekjaaGreat.V
open Go.RowKit

/-- One integer is appended to an owned list, at a step of a region. -/
theorem step_append1 (w : World) {ops : Array Oper} {o : Oper} {a : Act} {K : Act → World → Prop} {Q : Exit → Act → World → Prop} {E : Prop} (hgd : o.guard = none) (s x : Operand)
    (ho : o.op = .call { callee := .builtin .append, args := #[s, x], argTypes := #[26, 26] }) (B : Nat) (v : Value) (l : List Int) (y : Int) (g n : Nat) (hn : l.length = n) (hs : a.eval s = v) (hown : Own w B v l)
    (hx : a.eval x = .slice (some ⟨g, 0, none⟩) 1 1) (hy : w.cell? ⟨g, 0, none⟩ = some (.int .i64 y)) (hlen : n ≤ 2000000) (hB : B ≤ w.heap.size)
    (h : ∀ b' c' w', Own w' B (.slice b' (n + 1) c') (l ++ [y]) → Below B w w' → K (a.put o.dst (.slice b' (n + 1) c')) w') :
    if Region.wanted o (yielded ops a.tmps) = true then Oper.wp Tryz.prog o a w K Q else E := by
  subst hn
  obtain ⟨i0, hi, hz0, hz1, hz2⟩ := info_parts info64
  refine step_append_lies w hgd s x 26 ho B 2 i0 (.int .i64 0) 1 8 Tryz.underlying26 hi hz0 hz1 hz2 rfl (by decide) v l.length (l.map (Value.int .i64)) hs hown ⟨g, 0, none⟩ 1 1 [.int .i64 y] hx rfl ?c1 ?c2 (by decide) ?c3 ?c4 hB w.heap.size rfl ?_
  case c1 =>
    intro j u hj
    have : j = 0 := by
      cases j with
      | zero => rfl
      | succ j => simp at hj
    subst this
    simp at hj
    subst hj
    exact hy
  case c2 => intro u hu; simp at hu; subst hu; rfl
  case c3 => unfold maxLen; omega
  case c4 => omega
  · intro g' cap' w' hown' hgrow hat hlt
    have ho' : Own w' B (.slice (some ⟨g', 0, none⟩) (l.length + 1) cap') (l ++ [y]) := by
      show w'.ownsRow B _ 1 _ (l ++ [y]).length ((l ++ [y]).map (Value.int .i64))
      simpa using hown'
    exact h _ _ w' ho' ((Below.refl B w).grown hgrow hB (fun k hk => (own_lt hown hk).1))

theorem new_kept {wd w1 : World} {x : Int} (hb : Below (wd.alloc (.cells #[.int .i64 x] 2)).heap.size (wd.alloc (.cells #[.int .i64 x] 2)) w1) : w1.cell? ⟨wd.heap.size, 0, none⟩ = some (.int .i64 x) := by
  rw [hb.cell (p := ⟨wd.heap.size, 0, none⟩) (by simp)]
  simp
set_option maxRecDepth 100000 in
set_option maxHeartbeats 1000000 in
theorem sCycle (a : Option Addr) (n cap : Nat) (R : List (List Int)) (a' : Option Addr) (N cap' : Nat) (l : List Int) (w : World) (h : Sq w a n R) (h' : Ints .i64 w a' N l) (hc1 : N ≤ cap') (hc2 : cap' ≤ maxLen) :
    Calls Tryz.prog 92 #[.slice a n cap, .slice a' N cap'] w fun e w' => e = .returned (.tuple #[.int .i64 (M.cycleR R l).1, .bool (M.cycleR R l).2]) ∧ Below w.heap.size w w' := by
  have HM := Lib.hid hc2
  unfold maxLen at hc2
  have HS := Lib.hid h
  have HI := Lib.hid h'
  have HL := Lib.hid h'.1
  have HR := Lib.hid h.1.1
  obtain ⟨n1, n2⟩ := h.2.2.2
  by_cases h0 : N = 0
  · subst h0
    have HE : Hid (M.cycleR R l = (0, false)) := by show _ = _; unfold M.cycleR M.cycB; rw [HL.out]; simp
    clear h h'
    go_enter Tryz.func92, Tryz.ntmps92
    go_wp2
    go_ret2
    rw [HE.out]
    exact ⟨rfl, Below.refl _ _⟩
  · by_cases hv : M.nodesB n l = true
    · have HV := Lib.hid hv
      have hN : (N == 0) = false := by simpa using h0
      have hN2 : ((N : Int) == 0) = false := by simp; omega
      have hD0 : Hid (∀ i, i < 0 → M.hasB (l.take i) (l.getD i 0) = false) := fun i hi => absurd hi (Nat.not_lt_zero i)
      obtain ⟨b', off', x0, rfl, hd0, hx0, c0⟩ := h'.at 0 (by omega)
      have HD0 := Lib.hid hd0
      clear h h' hv hd0
      go_enter Tryz.func92, Tryz.ntmps92
      go_wp2_with (go_at_call 106; refine (sNodes_b _ n _ _ _ _ l _ true HV.out (by omega) HI.out).mono ?_; rintro e w' ⟨rfl, rfl⟩)
      go_loopw [6] (fun i wr => ∃ k : Nat, k ≤ N ∧ i = .int .i64 k ∧ Hid (∀ i, i < k → M.hasB (l.take i) (l.getD i 0) = false) ∧ ∃ q, wr = w.drewN q) (fun i _ => N - (intOf i).toNat)
      case atStart => exact ⟨0, Nat.zero_le _, rfl, hD0, 0, rfl⟩
      case round =>
        obtain ⟨k, hk, rfl, HD, q2, rfl⟩ := hrel
        clear hD0
        by_cases hlt : k < N
        · have hki : (k : Int) < (N : Int) := by omega
          have hkc : k ≤ cap' := by omega
          obtain ⟨d, od, x, hdd, hd, hx, c1⟩ := HI.out.at k hlt
          injection hdd with hdd
          injection hdd with e1 e2
          subst e1 e2
          obtain ⟨q, hq⟩ : ∃ q, q = M.hasB (l.take k) x := ⟨_, rfl⟩
          have HQ := Lib.hid hq
          have HX := Lib.hid hx
          have HC : ∀ q3, Calls Tryz.prog 107 #[.slice (some ⟨b', off', none⟩) k cap', .int .i64 x] (w.drewN q3) fun e w' => e = .returned (.bool q) ∧ w.drewN q3 = w' := by
            intro q3
            rw [HQ.out]
            exact sHas _ _ _ _ _ _ (ints_take (HI.out.below (b_draws w _)) k (by omega))
          clear hq hx hd
          cases q with
          | true =>
            have HF : Hid (M.cycleR R l = (0, false)) := by
              show _ = _; unfold M.cycleR M.cycB
              rw [M.diffB_f (i := k) (by have := HL.out; omega) (by rw [← HX.out]; exact HQ.out.symm)]; simp
            go_wp2
            go_quiet ((go_at_call 107; exact q_more_s (HC _)))
            go_wp2
            go_ret2
            rw [HF.out]
            exact ⟨rfl, below_drewN (b_draws _ _) _⟩
          | false =>
            have HD2 : Hid (∀ i, i < k + 1 → M.hasB (l.take i) (l.getD i 0) = false) := fun i hi => by
              by_cases e : i = k
              · subst e; rw [← HX.out]; exact HQ.out.symm
              · exact HD.out i (by omega)
            go_wp2
            go_quiet ((go_at_call 107; exact q_more_s (HC _)))
            go_wp2
            go_roundw
            case rel => exact ⟨k + 1, by omega, by go_num, HD2, _, rfl⟩
            case measure => simp [intOf]; omega
        · obtain rfl : k = N := by omega
          have hdf : M.diffB l = true := M.diffB_of (fun i hi => HD.out i (by have := HL.out; omega))
          have HDF := Lib.hid hdf
          have hN10 := M.diffB_len HV.out hdf
          rw [HL.out] at hN10
          clear hdf
          obtain ⟨wq, hwq⟩ : ∃ wq, wq = w.drewN q2 := ⟨_, rfl⟩
          have HIq : Hid (Ints .i64 wq.drew (some ⟨b', off', none⟩) k l) := by show Ints _ _ _ _ _; rw [hwq]; exact HI.out.below (b_draws _ _).drew
          have HBq : Hid (Below w.heap.size w wq.drew) := by show Below _ _ _; rw [hwq]; exact (b_draws _ _).drew
          have hcq : wq.cell? ⟨b', off', none⟩ = some (.int .i64 x0) := by rw [hwq]; simpa using c0
          have hbq : b' < wq.heap.size := by rw [hwq]; exact HD0.out
          have HX0 := Lib.hid hx0
          have HN1 : Hid (M.nodesB n (l ++ [x0]) = true) := by
            show _ = _
            have h1 := M.nodesB_at HV.out (k := 0) (by have := HL.out; omega)
            unfold M.nodesB
            rw [List.all_append]
            have e1 : l.all (M.inN n) = true := HV.out
            have e2 : M.inN n x0 = true := by rw [hx0]; unfold M.inN; rw [decide_eq_true h1.1, decide_eq_true h1.2]; rfl
            rw [e1]
            simp [e2]
          rw [← hwq]
          have hk0 : (0 : Int) < (k : Int) := by omega
          have hk00 : 0 < k := by omega
          have hbw : b' < w.heap.size := HD0.out
          have hz : w.heap.size ≤ wq.drew.heap.size := HBq.out.size
          have hz2 : w.heap.size ≤ wq.heap.size := hz
          have HBa : Hid (Below w.heap.size w (wq.alloc (.cells #[.int .i64 x0] 2)).drew) := (HBq.out.alloc hz (.cells #[.int .i64 x0] 2))
          have hz4 : w.heap.size ≤ (wq.alloc (.cells #[.int .i64 x0] 2)).drew.heap.size := HBa.out.size
          obtain ⟨r, hr⟩ : ∃ r, r = M.walkR R (l ++ [x0]) := ⟨_, rfl⟩
          have HW := Lib.hid hr
          have HF : Hid (M.cycleR R l = r) := by
            show _ = _
            have e := M.around_snoc R l (by have := HL.out; omega)
            rw [← hx0] at e
            rw [hr]
            unfold M.cycleR M.walkR M.cycB
            rw [e, HR.out, HV.out, HDF.out, HL.out]
            by_cases h5 : M.aroundW R l = -1000000000000000
            · simp [h5]
            · have : 1 ≤ k := by omega
              simp [h5, this]
          have HCW : ∀ (b2 : Option Addr) (c2 : Nat) (w2 : World), Below w.heap.size w w2 → Own w2 w.heap.size (.slice b2 (k + 1) c2) (l ++ [x0]) → Calls Tryz.prog 108 #[.slice a n cap, .slice b2 (k + 1) c2] w2 fun e w' => e = .returned (.tuple #[.int .i64 r.1, .bool r.2]) ∧ ∃ q, w' = w2.drewN q := by
            intro b2 c2 w2 hb ho
            rw [hr]
            exact sWalk _ n _ R _ (k + 1) _ (l ++ [x0]) _ (HS.out.below hb) ho.ints' HN1.out (by omega) (by omega)
          clear hwq hx0 c0 HI hr
          go_wp2_with fail
          go_region_held3 (fun w' => w'.cell? ⟨b', off', none⟩ = some (.int .i64 x0))
            (first | go_keep | exact (HB2.out.cell (p := ⟨b', off', none⟩) hbw).trans ‹_› | exact (HB1.out.cell (p := ⟨b', off', none⟩) (by simp; omega)).trans ‹_›)
            (first
              | (go_at_call 96; refine (sOwn _ _ _ l _ ?hh ?h1 ?h2).mono ?_; (case hh => (first | exact HIq.out | exact HIq.out.below (b_alloc _ _))); (case h1 => omega); (case h2 => omega); rintro e w1 ⟨b1, c1, rfl, ho, hb⟩; have HO := Lib.hid ho; have HB1 := Lib.hid hb; have hs1 := hb.size; simp at hs1; clear ho hb)
              | (go_at_call 108; refine (HCW _ _ _ ?hh HO2.out).mono ?_; (case hh => (first | exact ((HBq.out.trans (HB1.out.mono hz)).alloc (Nat.le_trans hz HB1.out.size) _).trans HB2.out | exact (HBa.out.trans (HB1.out.mono hz4)).trans HB2.out)); rintro e w3 ⟨rfl, q3, rfl⟩)
              | (refine step_append1 _ rfl _ _ rfl w.heap.size _ l x0 _ k HL.out rfl ?ho rfl ?hy ?hl ?hb ?_; (case ho => (first | exact HO.out.mono hz | exact HO.out.mono hz4 | exact (HO.out.below (b_alloc _ _)).mono hz)); (case hy => (first | (simp; done) | exact new_kept (wd := wq.drew) HB1.out)); (case hl => omega); (case hb => (first | omega | (simp; omega))); intro b2 c2 w2 ho hb; have HO2 := Lib.hid ho; have HB2 := Lib.hid hb; clear ho hb))
          all_goals
            go_wp2
            go_ret2
            refine ⟨?_, ?_⟩
            · rw [HF.out]; rfl
            · first | exact below_drewN (((HBq.out.trans (HB1.out.mono hz)).alloc (Nat.le_trans hz HB1.out.size) _).trans HB2.out) _ | exact below_drewN ((HBa.out.trans (HB1.out.mono hz4)).trans HB2.out) _
    · simp only [Bool.not_eq_true] at hv
      have HV := Lib.hid hv
      have hN : (N == 0) = false := by simpa using h0
      have hN2 : ((N : Int) == 0) = false := by simp; omega
      have HE : Hid (M.cycleR R l = (0, false)) := by show _ = _; unfold M.cycleR M.cycB; rw [HR.out, HV.out]; simp
      clear h h' hv
      go_enter Tryz.func92, Tryz.ntmps92
      go_wp2_with (go_at_call 106; refine (sNodes_b _ n _ _ _ _ l _ false HV.out (by omega) HI.out).mono ?_; rintro e w' ⟨rfl, rfl⟩)
      go_ret2
      rw [HE.out]
      exact ⟨rfl, Below.refl _ _⟩
end Go.Proofs.YtcofjjipjcekjaaGreat.V

namespace Go.Proofs.YtcofjjipjcekjaaGreat.V
open Go.RowKit

/-- Two integers are returned, and nothing that was there is changed. -/
def IPost (r : Int × Int) (w : World) (e : Ending) (w' : World) : Prop := e = .returned (.tuple #[.int .i64 r.1, .int .i64 r.2]) ∧ Below w.heap.size w w'
theorem IPost.mk {r : Int × Int} {x y : Int} {w w' : World} (h : r = (x, y)) (hb : Below w.heap.size w w') : IPost r w (.returned (.tuple #[.int .i64 x, .int .i64 y])) w' := by
  subst h; exact ⟨rfl, hb⟩
def BPost (b : Bool) (w : World) (e : Ending) (w' : World) : Prop := e = .returned (.bool b) ∧ Below w.heap.size w w'


end Go.Proofs.YtcofjjipjcekjaaGreat.V

namespace Go.Proofs.YtcofjjipjcekjaaGreat.V
open Go.RowKit

set_option maxRecDepth 100000 in
set_option maxHeartbeats 1000000 in
theorem isCycle (a : Option Addr) (n cap : Nat) (R : List (List Int)) (a' : Option Addr) (N cap' : Nat) (l : List Int) (w : World) (h : Mat w a n R) (h' : Ints .i64 w a' N l) (hc1 : N ≤ cap') (hc2 : cap' ≤ maxLen) :
    Calls Tryz.prog 103 #[.slice a n cap, .slice a' N cap'] w (BPost (M.isCycB R l) w) := by
  have HM := Lib.hid hc2
  have hm := h'.2.1
  unfold maxLen at hc2 hm
  have HA := Lib.hid h
  have HI := Lib.hid h'
  have HL := Lib.hid h'.1
  have HR := Lib.hid h.1
  by_cases hs : M.sqB R = true
  · have HS := Lib.hid hs
    have HQ := Lib.hid (sq_of h hs)
    obtain ⟨-, -, -, n1, n2⟩ := sq_of h hs
    clear h h' hs
    by_cases h0 : N = 0
    · subst h0
      have HE : Hid (M.isCycB R l = false) := by show _ = _; unfold M.isCycB M.cycB; rw [HL.out]; simp
      go_enter Tryz.func103, Tryz.ntmps103
      go_wp2_with (go_at_call 37; refine (isSquare_b _ _ _ R _ true HS.out HA.out).mono ?_; rintro e w' ⟨rfl, rfl⟩)
      go_ret
      exact ⟨retB HE.out.symm, Below.refl _ _⟩
    · have d1 : 1 ≤ N := by omega
      by_cases hv : M.nodesB n l = true
      · have HV := Lib.hid hv
        clear hv
        obtain ⟨q, hq⟩ : ∃ q, q = M.diffB l := ⟨_, rfl⟩
        have HQd := Lib.hid hq
        have HC : Calls Tryz.prog 110 #[.slice a' N cap'] w fun e w' => e = .returned (.bool q) ∧ Below w.heap.size w w' := by
          rw [hq]
          exact areDifferent n _ _ _ _ _ HI.out HV.out n2
        clear hq
        cases q with
        | false =>
          have HE : Hid (M.isCycB R l = false) := by show _ = _; unfold M.isCycB M.cycB; rw [← HQd.out]; simp
          go_enter Tryz.func103, Tryz.ntmps103
          go_wp2_with (first | (go_at_call 37; refine (isSquare_b _ _ _ R _ true HS.out HA.out).mono ?_; rintro e w' ⟨rfl, rfl⟩) | (go_at_call 109; refine (areNodes_b _ n _ _ _ _ l _ true HV.out (by omega) HI.out).mono ?_; rintro e w' ⟨rfl, rfl⟩) | (go_at_call 110; refine HC.mono ?_; rintro e w1 ⟨rfl, hb⟩; have HB := Lib.hid hb; clear hb))
          go_ret
          exact ⟨retB HE.out.symm, HB.out⟩
        | true =>
          have hN : N ≤ n := by have := M.diffB_len HV.out HQd.out.symm; rw [HL.out] at this; exact this
          obtain ⟨y, hy⟩ : ∃ y, y = M.aroundW R l := ⟨_, rfl⟩
          have HY := Lib.hid hy
          have HC2 : ∀ w1, Below w.heap.size w w1 → Calls Tryz.prog 111 #[.slice a n cap, .slice a' N cap'] w1 fun e w' => e = .returned (.int .i64 y) ∧ ∃ q, w' = w1.drewN q := by
            intro w1 hb
            rw [hy]
            exact weightAround _ _ _ _ _ _ _ _ _ (HQ.out.below hb) (HI.out.below hb) HV.out hc1 HM.out d1 (by omega)
          clear hy
          by_cases hb : y = -1000000000000000
          · have HE : Hid (M.isCycB R l = false) := by show _ = _; unfold M.isCycB M.cycB; rw [← HY.out, hb]; simp
            subst hb
            go_enter Tryz.func103, Tryz.ntmps103
            go_wp2_with (first | (go_at_call 37; refine (isSquare_b _ _ _ R _ true HS.out HA.out).mono ?_; rintro e w' ⟨rfl, rfl⟩) | (go_at_call 109; refine (areNodes_b _ n _ _ _ _ l _ true HV.out (by omega) HI.out).mono ?_; rintro e w' ⟨rfl, rfl⟩) | (go_at_call 110; refine HC.mono ?_; rintro e w1 ⟨rfl, hb⟩; have HB := Lib.hid hb; clear hb) | (go_at_call 111; refine (HC2 _ HB.out).mono ?_; rintro e w' ⟨rfl, q, rfl⟩))
            go_ret
            exact ⟨retB HE.out.symm, below_drewN HB.out _⟩
          · have hb2 : (y == -1000000000000000) = false := by simpa using hb
            have hb3 : (y != -1000000000000000) = true := by simpa using hb
            have HE : Hid (M.isCycB R l = true) := by
              show _ = _; unfold M.isCycB M.cycB
              rw [← HY.out, HS.out, HR.out, HV.out, ← HQd.out, HL.out, decide_eq_true d1, decide_eq_true hb]; rfl
            clear hb
            go_enter Tryz.func103, Tryz.ntmps103
            go_wp2_with (first | (go_at_call 37; refine (isSquare_b _ _ _ R _ true HS.out HA.out).mono ?_; rintro e w' ⟨rfl, rfl⟩) | (go_at_call 109; refine (areNodes_b _ n _ _ _ _ l _ true HV.out (by omega) HI.out).mono ?_; rintro e w' ⟨rfl, rfl⟩) | (go_at_call 110; refine HC.mono ?_; rintro e w1 ⟨rfl, hb⟩; have HB := Lib.hid hb; clear hb) | (go_at_call 111; refine (HC2 _ HB.out).mono ?_; rintro e w' ⟨rfl, q, rfl⟩))
            go_ret
            exact ⟨retB HE.out.symm, below_drewN HB.out _⟩
      · simp only [Bool.not_eq_true] at hv
        have HV := Lib.hid hv
        have HE : Hid (M.isCycB R l = false) := by show _ = _; unfold M.isCycB M.cycB; rw [HR.out, HV.out]; simp
        clear hv
        go_enter Tryz.func103, Tryz.ntmps103
        go_wp2_with (first | (go_at_call 37; refine (isSquare_b _ _ _ R _ true HS.out HA.out).mono ?_; rintro e w' ⟨rfl, rfl⟩) | (go_at_call 109; refine (areNodes_b _ n _ _ _ _ l _ false HV.out (by omega) HI.out).mono ?_; rintro e w' ⟨rfl, rfl⟩))
        go_ret
        exact ⟨retB HE.out.symm, Below.refl _ _⟩
  · simp only [Bool.not_eq_true] at hs
    have HS := Lib.hid hs
    have HE : Hid (M.isCycB R l = false) := by show _ = _; unfold M.isCycB; rw [HS.out]; rfl
    clear h h' hs
    go_enter Tryz.func103, Tryz.ntmps103
    go_wp2_with (go_at_call 37; refine (isSquare_b _ _ _ R _ false HS.out HA.out).mono ?_; rintro e w' ⟨rfl, rfl⟩)
    go_ret
    exact ⟨retB HE.out.symm, Below.refl _ _⟩
theorem isCycle_b (a : Option Addr) (n cap : Nat) (R : List (List Int)) (a' : Option Addr) (N cap' : Nat) (l : List Int) (w : World) (b : Bool) (hb : M.isCycB R l = b) (h : Mat w a n R) (h' : Ints .i64 w a' N l) (hc1 : N ≤ cap') (hc2 : cap' ≤ maxLen) :
    Calls Tryz.prog 103 #[.slice a n cap, .slice a' N cap'] w fun e w' => e = .returned (.bool b) ∧ Below w.heap.size w w' := by
  subst hb; exact isCycle _ _ _ _ _ _ _ _ _ h h' hc1 hc2



end Go.Proofs.YtcofjjipjcekjaaGreat.V

namespace Go.Proofs.YtcofjjipjcekjaaGreat.V
open Go.RowKit
/-- A ratio and a code. -/
def retQ (r : (Int × Int) × Int) : Ending := .returned (.tuple #[.agg #[.int .i64 r.1.1, .int .i64 r.1.2], .int .i64 r.2])
theorem bel2s {w w1 : World} {o o' : Obj} {i j : Nat} {u v : Value} (hb : Below ((w.alloc o).alloc o').heap.size ((w.alloc o).alloc o') w1) : Below w.heap.size w ((w1.setCell ⟨w.heap.size + 1, i, none⟩ u).setCell ⟨w.heap.size + 1, j, none⟩ v) :=
  ((bel2 hb).setCell (by show w.heap.size ≤ w.heap.size + 1; omega) u).setCell (by show w.heap.size ≤ w.heap.size + 1; omega) v
set_option maxRecDepth 100000 in
set_option maxHeartbeats 400000 in
theorem ratioChecked (n d : Int) (w : World) :
    Calls Tryz.prog 83 #[.agg #[.int .i64 n, .int .i64 d]] w fun e w' => e = retQ (M.lim (n, d)) ∧ Below w.heap.size w w' := by
  by_cases hr : M.isRat n d = true
  · have HE : Hid (M.lim (n, d) = ((n, d), 0)) := by show _ = _; unfold M.lim; rw [if_pos hr]
    go_enter Tryz.func83, Tryz.ntmps83
    go_wp2_with fail
    refine (isRatio_b _ _ true hr _).mono ?_
    rintro e w1 ⟨rfl, hb⟩
    obtain ⟨hc, hf⟩ := bcell hb
    have hz := hb.size
    simp at hz
    have z1 : w.heap.size < w1.heap.size := by omega
    have z2 : w.heap.size + 1 < w1.heap.size := by omega
    go_wp2
    exact bodyPost_ret (v := .tuple #[.agg #[.int .i64 n, .int .i64 d], .int .i64 0]) (by simp [results, Tryz.results83, go_sem, z1, z2, hc]) rfl ⟨by rw [HE.out]; rfl, bel2s hb⟩
  · simp only [Bool.not_eq_true] at hr
    have HE : Hid (M.lim (n, d) = ((0, 0), 3)) := by show _ = _; unfold M.lim; rw [if_neg (by rw [hr]; exact Bool.false_ne_true)]
    go_enter Tryz.func83, Tryz.ntmps83
    go_wp2_with fail
    refine (isRatio_b _ _ false hr _).mono ?_
    rintro e w1 ⟨rfl, hb⟩
    obtain ⟨hc, hf⟩ := bcell hb
    have hz := hb.size
    simp at hz
    have z1 : w.heap.size < w1.heap.size := by omega
    have z2 : w.heap.size + 1 < w1.heap.size := by omega
    go_wp2
    exact bodyPost_ret (v := .tuple #[.agg #[.int .i64 0, .int .i64 0], .int .i64 3]) (by simp [results, Tryz.results83, go_sem, z1, z2, hc]) rfl ⟨by rw [HE.out]; rfl, bel2s hb⟩
set_option maxRecDepth 100000 in
set_option maxHeartbeats 400000 in
theorem sResultR (n d : Int) (w : World) :
    Calls Tryz.prog 61 #[.agg #[.int .i64 n, .int .i64 d]] w fun e w' => e = retQ (M.lim (n, d)) ∧ Below w.heap.size w w' := by
  by_cases hr : M.isRat n d = true
  · have HE : Hid (M.lim (n, d) = ((n, d), 0)) := by show _ = _; unfold M.lim; rw [if_pos hr]
    go_enter Tryz.func61, Tryz.ntmps61
    go_wp2_with fail
    refine (sIsRatio_b _ _ true hr _).mono ?_
    rintro e w1 ⟨rfl, hb⟩
    obtain ⟨hc, hf⟩ := bcell hb
    have hz := hb.size
    simp at hz
    have z1 : w.heap.size < w1.heap.size := by omega
    have z2 : w.heap.size + 1 < w1.heap.size := by omega
    go_wp2
    exact bodyPost_ret (v := .tuple #[.agg #[.int .i64 n, .int .i64 d], .int .i64 0]) (by simp [results, Tryz.results61, go_sem, z1, z2, hc]) rfl ⟨by rw [HE.out]; rfl, bel2s hb⟩
  · simp only [Bool.not_eq_true] at hr
    have HE : Hid (M.lim (n, d) = ((0, 0), 3)) := by show _ = _; unfold M.lim; rw [if_neg (by rw [hr]; exact Bool.false_ne_true)]
    go_enter Tryz.func61, Tryz.ntmps61
    go_wp2_with fail
    refine (sIsRatio_b _ _ false hr _).mono ?_
    rintro e w1 ⟨rfl, hb⟩
    obtain ⟨hc, hf⟩ := bcell hb
    have hz := hb.size
    simp at hz
    have z1 : w.heap.size < w1.heap.size := by omega
    have z2 : w.heap.size + 1 < w1.heap.size := by omega
    go_wp2
    exact bodyPost_ret (v := .tuple #[.agg #[.int .i64 0, .int .i64 0], .int .i64 3]) (by simp [results, Tryz.results61, go_sem, z1, z2, hc]) rfl ⟨by rw [HE.out]; rfl, bel2s hb⟩
end Go.Proofs.YtcofjjipjcekjaaGreat.V

namespace Go.Proofs.YtcofjjipjcekjaaGreat
namespace M
theorem cycB_t {R : List (List Int)} {l : List Int} (h : cycB R l = true) : 1 ≤ l.length ∧ nodesB R.length l = true ∧ diffB l = true ∧ aroundW R l ≠ -1000000000000000 := by
  unfold cycB at h
  rw [Bool.and_eq_true, Bool.and_eq_true, Bool.and_eq_true, decide_eq_true_eq, decide_eq_true_eq] at h
  exact ⟨h.1.1.1, h.1.1.2, h.1.2, h.2⟩
theorem cycB_bd {R : List (List Int)} {l : List Int} (hs : sqB R = true) (h : cycB R l = true) : 1 ≤ l.length ∧ l.length ≤ 10 ∧ -10000000 ≤ aroundW R l ∧ aroundW R l ≤ 10000000 := by
  obtain ⟨c1, c2, c3, c4⟩ := cycB_t h
  obtain ⟨n1, n2, hA⟩ := sq_sm hs
  have hl := diffB_len c2 c3
  have := arW_sm (A := ent R) hA c2 c1
  rw [around_arW] at c4 ⊢
  unfold Sm at this
  omega
/-- The mean of a list of nodes, and whether it is a cycle. -/
def mean2 (R : List (List Int)) (l : List Int) : (Int × Int) × Bool := if cycB R l then (meanR (aroundW R l) l.length, true) else ((0, 0), false)
end M
namespace V
open Go.RowKit
set_option maxRecDepth 100000 in
set_option maxHeartbeats 1000000 in
theorem sMean (a : Option Addr) (n cap : Nat) (R : List (List Int)) (a' : Option Addr) (N cap' : Nat) (l : List Int) (w : World) (h : Mat w a n R) (hs : M.sqB R = true) (h' : Ints .i64 w a' N l) (hc1 : N ≤ cap') (hc2 : cap' ≤ maxLen) :
    Calls Tryz.prog 60 #[.slice a n cap, .slice a' N cap'] w fun e w' => e = .returned (.tuple #[.agg #[.int .i64 (M.mean2 R l).1.1, .int .i64 (M.mean2 R l).1.2], .bool (M.mean2 R l).2]) ∧ Below w.heap.size w w' := by
  have HS := Lib.hid (sq_of h hs)
  have HI := Lib.hid h'
  have HL := Lib.hid h'.1
  have HM := Lib.hid hc2
  by_cases hc : M.cycB R l = true
  · obtain ⟨b1, b2, b3, b4⟩ := M.cycB_bd hs hc
    have hNl := h'.1
    have HC : Hid (M.cycleR R l = (M.aroundW R l, true)) := by show _ = _; unfold M.cycleR; rw [if_pos hc]
    have HE : Hid (M.mean2 R l = (M.meanR (M.aroundW R l) (N : Int), true)) := by show _ = _; unfold M.mean2; rw [if_pos hc, hNl]
    rw [hNl] at b1 b2
    obtain ⟨x, hx⟩ : ∃ x, x = M.aroundW R l := ⟨_, rfl⟩
    rw [← hx] at HC HE b3 b4
    clear h hs h' hc hx hc2 hNl
    go_enter Tryz.func60, Tryz.ntmps60
    go_wp2_with fail
    refine (sCycle _ _ _ R _ _ _ l _ (HS.out.below (b_alloc _ _)) (HI.out.below (b_alloc _ _)) hc1 HM.out).mono ?_
    rintro e w1 ⟨rfl, hb⟩
    rw [HC.out]
    have hz := hb.size
    simp at hz
    obtain ⟨hcc, hff⟩ := bcell hb
    go_wp2_with fail
    refine (sRatio _ _ _ (by omega) (by omega) (by omega) (by omega) (by omega)).mono ?_
    rintro e w2 ⟨rfl, hb2⟩
    have hbb := hb.trans (hb2.mono hb.size)
    have hz2 := hbb.size
    simp at hz2
    obtain ⟨hc2, hf2⟩ := bcell hbb
    have z1 : w.heap.size < w2.heap.size := by omega
    go_wp2
    exact bodyPost_ret (v := .tuple #[.agg #[.int .i64 (M.ratN x N), .int .i64 (M.ratD x N)], .bool true]) (by simp [results, Tryz.results60, go_sem, z1, hc2]) rfl ⟨by rw [HE.out]; rfl, bel1s hbb⟩
  · simp only [Bool.not_eq_true] at hc
    have HC : Hid (M.cycleR R l = (0, false)) := by show _ = _; unfold M.cycleR; rw [if_neg (by rw [hc]; exact Bool.false_ne_true)]
    have HE : Hid (M.mean2 R l = ((0, 0), false)) := by show _ = _; unfold M.mean2; rw [if_neg (by rw [hc]; exact Bool.false_ne_true)]
    clear h hs h' hc hc2
    go_enter Tryz.func60, Tryz.ntmps60
    go_wp2_with fail
    refine (sCycle _ _ _ R _ _ _ l _ (HS.out.below (b_alloc _ _)) (HI.out.below (b_alloc _ _)) hc1 HM.out).mono ?_
    rintro e w1 ⟨rfl, hb⟩
    rw [HC.out]
    have hz := hb.size
    simp at hz
    obtain ⟨hcc, hff⟩ := bcell hb
    have z1 : w.heap.size < w1.heap.size := by omega
    go_wp2
    exact bodyPost_ret (v := .tuple #[.agg #[.int .i64 0, .int .i64 0], .bool false]) (by simp [results, Tryz.results60, go_sem, z1, hcc]) rfl ⟨by rw [HE.out], bel1s hb⟩
end V
end Go.Proofs.YtcofjjipjcekjaaGreat

namespace Go.Proofs.YtcofjjipjcekjaaGreat.V
open Go.RowKit
abbrev wayC (a' : Option Addr) (N cap' : Nat) : Value := .iface 117 (.slice a' N cap')
set_option maxRecDepth 100000 in
set_option maxHeartbeats 1000000 in
theorem givenMean (a : Option Addr) (n cap : Nat) (R : List (List Int)) (a' : Option Addr) (N cap' : Nat) (l : List Int) (w : World) (h : Mat w a n R) (hs : M.sqB R = true) (hc : M.cycB R l = true) (h' : Ints .i64 w a' N l) (hc1 : N ≤ cap') (hc2 : cap' ≤ maxLen) :
    Calls Tryz.prog 136 #[.slice a' N cap', .slice a n cap] w fun e w' => e = .returned (.agg #[.int .i64 (M.meanR (M.aroundW R l) l.length).1, .int .i64 (M.meanR (M.aroundW R l) l.length).2]) ∧ Below w.heap.size w w' := by
  have HS := Lib.hid (sq_of h hs)
  have HI := Lib.hid h'
  have HM := Lib.hid hc2
  obtain ⟨b1, b2, b3, b4⟩ := M.cycB_bd hs hc
  obtain ⟨-, c2, -, -⟩ := M.cycB_t hc
  have hNl := h'.1
  rw [h.1] at c2
  have HV := Lib.hid c2
  rw [hNl] at b1 b2 ⊢
  obtain ⟨x, hx⟩ : ∃ x, x = M.aroundW R l := ⟨_, rfl⟩
  have HX := Lib.hid hx
  rw [← hx] at b3 b4 ⊢
  clear h hs h' hc hx hc2 c2 hNl
  go_enter Tryz.func136, Tryz.ntmps136
  go_wp2_with fail
  refine (weightAround _ _ _ R _ _ _ l _ (HS.out.below (b_alloc _ _)) (HI.out.below (b_alloc _ _)) HV.out hc1 HM.out b1 (by omega)).mono ?_
  rintro e w' ⟨rfl, qd, rfl⟩
  rw [← HX.out]
  go_wp2_with fail
  refine (reduced _ _ _ (by omega) (by omega) (by omega) (by omega) (by omega)).mono ?_
  rintro e w2 ⟨rfl, hb2⟩
  have hbb := (b_draws (w.alloc (.cells #[.int .i64 0, .int .i64 0] 28)) qd).trans (hb2.mono (b_draws _ _).size)
  have hz2 := hbb.size
  simp at hz2
  obtain ⟨hc2, hf2⟩ := bcell hbb
  have z1 : w.heap.size < w2.heap.size := by omega
  go_wp2
  exact bodyPost_ret (v := .agg #[.int .i64 (M.ratN x N), .int .i64 (M.ratD x N)]) (by simp [results, Tryz.results136, go_sem, z1, hc2]) rfl ⟨rfl, bel1s hbb⟩
theorem assert_given (v : Value) (W : World) : (Instr.typeAssert (.iface 117 v) 102 117 true).run Tryz.prog W = .ok (.tuple #[v, .bool true]) W := by kernel_rfl
attribute [local go_sem] assert_given
set_option maxRecDepth 100000 in
set_option maxHeartbeats 1000000 in
theorem leadsGiven (a : Option Addr) (n cap : Nat) (R : List (List Int)) (a' : Option Addr) (N cap' : Nat) (l : List Int) (b : Bool) (hb : M.isCycB R l = b) (w : World) (h : Mat w a n R) (h' : Ints .i64 w a' N l) (hc1 : N ≤ cap') (hc2 : cap' ≤ maxLen) :
    Calls Tryz.prog 82 #[.slice a n cap, wayC a' N cap'] w fun e w' => e = .returned (.bool b) ∧ Below w.heap.size w w' := by
  have HA := Lib.hid h
  have HI := Lib.hid h'
  have HM := Lib.hid hc2
  have HB := Lib.hid hb
  clear h h' hc2 hb
  go_enter Tryz.func82, Tryz.ntmps82
  go_wp2_with fail
  refine (isCycle_b _ _ _ R _ _ _ l _ b HB.out HA.out HI.out hc1 HM.out).mono ?_
  rintro e w1 ⟨rfl, hb⟩
  have HB1 := Lib.hid hb
  clear hb
  go_wp2
  go_ret
  exact ⟨rfl, HB1.out⟩
end Go.Proofs.YtcofjjipjcekjaaGreat.V
