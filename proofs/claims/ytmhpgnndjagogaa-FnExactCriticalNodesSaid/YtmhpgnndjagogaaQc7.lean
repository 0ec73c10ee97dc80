/- Texts laid together: Sh2, Trans. -/
import Derived.Test.YtmhpgnndjagogaaQc6
import Derived.Test.YtmhpgnndjagogaaQc2
import Derived.Test.YtmhpgnndjagogaaQc5
import Derived.Test.YtmhpgnndjagogaaRows
import Derived.Test.YtmhpgnndjagogaaQc1
import Derived.Test.YtmhpgnndjagogaaQc3
import Derived.Test.YtmhpgnndjagogaaQc4
import Derived.WalkKit
import Derived.ProofKit
import Derived.WalkSmall
import Derived.Deep.QuietTactic
import Derived.BigQuiet
import Derived.BigRegion
import Derived.Deep.Draws
import Derived.Lib.Hide
import Derived.OpenShut
import Derived.Deep.OwnRows
import Derived.StillTailTactics
set_option linter.unusedSimpArgs false
set_option linter.unusedVariables false
set_option linter.unusedSectionVars false
namespace Go.Proofs.Ytmhpgnndjagogaa
namespace M
/-- A matrix that is being written: the entries before i, j are the new ones. -/
def midG (f g : Nat → Nat → Int) (i j s t : Nat) : Int := if s < i ∨ (s = i ∧ t < j) then f s t else g s t
theorem midG_next (f g : Nat → Nat → Int) (n i j : Nat) (hi : i < n) :
    (mk n n (midG f g i j)).set i (((mk n n (midG f g i j)).getD i []).set j (f i j)) = mk n n (midG f g i (j + 1)) := by
  rw [mk_set _ _ _ _ _ _ hi]
  refine mk_congr fun s _ t _ => ?_
  unfold midG
  by_cases e : s = i
  · subst e
    rw [if_pos rfl]
    by_cases e2 : t = j
    · subst e2; rw [if_pos rfl, if_pos (by omega)]
    · rw [if_neg e2]
      by_cases e3 : t < j
      · rw [if_pos (by omega), if_pos (by omega)]
      · rw [if_neg (by omega), if_neg (by omega)]
  · rw [if_neg e]
    by_cases e3 : s < i
    · rw [if_pos (by omega), if_pos (by omega)]
    · rw [if_neg (by omega), if_neg (by omega)]
/-- An entry that stays. -/
theorem midG_same (f g : Nat → Nat → Int) (n i j : Nat) (h : f i j = g i j) : mk n n (midG f g i j) = mk n n (midG f g i (j + 1)) :=
  mk_congr fun s _ t _ => by
    unfold midG
    by_cases e : s < i ∨ (s = i ∧ t < j)
    · rw [if_pos e, if_pos (by omega)]
    · by_cases e2 : s = i ∧ t = j
      · obtain ⟨rfl, rfl⟩ := e2
        rw [if_neg e, if_pos (by omega), h]
      · rw [if_neg e, if_neg (by omega)]
theorem midG_row_end (f g : Nat → Nat → Int) (n i : Nat) : mk n n (midG f g i n) = mk n n (midG f g (i + 1) 0) :=
  mk_congr fun s _ t ht => by
    unfold midG
    by_cases e : s < i ∨ (s = i ∧ t < n)
    · rw [if_pos e, if_pos (by omega)]
    · rw [if_neg e, if_neg (by omega)]
theorem midG_zero (f g : Nat → Nat → Int) (n : Nat) : mk n n (midG f g 0 0) = mk n n g :=
  mk_congr fun s _ t _ => by unfold midG; rw [if_neg (by omega)]
theorem midG_end (f g : Nat → Nat → Int) (n : Nat) : mk n n (midG f g n 0) = mk n n f :=
  mk_congr fun s hs t _ => by unfold midG; rw [if_pos (by omega)]
theorem midG_at (f g : Nat → Nat → Int) (i j : Nat) : midG f g i j i j = g i j := by unfold midG; rw [if_neg (by omega)]
end M
namespace V
open Go.RowKit
abbrev rbox (a b : Int) : Obj := .cells #[.int .i64 a, .int .i64 b] 29
/-- The row's own block is not that of the rows. -/
theorem row_ne {w : World} {g q : Nat} {t : Nat} {x : Int} {a : Option Addr} {n c : Nat} (h1 : w.cell? ⟨q, t, none⟩ = some (.int .i64 x)) (h2 : w.cell? ⟨g, t, none⟩ = some (.slice a n c)) : q ≠ g := by
  rintro rfl
  rw [h1] at h2
  cases h2
set_option maxRecDepth 100000 in
set_option maxHeartbeats 4000000 in
theorem shiftedBy (a : Option Addr) (n cap : Nat) (R : List (List Int)) (num den : Int) (w0 : World) (h : Mat w0 a n R) (hr : Rect R n n) (n1 : 1 ≤ n) (n2 : n ≤ 10) (hs : ∀ i j, i < n → j < n → M.Sm 1000000 (M.ent R i j)) (hab : M.Near num den) :
    Calls Try.prog 74 #[.slice a n cap, .agg #[.int .i64 num, .int .i64 den]] w0 (MPost n (M.mk n n (M.shf (M.ent R) num den)) w0) := by
  obtain ⟨w, hwd⟩ : ∃ w, w = w0.alloc (rbox num den) := ⟨_, rfl⟩
  have HW0 : Hid (Below w0.heap.size w0 w) := by rw [hwd]; exact b_alloc _ _
  have HA : Hid (Mat w a n R) := h.below HW0.out
  have HR := Lib.hid hr
  have HS := Lib.hid hs
  have HN := Lib.hid hab
  have hLx : w.heap.size = w0.heap.size + 1 := by rw [hwd]; simp
  have HC0 : Hid (w.cell? ⟨w0.heap.size, 0, none⟩ = some (.int .i64 num)) := by show _ = _; rw [hwd]; simp
  have HC1 : Hid (w.cell? ⟨w0.heap.size, 1, none⟩ = some (.int .i64 den)) := by show _ = _; rw [hwd]; simp
  have HRe : Hid (M.mk n n (M.midG (M.shf (M.ent R) num den) (M.ent R) 0 0) = R) := by
    show _ = _
    rw [M.midG_zero]
    have e := M.mk_self R n (fun i hi => hr.2 i (by rw [← hr.1]; exact hi))
    rw [hr.1] at e
    exact e
  clear h hr hs hab
  go_enter Try.func74, Try.ntmps74
  go_wp2_with fail
  simp only [← hwd] at *
  obtain ⟨Lx, hLxd⟩ : ∃ Lx, Lx = w0.heap.size := ⟨_, rfl⟩
  rw [← hLxd] at hLx HC0 HC1 ⊢
  clear hwd
  refine (copiedMatrix _ _ _ R n _ HA.out HR.out n1 n2 n1 n2).mono ?_
  rintro e w2 ⟨a2, cap2, rfl, hO, hb⟩
  rw [← HRe.out] at hO
  obtain ⟨g, -, -, -, -, rfl, -⟩ := hO.tri (rect_mk _ _ _) 0 0 0 (by omega) (by omega) (by omega)
  have HO0 := Lib.hid hO
  have HB0 := Lib.hid hb
  clear hO hb
  have HX : Hid (∀ wr, Below w.heap.size w wr → wr.cell? ⟨Lx, 0, none⟩ = some (.int .i64 num) ∧ wr.cell? ⟨Lx, 1, none⟩ = some (.int .i64 den)) := fun wr hb =>
    ⟨(hb.cell (p := ⟨Lx, 0, none⟩) (by show Lx < _; omega)).trans HC0.out, (hb.cell (p := ⟨Lx, 1, none⟩) (by show Lx < _; omega)).trans HC1.out⟩
  clear hLxd
  go_wp2
  go_loopw [7, 14] (fun _ i wr => ∃ s : Nat, s ≤ n ∧ i = .int .i64 s ∧ OwnM wr w.heap.size (.slice (some ⟨g, 0, none⟩) n cap2) (M.mk n n (M.midG (M.shf (M.ent R) num den) (M.ent R) s 0)) ∧ Below w.heap.size w wr) (fun _ i _ => n - (intOf i).toNat)
  case atStart => exact ⟨0, Nat.zero_le _, rfl, HO0.out, HB0.out⟩
  case round =>
    obtain ⟨s, hs, rfl, hO, hb⟩ := hrel
    obtain ⟨wp, rfl⟩ : ∃ x, x = wr := ⟨_, rfl⟩
    have HOs := Lib.hid hO
    have HBs := Lib.hid hb
    clear hO hb HO0 HB0
    by_cases hsl : s < n
    · have hsi : (s : Int) < (n : Int) := by omega
      obtain ⟨g2, q, c, -, -, hgg, -, hrow, -⟩ := HOs.out.tri (rect_mk _ _ _) s 0 0 hsl (by omega) (by omega)
      injection hgg with hgg
      injection hgg with hgg
      subst hgg
      have HRow := Lib.hid hrow
      go_wp2
      clear hrow
      go_loopw [8, 9, 20] (fun _ _ j wr => ∃ t : Nat, t ≤ n ∧ j = .int .i64 t ∧ wr.cell? ⟨g, s, none⟩ = some (.slice (some ⟨q, 0, none⟩) n c) ∧ OwnM wr w.heap.size (.slice (some ⟨g, 0, none⟩) n cap2) (M.mk n n (M.midG (M.shf (M.ent R) num den) (M.ent R) s t)) ∧ Below w.heap.size w wr) (fun _ _ j _ => n - (intOf j).toNat)
      case atStart => exact ⟨0, Nat.zero_le _, rfl, HRow.out, HOs.out, HBs.out⟩
      case round =>
        obtain ⟨t, ht, rfl, hrow, hO, hb⟩ := hrel
        have HOt := Lib.hid hO
        have HBt := Lib.hid hb
        have HRt := Lib.hid hrow
        clear hO hb HOs HBs hrow HRow
        by_cases htl : t < n
        · have hti : (t : Int) < (n : Int) := by omega
          obtain ⟨g2, q2, c2, q', c', hgg, hq, h1, h2, -, h4, -, h6, ho⟩ := HOt.out.tri (rect_mk _ _ _) s t t hsl htl htl
          injection hgg with hgg
          injection hgg with hgg
          subst hgg
          rw [HRt.out] at h1
          injection h1 with h1
          injection h1 with h1 _ h1c
          injection h1 with h1
          injection h1 with h1
          subst h1
          rw [M.ent_mk _ _ _ _ _ hsl htl, M.midG_at] at h2
          have hne := row_ne h2 h4
          obtain ⟨x, hx⟩ : ∃ x, x = M.ent R s t := ⟨_, rfl⟩
          rw [← hx] at h2
          obtain ⟨p0, p1⟩ := HX.out _ HBt.out
          by_cases hxb : x = -1000000000000000
          · have e : M.shf (M.ent R) num den s t = M.ent R s t := by unfold M.shf; rw [if_pos (by rw [← hx]; exact hxb), ← hx, hxb]
            have HO3 : Hid (OwnM wr w.heap.size (.slice (some ⟨g, 0, none⟩) n cap2) (M.mk n n (M.midG (M.shf (M.ent R) num den) (M.ent R) s (t + 1)))) := by
              show OwnM _ _ _ _; rw [← M.midG_same _ _ _ _ _ e]; exact HOt.out
            clear ho hx e h4 h6
            subst hxb
            go_wp2
            go_roundw
            case rel => exact ⟨t + 1, by omega, by go_num, HRt.out, HO3.out, HBt.out⟩
            case measure => simp [intOf]; omega
          · obtain ⟨s1, s2, s3⟩ := M.shf_fin HN.out (HS.out s t hsl htl) (by rw [← hx]; exact hxb)
            rw [← hx] at s1 s2 s3
            have hN := ho (den * x - num)
            rw [← s1, M.midG_next _ _ _ _ _ hsl, s1] at hN
            have HNn := Lib.hid hN
            obtain ⟨n1', n2', n3'⟩ := HN.out
            have hxs : -1000000 ≤ x ∧ x ≤ 1000000 := by have := HS.out s t hsl htl; rw [← hx] at this; unfold M.Sm at this; omega
            have pa := Int.mul_le_mul_of_nonneg_left hxs.2 (show (0 : Int) ≤ den by omega)
            have pb := Int.mul_le_mul_of_nonneg_left hxs.1 (show (0 : Int) ≤ den by omega)
            have e1 : IntKind.i64.wrap (den * x) = den * x := IntWalk.i64_in _ (by omega)
            have e2 : IntKind.i64.wrap (den * x - num) = den * x - num := IntWalk.i64_in _ (by omega)
            have hxn : (x == -1000000000000000) = false := by simpa using hxb
            have hkeep : (wr.setCell ⟨q, t, none⟩ (.int .i64 (den * x - num))).cell? ⟨g, s, none⟩ = some (.slice (some ⟨q, 0, none⟩) n c) := by
              rw [World.cell?_of_block (w := wr) (a := ⟨g, s, none⟩) (Below.heap_setCell wr ⟨q, t, none⟩ _ g (Ne.symm hne))]; exact HRt.out
            have HKeep := Lib.hid hkeep
            clear hN ho hx s1 s2 s3 hxs pa pb hkeep h4 n1' n2' n3'
            go_wp2
            go_roundw
            case rel => exact ⟨t + 1, by omega, by go_num, HKeep.out, HNn.out, HBt.out.setCell hq _⟩
            case measure => simp [intOf]; omega
        · obtain rfl : t = n := by omega
          have HO3 : Hid (OwnM wr w.heap.size (.slice (some ⟨g, 0, none⟩) t cap2) (M.mk t t (M.midG (M.shf (M.ent R) num den) (M.ent R) (s + 1) 0))) := by
            show OwnM _ _ _ _; rw [← M.midG_row_end]; exact HOt.out
          clear HOt
          go_wp2
          go_roundw
          case rel => exact ⟨s + 1, by omega, by go_num, HO3.out, HBt.out⟩
          case measure => simp [intOf]; omega
    · obtain rfl : s = n := by omega
      have HO3 : Hid (OwnM wp w.heap.size (.slice (some ⟨g, 0, none⟩) s cap2) (M.mk s s (M.shf (M.ent R) num den))) := by
        show OwnM _ _ _ _; rw [← M.midG_end]; exact HOs.out
      clear HOs
      go_wp2
      go_ret
      exact ⟨_, _, rfl, HO3.out.mono HW0.out.size, HW0.out.trans (HBs.out.mono HW0.out.size)⟩
end V
end Go.Proofs.Ytmhpgnndjagogaa

namespace Go.Proofs.Ytmhpgnndjagogaa.V
open Go.RowKit
theorem isRatio_b (n d : Int) (b : Bool) (hb : M.isRat n d = b) (w : World) :
    Calls Try.prog 70 #[.agg #[.int .i64 n, .int .i64 d]] w fun e w' => e = .returned (.bool b) ∧ Below w.heap.size w w' := by
  subst hb; exact isRatio n d w
theorem sIsRatio_b (n d : Int) (b : Bool) (hb : M.isRat n d = b) (w : World) :
    Calls Try.prog 39 #[.agg #[.int .i64 n, .int .i64 d]] w fun e w' => e = .returned (.bool b) ∧ Below w.heap.size w w' := by
  subst hb; exact sIsRatio n d w
/-- A boxed ratio and what becomes of it. -/
structure Boxed (w0 w : World) (num den : Int) : Prop where
  below : Below w0.heap.size w0 w
  size : w.heap.size = w0.heap.size + 1
  c0 : w.cell? ⟨w0.heap.size, 0, none⟩ = some (.int .i64 num)
  c1 : w.cell? ⟨w0.heap.size, 1, none⟩ = some (.int .i64 den)
theorem boxed (w0 : World) (num den : Int) : Boxed w0 (w0.alloc (rbox num den)) num den := ⟨b_alloc _ _, by simp, by simp, by simp⟩
theorem Boxed.cells {w0 w wr : World} {num den : Int} (h : Boxed w0 w num den) (hb : Below w.heap.size w wr) : wr.cell? ⟨w0.heap.size, 0, none⟩ = some (.int .i64 num) ∧ wr.cell? ⟨w0.heap.size, 1, none⟩ = some (.int .i64 den) := by
  have := h.size
  exact ⟨(hb.cell (p := ⟨w0.heap.size, 0, none⟩) (by show w0.heap.size < _; omega)).trans h.c0, (hb.cell (p := ⟨w0.heap.size, 1, none⟩) (by show w0.heap.size < _; omega)).trans h.c1⟩
theorem Boxed.trans {w0 w wr : World} {num den : Int} (h : Boxed w0 w num den) (hb : Below w.heap.size w wr) : Below w0.heap.size w0 wr := h.below.trans (hb.mono h.below.size)
theorem sq_parts {w : World} {a : Option Addr} {n : Nat} {R : List (List Int)} (h : Mat w a n R) (hs : M.sqB R = true) : Rect R n n ∧ 1 ≤ n ∧ n ≤ 10 ∧ ∀ i j, i < n → j < n → M.Sm 1000000 (M.ent R i j) := by
  have hq := sq_of h hs
  have e := (M.sq_sm hs).2.2
  rw [h.1] at e
  exact ⟨hq.2.1, hq.2.2.2.1, hq.2.2.2.2, e⟩
set_option maxRecDepth 100000 in
set_option maxHeartbeats 4000000 in
theorem sShift (a : Option Addr) (n cap : Nat) (R : List (List Int)) (num den : Int) (w0 : World) (h : Mat w0 a n R) (hr : Rect R n n) (n1 : 1 ≤ n) (n2 : n ≤ 10) (hs : ∀ i j, i < n → j < n → M.Sm 1000000 (M.ent R i j)) (hab : M.Near num den) :
    Calls Try.prog 61 #[.slice a n cap, .agg #[.int .i64 num, .int .i64 den]] w0 (MPost n (M.mk n n (M.shf (M.ent R) num den)) w0) := by
  obtain ⟨w, hwd⟩ : ∃ w, w = w0.alloc (rbox num den) := ⟨_, rfl⟩
  have HX : Hid (Boxed w0 w num den) := by show Boxed _ _ _ _; rw [hwd]; exact boxed _ _ _
  have HA : Hid (Mat w a n R) := h.below HX.out.below
  have hz := HX.out.size
  have HR := Lib.hid hr
  have HS := Lib.hid hs
  have HN := Lib.hid hab
  have HRe : Hid (M.mk n n (M.midG (M.shf (M.ent R) num den) (M.ent R) 0 0) = R) := by
    show _ = _
    rw [M.midG_zero]
    have e := M.mk_self R n (fun i hi => hr.2 i (by rw [← hr.1]; exact hi))
    rw [hr.1] at e
    exact e
  obtain ⟨b, off, -, -, rfl, -, -⟩ := HA.out.rect_first hr (by omega)
  clear h hr hs hab
  go_enter Try.func61, Try.ntmps61
  go_wp2_with fail
  simp only [← hwd] at *
  clear hwd
  refine (sOwnM _ _ _ R _ HA.out (by omega) (fun i hi => by rw [HR.out.2 i hi]; omega)).mono ?_
  rintro e w2 ⟨a2, cap2, rfl, hO, hb⟩
  rw [← HRe.out] at hO
  obtain ⟨g, -, -, -, -, rfl, -⟩ := hO.tri (rect_mk _ _ _) 0 0 0 (by omega) (by omega) (by omega)
  have HO0 := Lib.hid hO
  have HB0 := Lib.hid hb
  clear hO hb
  go_wp2
  go_loopw [6] (fun i wr => ∃ s : Nat, s ≤ n ∧ i = .int .i64 s ∧ OwnM wr w.heap.size (.slice (some ⟨g, 0, none⟩) n cap2) (M.mk n n (M.midG (M.shf (M.ent R) num den) (M.ent R) s 0)) ∧ Below w.heap.size w wr) (fun i _ => n - (intOf i).toNat)
  case atStart => exact ⟨0, Nat.zero_le _, rfl, HO0.out, HB0.out⟩
  case round =>
    obtain ⟨s, hs, rfl, hO, hb⟩ := hrel
    obtain ⟨wp, rfl⟩ : ∃ x, x = wr := ⟨_, rfl⟩
    have HOs := Lib.hid hO
    have HBs := Lib.hid hb
    clear hO hb HO0 HB0
    by_cases hsl : s < n
    · have hsi : (s : Int) < (n : Int) := by omega
      go_wp2
      go_loopw [7] (fun j wr => ∃ t : Nat, t ≤ n ∧ j = .int .i64 t ∧ OwnM wr w.heap.size (.slice (some ⟨g, 0, none⟩) n cap2) (M.mk n n (M.midG (M.shf (M.ent R) num den) (M.ent R) s t)) ∧ Below w.heap.size w wr) (fun j _ => n - (intOf j).toNat)
      case atStart => exact ⟨0, Nat.zero_le _, rfl, HOs.out, HBs.out⟩
      case round =>
        obtain ⟨t, ht, rfl, hO, hb⟩ := hrel
        have HOt := Lib.hid hO
        have HBt := Lib.hid hb
        clear hO hb HOs HBs
        by_cases htl : t < n
        · have hti : (t : Int) < (n : Int) := by omega
          obtain ⟨g2, q, c, q', c', hgg, hq, h1, h2, -, -, -, h6, ho⟩ := HOt.out.tri (rect_mk _ _ _) s t t hsl htl htl
          injection hgg with hgg
          injection hgg with hgg
          subst hgg
          obtain ⟨d, od, rd, ro, c4, x, hdd, hx, c41, c42⟩ := (HA.out.below HBt.out).rect_ent HR.out s t hsl htl
          injection hdd with hdd
          injection hdd with e1 e2
          subst e1 e2
          obtain ⟨p0, p1⟩ := HX.out.cells HBt.out
          by_cases hxb : x = -1000000000000000
          · have e : M.shf (M.ent R) num den s t = M.ent R s t := by unfold M.shf; rw [if_pos (by rw [← hx]; exact hxb), ← hx, hxb]
            have HO3 : Hid (OwnM wr w.heap.size (.slice (some ⟨g, 0, none⟩) n cap2) (M.mk n n (M.midG (M.shf (M.ent R) num den) (M.ent R) s (t + 1)))) := by
              show OwnM _ _ _ _; rw [← M.midG_same _ _ _ _ _ e]; exact HOt.out
            clear ho hx e h1 h2 h6
            subst hxb
            go_wp2
            go_roundw
            case rel => exact ⟨t + 1, by omega, by go_num, HO3.out, HBt.out⟩
            case measure => simp [intOf]; omega
          · obtain ⟨s1, s2, s3⟩ := M.shf_fin HN.out (HS.out s t hsl htl) (by rw [← hx]; exact hxb)
            rw [← hx] at s1 s2 s3
            have hN := ho (den * x - num)
            rw [← s1, M.midG_next _ _ _ _ _ hsl, s1] at hN
            have HNn := Lib.hid hN
            obtain ⟨n1', n2', n3'⟩ := HN.out
            have hxs : -1000000 ≤ x ∧ x ≤ 1000000 := by have := HS.out s t hsl htl; rw [← hx] at this; unfold M.Sm at this; omega
            have pa := Int.mul_le_mul_of_nonneg_left hxs.2 (show (0 : Int) ≤ den by omega)
            have pb := Int.mul_le_mul_of_nonneg_left hxs.1 (show (0 : Int) ≤ den by omega)
            have e1 : IntKind.i64.wrap (den * x) = den * x := IntWalk.i64_in _ (by omega)
            have e2 : IntKind.i64.wrap (den * x - num) = den * x - num := IntWalk.i64_in _ (by omega)
            have hxn : (x == -1000000000000000) = false := by simpa using hxb
            clear hN ho hx s1 s2 s3 hxs pa pb n1' n2' n3'
            go_wp2
            go_still_tail 19, (by kernel_rfl)
            repeat still_step
            try refine wpStill_nil ?_
            change wpList _ _ _ _ _ wr.drew
            go_wp2
            go_roundw
            case rel => exact ⟨t + 1, by omega, by go_num, HNn.out.keep (fun _ _ _ => rfl), HBt.out.drew.setCell hq _⟩
            case measure => simp [intOf]; omega
        · obtain rfl : t = n := by omega
          have HO3 : Hid (OwnM wr w.heap.size (.slice (some ⟨g, 0, none⟩) t cap2) (M.mk t t (M.midG (M.shf (M.ent R) num den) (M.ent R) (s + 1) 0))) := by
            show OwnM _ _ _ _; rw [← M.midG_row_end]; exact HOt.out
          clear HOt
          go_wp2
          go_roundw
          case rel => exact ⟨s + 1, by omega, by go_num, HO3.out, HBt.out⟩
          case measure => simp [intOf]; omega
    · obtain rfl : s = n := by omega
      have HO3 : Hid (OwnM wp w.heap.size (.slice (some ⟨g, 0, none⟩) s cap2) (M.mk s s (M.shf (M.ent R) num den))) := by
        show OwnM _ _ _ _; rw [← M.midG_end]; exact HOs.out
      clear HOs
      go_wp2
      go_ret
      exact ⟨_, _, rfl, HO3.out.mono HX.out.below.size, HX.out.trans HBs.out⟩
end Go.Proofs.Ytmhpgnndjagogaa.V

namespace Go.Proofs.Ytmhpgnndjagogaa.V
open Go.RowKit

set_option maxRecDepth 100000 in
set_option maxHeartbeats 4000000 in
theorem transposed (a : Option Addr) (n cap L : Nat) (R : List (List Int)) (w : World) (h : Mat w a n R) (hr : Rect R n L) (n1 : 1 ≤ n) (n2 : n ≤ 10) (l1 : 1 ≤ L) (l2 : L ≤ 10) :
    Calls Try.prog 99 #[.slice a n cap] w (MPost L (M.mk L n (fun i j => M.ent R j i)) w) := by
  have HA := Lib.hid h
  have HR := Lib.hid hr
  obtain ⟨b, off, ra, rc, rfl, hbw, hc⟩ := h.rect_first hr (by omega)
  have hmk := run_make_row' (P := Try.prog) 22 25 (.slice none 0 0) 24 Try.underlying22 infoS64 rfl .i64 .i64 L (by omega) (by omega)
  have hmk2 := run_make_row' (P := Try.prog) 25 2 (.int .i64 0) 8 Try.underlying25 info64 rfl .i64 .i64 n (by omega) (by omega)
  have hO0 : Hid (OwnM (w.alloc (.cells (madeCells #[.slice none 0 0] L) 25)) w.heap.size (.slice (some ⟨w.heap.size, 0, none⟩) L L) (M.part L n (fun i j => M.ent R j i) 0)) := by
    rw [M.part_zero]; exact ownM_made w _ L (Nat.le_refl _) (by unfold maxLen; omega)
  have HB0 : Hid (Below w.heap.size w (w.alloc (.cells (madeCells #[.slice none 0 0] L) 25))) := b_alloc w _
  clear h hr
  go_enter Try.func99, Try.ntmps99
  go_wp2
  clear hc
  go_loopw [14] (fun i wr => ∃ k : Nat, k ≤ L ∧ i = .int .i64 k ∧ OwnM wr w.heap.size (.slice (some ⟨w.heap.size, 0, none⟩) L L) (M.part L n (fun i j => M.ent R j i) k) ∧ Below w.heap.size w wr) (fun i _ => L - (intOf i).toNat)
  case atStart => exact ⟨0, Nat.zero_le _, rfl, hO0.out, HB0.out⟩
  case round =>
    obtain ⟨k, hk, rfl, hO, hb⟩ := hrel
    obtain ⟨wo, rfl⟩ : ∃ x, x = wr := ⟨_, rfl⟩
    have HO := Lib.hid hO
    have HB := Lib.hid hb
    clear hO hb hO0 HB0
    by_cases hlt : k < L
    · have hki : (k : Int) < (L : Int) := by omega
      have hg := HO.out.lt rfl
      have hsz := HB.out.size
      obtain ⟨v0, hv0⟩ := HO.out.outer k hlt
      have hfz0 := HO.out.outerFz k
      have hO2 := HO.out.setRow (b_alloc wo (.cells (madeCells #[.int .i64 0] n) 2)) hsz (own_made wo wo.heap.size n (Nat.le_refl _) (by unfold maxLen; omega)) k hlt
      rw [M.part_set] at hO2
      rw [World.setCell_alloc_past _ _ _ _ hg] at hO2
      have HO2 := Lib.hid hO2
      have hB2 := (((HB.out.alloc hsz (.cells (madeCells #[.int .i64 0] n) 2))).setCell (p := ⟨w.heap.size, k, none⟩) (Nat.le_refl _) (.slice (some ⟨wo.heap.size, 0, none⟩) n n))
      rw [World.setCell_alloc_past _ _ _ _ hg] at hB2
      have HB2 := Lib.hid hB2
      clear hO2 hB2
      go_wp2
      clear hv0 hfz0 hg
      go_loopw [25] (fun j wr => ∃ t : Nat, t ≤ n ∧ j = .int .i64 t ∧ OwnM wr w.heap.size (.slice (some ⟨w.heap.size, 0, none⟩) L L) (M.part2 L n (fun i j => M.ent R j i) k t) ∧ Below w.heap.size w wr) (fun j _ => n - (intOf j).toNat)
      case atStart => exact ⟨0, Nat.zero_le _, rfl, HO2.out, HB2.out⟩
      case round =>
        obtain ⟨t, ht, rfl, hO, hb⟩ := hrel
        have HOi := Lib.hid hO
        have HBi := Lib.hid hb
        clear hO hb HO2 HB2
        by_cases htl : t < n
        · have hti : (t : Int) < (n : Int) := by omega
          obtain ⟨g, q, L3, c3, x3, hgg, hg3, hq3, hL3, hx3, c31, c32, f31, ho3⟩ := HOi.out.at k t hlt (by rw [M.part2_rowlen _ _ _ _ _ hlt]; exact htl)
          injection hgg with hgg
          injection hgg with hgg
          subst hgg
          rw [M.part2_rowlen _ _ _ _ _ hlt] at hL3
          subst hL3
          obtain ⟨d, od, rd, ro, c4, x4, hdd, hx4, c41, c42⟩ := (HA.out.below HBi.out).rect_ent HR.out t k htl hlt
          injection hdd with hdd
          injection hdd with e1 e2
          subst e1 e2
          have HN : Hid (OwnM (wr.setCell ⟨q, t, none⟩ (.int .i64 x4)) w.heap.size (.slice (some ⟨w.heap.size, 0, none⟩) L L) (M.part2 L L3 (fun i j => M.ent R j i) k (t + 1))) :=
            (congrArg (OwnM _ _ _) (by rw [hx4]; exact M.part2_set _ _ (fun i j => M.ent R j i) _ _ hlt)).mp (ho3 x4)
          clear ho3 hx3 hx4
          go_wp2
          go_still_tail 10, (by kernel_rfl)
          change wpList _ _ _ _ _ wr.drew
          go_wp2
          go_roundw
          case rel => exact ⟨t + 1, by omega, by go_num, HN.out.keep (fun _ _ _ => rfl), HBi.out.drew.setCell hq3 _⟩
          case measure => simp [intOf]; omega
        · obtain rfl : t = n := by omega
          have hO2 := HOi.out
          rw [M.part2_end] at hO2
          have HO2 := Lib.hid hO2
          clear hO2
          go_wp2
          go_roundw
          case rel => exact ⟨k + 1, by omega, by go_num, HO2.out, HBi.out⟩
          case measure => simp [intOf]; omega
    · obtain rfl : k = L := by omega
      go_wp2
      go_ret
      exact ⟨_, _, rfl, by rw [← M.part_end]; exact HO.out, HB.out⟩


end Go.Proofs.Ytmhpgnndjagogaa.V
