/- Texts laid together: D3d, D3e, MatJ, D3z, Dcz. -/
import Derived.Test.YtkilnneepnbckaaQd13
import Derived.Test.YtkilnneepnbckaaQd12
import Derived.Test.YtkilnneepnbckaaQd7
import Derived.Test.YtkilnneepnbckaaQd14
import Derived.Test.YtkilnneepnbckaaQd16
import Derived.Test.YtkilnneepnbckaaQd11
import Derived.Test.YtkilnneepnbckaaQd4
import Derived.Maps.AppendAt
set_option linter.unusedSimpArgs false
set_option linter.unusedVariables false
set_option linter.unusedSectionVars false
namespace Go.Proofs.Ytkilnneepnbckaa.V
open Go.RowKit

set_option maxRecDepth 100000 in
set_option maxHeartbeats 4000000 in
theorem drawNodes (g n cap B : Nat) (a : Option Addr) (R : List (List Int)) (w : World) (h : Src w g) (ho : OwnM w B (.slice a n cap) R) (hB : g < B) (hn : n ≤ 200) :
    Calls Try.prog 77 #[.pointer (some ⟨g, 0, none⟩), .slice a n cap] w (DrawV g w) := by
  have hgs := h.lt
  have HS := Lib.hid h
  have HO := Lib.hid ho
  clear h ho
  by_cases hn0 : n = 0
  · subst hn0
    go_enter Try.func77, Try.ntmps77
    go_wp2
    go_ret
    exact ⟨_, _, _, [0], rfl, World.ownsRow_lit w #[.int .i64 0] 1 (Nat.le_refl _) (by decide) rfl, HS.out.alloc _, (Thr.refl _ _).alloc (Nat.le_of_lt hgs) _⟩
  · have e0 : (n == 0) = false := by simpa using hn0
    have e1 : ((n : Int) == 0) = false := by simp; omega
    have hwn : (Lit.int .i64 (n : Int)).wf = true := wf_small _ (by omega) (by omega)
    have HWN := Lib.hid hwn
    clear hwn
    go_enter Try.func77, Try.ntmps77
    go_wp2_with fail
    refine (next _ _ _ HWN.out HS.out).mono ?_
    rintro e w1 ⟨x, rfl, hx1, hx2, hs1, ht1⟩
    have hz1 : w.heap.size ≤ w1.heap.size := ht1.below.size
    have HJ0 : Hid (DL g w.heap.size (.slice (some ⟨w1.heap.size, 0, none⟩) 1 1) [x] w (w1.alloc (.cells #[.int .i64 x] 2))) :=
      ⟨World.ownsRow_lit w1 #[.int .i64 x] 1 hz1 (by decide) rfl, hs1.alloc _, ht1.alloc (by omega) _⟩
    have HL0 : Hid (∀ y ∈ [x], 0 ≤ y ∧ y < (n : Int)) := fun y hy => by
      simp at hy
      subst hy
      omega
    clear hx2 hs1 ht1
    go_wp2_with fail
    refine (next g 6 _ (by decide) HJ0.out.2.1).mono ?_
    rintro e w2 ⟨kk, rfl, hk1, hk2, hs2, ht2⟩
    obtain ⟨kk, rfl⟩ := Int.eq_ofNat_of_zero_le hk1
    have hk6 : kk < 6 := by omega
    have HJ1 := Lib.hid (HJ0.out.next hgs hs2 ht2)
    clear hs2 ht2 HJ0 hk2 hk1
    go_wp2
    go_loopw [6, 7, 8, 9, 10] (fun out i _ _ _ wr => ∃ (j t : Nat) (l : List Int) (b : Option Addr) (c : Nat), j + t ≤ 6 ∧ i = .int .i64 j ∧ out = .slice b (t + 1) c ∧ Hid (DL g w.heap.size (.slice b (t + 1) c) l w wr) ∧ Hid (∀ y ∈ l, 0 ≤ y ∧ y < (n : Int))) (fun _ i _ _ _ _ => (intOf i).toNat)
    case atStart => exact ⟨kk, 0, _, _, _, by omega, rfl, rfl, HJ1, HL0⟩
    case round =>
      obtain ⟨j, t, l, b, c, hjt, rfl, rfl, HJ, HL⟩ := hrel
      obtain ⟨wo, rfl⟩ : ∃ x, x = wr := ⟨_, rfl⟩
      clear HJ1 HL0
      by_cases hj : 0 < j
      · have hji : (0 : Int) < (j : Int) := by omega
        go_wp2_with fail
        refine (next _ _ _ HWN.out HJ.out.2.1).mono ?_
        rintro e w3 ⟨y, rfl, hy1, hy2, hs3, ht3⟩
        obtain ⟨y, rfl⟩ := Int.eq_ofNat_of_zero_le hy1
        have hyn : y < n := by omega
        have HJ2 := Lib.hid (HJ.out.next hgs hs3 ht3)
        clear hs3 ht3 hy2 hy1 HJ
        have hlen := HJ2.out.1.len
        have HLn := Lib.hid hlen
        have hz2 : w.heap.size ≤ w3.heap.size := HJ2.out.2.2.below.size
        obtain ⟨d, od, x1, rfl, -, hx1', cx⟩ := HJ2.out.1.ints'.at t (by omega)
        have hxm : x1 ∈ l := by
          have : t < l.length := by omega
          rw [hx1']
          simp only [List.getD_eq_getElem?_getD, List.getElem?_eq_getElem this, Option.getD_some]
          exact List.getElem_mem this
        obtain ⟨hxa, hxb⟩ := HL.out x1 hxm
        obtain ⟨x2, rfl⟩ := Int.eq_ofNat_of_zero_le hxa
        have hx2n : x2 < n := by omega
        have HOw := Lib.hid (HO.out.thr HJ2.out.2.2 hB)
        have ht1 : ((t : Int) + 1 - 1) = (t : Int) := by omega
        have hN0 : (0 : Int) < (n : Int) := by omega
        clear hlen hx1' hxm hxa hxb
        go_wp2
        clear cx ht1
        go_loopw [8, 10] (fun nx i wr => ∃ (p q : Nat), p < n ∧ q ≤ n ∧ nx = .int .i64 p ∧ i = .int .i64 q ∧ wr = w3) (fun _ i _ => n - (intOf i).toNat)
        case atStart => exact ⟨y, 0, hyn, Nat.zero_le _, rfl, rfl, rfl⟩
        case round =>
          obtain ⟨p, q, hp, hq, rfl, rfl, rfl⟩ := hrel
          have hpi : (p : Int) < (n : Int) := by omega
          have HLx : Hid (∀ z ∈ l ++ [(p : Int)], 0 ≤ z ∧ z < (n : Int)) := fun z hz => by
            rcases List.mem_append.1 hz with h | h
            · exact HL.out z h
            · simp at h; omega
          have HJq : Hid (DL g w.heap.size (.slice (some ⟨d, od, none⟩) (t + 1) c) l w wr) := HJ2
          have hzr : w.heap.size ≤ wr.heap.size := hz2
          have hmod : ((p : Int) + 1) % (n : Int) = (((p + 1) % n : Nat) : Int) := by first | norm_cast | (push_cast; rfl) | simp
          have hmn : (p + 1) % n < n := Nat.mod_lt _ (by omega)
          have HEnd : Hid (∀ b2 c2 w4, Own w4 w.heap.size (.slice b2 (t + 1 + 1) c2) (l ++ [(p : Int)]) → Below w.heap.size wr w4 → DL g w.heap.size (.slice b2 (t + 1 + 1) c2) (l ++ [(p : Int)]) w w4) := fun b2 c2 w4 h1 h2 => HJ2.out.app hgs h1 h2
          by_cases hq0 : q < n
          · have hqi : (q : Int) < (n : Int) := by omega
            obtain ⟨ab, ao, ra, rc, Lr, lr, hab, -, hlr, cr, hIr⟩ := HOw.out.mat.at p hp
            by_cases hl : x2 < Lr
            · have hli : (x2 : Int) < (Lr : Int) := by omega
              obtain ⟨rb, ro, z, rfl, -, hz, cz⟩ := hIr.at x2 hl
              clear hlr hz hIr
              subst hab
              have HM := Lib.hid hmod
              clear hmod
              by_cases hb : z = -1000000000000000
              · subst hb
                go_wp2
                rw [HM.out]
                go_roundw
                case rel => exact ⟨_, q + 1, hmn, by omega, rfl, by go_num, trivial⟩
                case measure => simp [intOf]; omega
              · have hb2 : (z == -1000000000000000) = false := by simpa using hb
                go_wp2_with (at_builtin; refine append1 _ rfl (.tmp 63) (.tmp 65) rfl w.heap.size _ _ _ (t + 1) HLn.out.symm rfl HJq.out.1 rfl (by rw [← HLn.out]; omega) hzr ?_)
                intro b2 c2 w4 hO4 hb4 _
                have HJ4 := Lib.hid (HEnd.out _ _ _ hO4 hb4)
                clear hO4 hb4
                go_wp2
                go_roundw
                case rel => exact ⟨j - 1, t + 1, _, _, _, by omega, by go_num, rfl, HJ4, HLx⟩
                case measure => simp [intOf]; omega
            · have hli : ¬ ((x2 : Int) < (Lr : Int)) := by omega
              have hli2 : (Lr : Int) ≤ (x2 : Int) := by omega
              clear hlr hIr hmod
              subst hab
              go_wp2_with (at_builtin; refine append1 _ rfl (.tmp 63) (.tmp 65) rfl w.heap.size _ _ _ (t + 1) HLn.out.symm rfl HJq.out.1 rfl (by rw [← HLn.out]; omega) hzr ?_)
              intro b2 c2 w4 hO4 hb4 _
              have HJ4 := Lib.hid (HEnd.out _ _ _ hO4 hb4)
              clear hO4 hb4
              go_wp2
              go_roundw
              case rel => exact ⟨j - 1, t + 1, _, _, _, by omega, by go_num, rfl, HJ4, HLx⟩
              case measure => simp [intOf]; omega
          · obtain rfl : q = n := by omega
            clear hmod
            go_wp2_with (at_builtin; refine append1 _ rfl (.tmp 63) (.tmp 65) rfl w.heap.size _ _ _ (t + 1) HLn.out.symm rfl HJq.out.1 rfl (by rw [← HLn.out]; omega) hzr ?_)
            intro b2 c2 w4 hO4 hb4 _
            have HJ4 := Lib.hid (HEnd.out _ _ _ hO4 hb4)
            clear hO4 hb4
            go_wp2
            go_roundw
            case rel => exact ⟨j - 1, t + 1, _, _, _, by omega, by go_num, rfl, HJ4, HLx⟩
            case measure => simp [intOf]; omega
      · obtain rfl : j = 0 := by omega
        go_wp2_with fail
        refine (next g 40 _ (by decide) HJ.out.2.1).mono ?_
        rintro e w3 ⟨x5, rfl, -, -, hs3, ht3⟩
        have HJ3 := Lib.hid (HJ.out.next hgs hs3 ht3)
        have hz3 : w.heap.size ≤ w3.heap.size := HJ3.out.2.2.below.size
        clear hs3 ht3 HJ
        by_cases hx0 : x5 = 0
        · subst hx0
          have hlit : Hid (∀ i, i < 2 → ∃ x : Int, (Lit.int .i64 x).wf = true ∧ (w3.alloc (.cells #[.int .i64 (-1), .int .i64 n] 2)).cell? ⟨w3.heap.size, 0 + i, none⟩ = some (.int .i64 x)) := fun i hi => by
            rcases (show i = 0 ∨ i = 1 by omega) with rfl | rfl
            · exact ⟨-1, by decide, by simp⟩
            · exact ⟨n, HWN.out, by simp⟩
          go_wp2_with fail
          refine (pick g _ 0 2 2 _ (HJ3.out.2.1.alloc _) (by omega) (by omega) (Nat.lt_of_lt_of_le hgs hz3) hlit.out).mono ?_
          rintro e w4 ⟨y, rfl, hyw, hs4, ht4⟩
          have HJ4 : Hid (DL g w.heap.size (.slice b (t + 1) c) l w w4) := ⟨((HJ3.out.1.below (b_alloc w3 (.cells #[.int .i64 (-1), .int .i64 n] 2))).thr ht4 hgs), hs4, (HJ3.out.2.2.alloc (Nat.le_trans (Nat.le_of_lt hgs) hz3) _).trans ht4⟩
          have hz4 : w.heap.size ≤ w4.heap.size := HJ4.out.2.2.below.size
          have HLn := Lib.hid HJ4.out.1.len
          clear hs4 ht4 hyw HJ3
          go_wp2_with (at_builtin; refine append1 _ rfl (.tmp 71) (.tmp 76) rfl w.heap.size _ _ _ (t + 1) HLn.out.symm rfl HJ4.out.1 rfl (by rw [← HLn.out]; omega) hz4 ?_)
          intro b2 c2 w5 hO5 hb5 _
          have HJ5 := Lib.hid (HJ4.out.app hgs hO5 hb5)
          clear hO5 hb5
          go_wp2
          go_ret
          exact ⟨_, _, _, _, rfl, HJ5.out.1, HJ5.out.2.1, HJ5.out.2.2⟩
        · have e0 : (x5 == 0) = false := by simpa using hx0
          by_cases hx1' : x5 = 1
          · subst hx1'
            go_wp2
            go_ret
            exact ⟨_, _, _, [], rfl, own_nil _ _, HJ3.out.2.1, HJ3.out.2.2⟩
          · have e1 : (x5 == 1) = false := by simpa using hx1'
            go_wp2
            go_ret
            exact ⟨_, _, _, _, rfl, HJ3.out.1, HJ3.out.2.1, HJ3.out.2.2⟩
end Go.Proofs.Ytkilnneepnbckaa.V

namespace Go.Proofs.Ytkilnneepnbckaa.V
open Go.RowKit

theorem wrap100 (y : Nat) (h : y < 4) : IntKind.i64.wrap (100 + (y : Int)) = ((100 + y : Nat) : Int) := by
  rw [IntWalk.i64_in _ (by omega)]; omega
theorem made_ints3 (w : World) (n : Nat) (hn : n ≤ maxLen) : Ints .i64 (w.alloc (.cells (madeCells #[.int .i64 0] n) 2)) (some ⟨w.heap.size, 0, none⟩) n (List.replicate n 0) := by
  have hr := World.rowIs_made w (.int .i64 0) n 2
  refine ⟨by simp, hn, .inr ⟨_, _, rfl, by simp, fun i hi => ?_⟩⟩
  rw [Nat.zero_add, hr.cell hi]
  simp [hi]

theorem rlit0 (w : World) (B : Nat) (h : B ≤ w.heap.size) : Own (w.alloc (.cells #[.int .i64 0] 2)) B (.slice (some ⟨w.heap.size, 0, none⟩) 1 1) [0] := World.ownsRow_lit w #[.int .i64 0] 1 h (by decide) rfl
theorem mlit0 (w : World) (B : Nat) (h : B ≤ w.heap.size) : OwnM ((w.alloc (.cells #[.int .i64 0] 2)).alloc (.cells #[.slice (some ⟨w.heap.size, 0, none⟩) 1 1] 28)) B (.slice (some ⟨w.heap.size + 1, 0, none⟩) 1 1) [[0]] := by
  have := ownM_lit1 (w.alloc (.cells #[.int .i64 0] 2)) B (by simp; omega) (rlit0 w B h)
  simpa using this
theorem b_up {w X : World} (h : Below w.heap.size w X) (o : Obj) : Below w.heap.size w (X.alloc o) := h.alloc h.size _
/-- What the six orders leave. -/
def Fin6 (w w' : World) (a' a : Option Addr) (y : Nat) : Prop := Mat w' a' 1 [[0]] ∧ Ints .i64 w' a (100 + y) (List.replicate (100 + y) 0) ∧ Below w.heap.size w w'
theorem fin_a (w w3 w6 : World) (y : Nat) (hy : y < 2) (hg : w.heap.size < w3.heap.size) (hb : Below w.heap.size w w3) (ht : Thr w.heap.size ((w3.alloc (.cells #[.int .i64 0] 2)).alloc (.cells #[.slice (some ⟨w3.heap.size, 0, none⟩) 1 1] 28)).drew w6) :
    Fin6 w (w6.alloc (.cells (madeCells #[.int .i64 0] (100 + y)) 2)) (some ⟨w3.heap.size + 1, 0, none⟩) (some ⟨w6.heap.size, 0, none⟩) y :=
  ⟨(((mlit0 w3 w3.heap.size (Nat.le_refl _)).keep (w' := ((w3.alloc (.cells #[.int .i64 0] 2)).alloc (.cells #[.slice (some ⟨w3.heap.size, 0, none⟩) 1 1] 28)).drew) (fun _ _ _ => rfl)).thr ht hg).mat.below (b_alloc _ _), made_ints3 _ _ (by unfold maxLen; omega), b_up ((b_up (b_up hb _) _).drew.trans ht.below) _⟩
theorem fin_b (w w3 w6 : World) (y : Nat) (hy : y < 2) (hg : w.heap.size < w3.heap.size) (hb : Below w.heap.size w w3) (ht : Thr w.heap.size (w3.alloc (.cells #[.int .i64 0] 2)).drew w6) :
    Fin6 w ((w6.alloc (.cells #[.slice (some ⟨w3.heap.size, 0, none⟩) 1 1] 28)).alloc (.cells (madeCells #[.int .i64 0] (100 + y)) 2)) (some ⟨w6.heap.size, 0, none⟩) (some ⟨w6.heap.size + 1, 0, none⟩) y := by
  have h1 : Own (w3.alloc (.cells #[.int .i64 0] 2)).drew w3.heap.size (.slice (some ⟨w3.heap.size, 0, none⟩) 1 1) [0] := rlit0 w3 w3.heap.size (Nat.le_refl _)
  have hz : w3.heap.size ≤ w6.heap.size := by have := ht.below.size; simp at this; omega
  have h2 := made_ints3 (w6.alloc (.cells #[.slice (some ⟨w3.heap.size, 0, none⟩) 1 1] 28)) (100 + y) (by unfold maxLen; omega)
  exact ⟨(ownM_lit1 w6 w3.heap.size hz (h1.thr ht hg)).mat.below (b_alloc _ _), by simpa using h2, b_up (b_up ((b_up hb _).drew.trans ht.below) _) _⟩
theorem fin_c (w w3 w6 : World) (y : Nat) (hy : y < 2) (hg : w.heap.size < w3.heap.size) (hb : Below w.heap.size w w3) (ht : Thr w.heap.size (w3.alloc (.cells #[.int .i64 0] 2)).drew w6) :
    Fin6 w ((w6.alloc (.cells (madeCells #[.int .i64 0] (100 + y)) 2)).alloc (.cells #[.slice (some ⟨w3.heap.size, 0, none⟩) 1 1] 28)) (some ⟨w6.heap.size + 1, 0, none⟩) (some ⟨w6.heap.size, 0, none⟩) y := by
  have h1 : Own (w3.alloc (.cells #[.int .i64 0] 2)).drew w3.heap.size (.slice (some ⟨w3.heap.size, 0, none⟩) 1 1) [0] := rlit0 w3 w3.heap.size (Nat.le_refl _)
  have hz : w3.heap.size ≤ w6.heap.size := by have := ht.below.size; simp at this; omega
  have h2 := made_ints3 w6 (100 + y) (by unfold maxLen; omega)
  have h3 := ownM_lit1 (w6.alloc (.cells (madeCells #[.int .i64 0] (100 + y)) 2)) w3.heap.size (by simp; omega) ((h1.thr ht hg).below (b_alloc w6 _))
  exact ⟨by simpa using h3.mat, h2.below (b_alloc _ _), b_up (b_up ((b_up hb _).drew.trans ht.below) _) _⟩
theorem fin_d (w w3 w6 : World) (y : Nat) (hy : y < 2) (hb : Below w.heap.size w w3) (ht : Thr w.heap.size w3.drew w6) :
    Fin6 w (((w6.alloc (.cells #[.int .i64 0] 2)).alloc (.cells #[.slice (some ⟨w6.heap.size, 0, none⟩) 1 1] 28)).alloc (.cells (madeCells #[.int .i64 0] (100 + y)) 2)) (some ⟨w6.heap.size + 1, 0, none⟩) (some ⟨w6.heap.size + 1 + 1, 0, none⟩) y := by
  have h2 := made_ints3 ((w6.alloc (.cells #[.int .i64 0] 2)).alloc (.cells #[.slice (some ⟨w6.heap.size, 0, none⟩) 1 1] 28)) (100 + y) (by unfold maxLen; omega)
  exact ⟨(mlit0 w6 _ (Nat.le_refl _)).mat.below (b_alloc _ _), by simpa using h2, b_up (b_up (b_up (hb.drew.trans ht.below) _) _) _⟩
theorem fin_e (w w3 w6 : World) (y : Nat) (hy : y < 2) (hb : Below w.heap.size w w3) (ht : Thr w.heap.size w3.drew w6) :
    Fin6 w (((w6.alloc (.cells #[.int .i64 0] 2)).alloc (.cells (madeCells #[.int .i64 0] (100 + y)) 2)).alloc (.cells #[.slice (some ⟨w6.heap.size, 0, none⟩) 1 1] 28)) (some ⟨w6.heap.size + 1 + 1, 0, none⟩) (some ⟨w6.heap.size + 1, 0, none⟩) y := by
  have h2 := made_ints3 (w6.alloc (.cells #[.int .i64 0] 2)) (100 + y) (by unfold maxLen; omega)
  have h3 := ownM_lit1 ((w6.alloc (.cells #[.int .i64 0] 2)).alloc (.cells (madeCells #[.int .i64 0] (100 + y)) 2)) w6.heap.size (by simp; omega) ((rlit0 w6 _ (Nat.le_refl _)).below (b_alloc _ _))
  exact ⟨by simpa using h3.mat, by simpa using h2.below (b_alloc _ _), b_up (b_up (b_up (hb.drew.trans ht.below) _) _) _⟩
theorem fin_f (w w3 w6 : World) (y : Nat) (hy : y < 2) (hb : Below w.heap.size w w3) (ht : Thr w.heap.size w3.drew w6) :
    Fin6 w (((w6.alloc (.cells (madeCells #[.int .i64 0] (100 + y)) 2)).alloc (.cells #[.int .i64 0] 2)).alloc (.cells #[.slice (some ⟨w6.heap.size + 1, 0, none⟩) 1 1] 28)) (some ⟨w6.heap.size + 1 + 1, 0, none⟩) (some ⟨w6.heap.size, 0, none⟩) y := by
  have h2 := made_ints3 w6 (100 + y) (by unfold maxLen; omega)
  have h3 := mlit0 (w6.alloc (.cells (madeCells #[.int .i64 0] (100 + y)) 2)) _ (Nat.le_refl _)
  exact ⟨by simpa using h3.mat, (h2.below (b_alloc _ _)).below (b_alloc _ _), b_up (b_up (b_up (hb.drew.trans ht.below) _) _) _⟩

/-- A drawn matrix and a drawn list of nodes. -/
def DrawnMN (w : World) (e : Ending) (w' : World) : Prop :=
  ∃ (a : Option Addr) (n cap : Nat) (R : List (List Int)) (a' : Option Addr) (N cap' : Nat) (l : List Int), e = .returned (.tuple #[.slice a n cap, .slice a' N cap']) ∧ Mat w' a n R ∧ Ints .i64 w' a' N l ∧ N ≤ cap' ∧ cap' ≤ maxLen ∧ Below w.heap.size w w'
theorem fin_out {w w' : World} {a' a : Option Addr} (y : Nat) (hy : y < 2) (h : Fin6 w w' a' a y) : DrawnMN w (.returned (.tuple #[.slice a' 1 1, .slice a (100 + y) (100 + y)])) w' :=
  ⟨_, _, _, _, _, _, _, _, rfl, h.1, h.2.1, Nat.le_refl _, by unfold maxLen; omega, h.2.2⟩
set_option maxRecDepth 100000 in
set_option maxHeartbeats 4000000 in
theorem drawPathWeight (a : Option Addr) (n cap : Nat) (w : World) (h : Bytes w a n) :
    Calls Try.prog 30 #[.slice a n cap] w (DrawnMN w) := by
  have HB := Lib.hid h
  clear h
  go_enter Try.func30, Try.ntmps30
  go_wp2_with fail
  refine (from_ _ _ _ _ HB.out).mono ?_
  rintro e w1 ⟨rfl, hs1, hb1⟩
  have HS1 := Lib.hid hs1
  have HB1 := Lib.hid hb1
  have hg1 := hs1.lt
  clear hs1 hb1
  go_wp2_with fail
  refine (draw3 _ _ HS1.out).mono ?_
  rintro e w2 ⟨a2, n2, c2, R, rfl, hn2, ho, hs2, ht2⟩
  have HO2 := Lib.hid ho
  have HS2 := Lib.hid hs2
  have HB2 := Lib.hid (HB1.out.trans ht2.below)
  clear ho hs2 ht2
  go_wp2_with fail
  refine (next _ 60 _ (by decide) HS2.out).mono ?_
  rintro e w3 ⟨x, rfl, hx1, -, hs3, ht3⟩
  have HO3 := Lib.hid (HO2.out.thr ht3 hg1)
  have HS3 := Lib.hid hs3
  have HB3 := Lib.hid (HB2.out.trans ht3.below)
  clear hs3 ht3 HO2 HS2 HB2
  by_cases hx0 : x = 0
  · subst hx0
    go_wp2_with fail
    go_region_with (go_at_call 69; refine (next _ 2 _ (by decide) (by first | exact HS3.out | exact HS3.out.alloc _ | exact (HS3.out.alloc _).alloc _)).mono ?_; rintro e w6 ⟨y, rfl, hy1, hy2, hs6, ht6⟩; obtain ⟨y, rfl⟩ := Int.eq_ofNat_of_zero_le hy1; have hy3 : y < 2 := (by omega); have HT6 := Lib.hid ht6; have E1 := wrap100 y (by omega); have hmk := run_make_row' (P := Try.prog) 28 2 (.int .i64 0) 8 Try.underlying28 info64 rfl .i64 .i64 (100 + y) (by omega) (by omega); rw [show ((100 + y : Nat) : Int) = 100 + (y : Int) from (by omega)] at hmk; clear hs6 ht6 hy2 hy1)
    all_goals
      go_wp2
      go_ret2
      first
        | exact fin_out y hy3 (fin_a _ _ _ y hy3 HS3.out.lt HB3.out HT6.out)
        | exact fin_out y hy3 (fin_b _ _ _ y hy3 HS3.out.lt HB3.out HT6.out)
        | exact fin_out y hy3 (fin_c _ _ _ y hy3 HS3.out.lt HB3.out HT6.out)
        | exact fin_out y hy3 (fin_d _ _ _ y hy3 HB3.out HT6.out)
        | exact fin_out y hy3 (fin_e _ _ _ y hy3 HB3.out HT6.out)
        | exact fin_out y hy3 (fin_f _ _ _ y hy3 HB3.out HT6.out)
  · have ex : (x == 0) = false := by simpa using hx0
    go_wp2_with fail
    refine (drawNodes _ n2 _ _ _ R _ HS3.out HO3.out hg1 (by omega)).mono ?_
    rintro e w6 ⟨a6, n6, c6, l, rfl, ho6, hs6, ht6⟩
    have HI := Lib.hid ho6.ints'
    have HC := Lib.hid (caps_own ho6)
    have HM := Lib.hid (HO3.out.thr ht6 hg1).mat
    have HB6 := Lib.hid (HB3.out.trans ht6.below)
    clear ho6 hs6 ht6
    go_wp2
    go_ret2
    exact ⟨_, _, _, R, _, _, _, l, rfl, HM.out, HI.out, HC.out.1, HC.out.2, HB6.out⟩
end Go.Proofs.Ytkilnneepnbckaa.V

namespace Go.Proofs.Ytkilnneepnbckaa
namespace M
section
variable {R : List (List Int)} {n : Nat} (hn : n ≤ 10) (hA : ∀ i j, i < n → j < n → Sm 1000001000000 (ent R i j))
include hn hA
/-- No path is heavier than the star says. -/
theorem along_star (hp : noPos (ent R) n = true) {l : List Int} (h1 : 1 ≤ l.length) (h2 : l.length ≤ 100) (hv : nodesB n l = true) : alongW R l ≤ starF (ent R) n (vx l (l.length - 1)) (vx l 0) := by
  have hd := o_diag hn hA hp
  have hx : ∀ u, u ≤ l.length - 1 → vx l u < n := fun u hu => by
    have := nodesB_at hv (k := u) (by omega)
    unfold vx; omega
  have hs : ∀ u, u < l.length - 1 → Sm 1000001000000 (ent R (vx l (u + 1)) (vx l u)) := fun u hu => hA _ _ (hx _ (by omega)) (hx _ (by omega))
  have e1 : o (starF (ent R) n (vx l (l.length - 1)) (vx l 0)) = obm (fun i j => o (ent R i j)) n n (vx l (l.length - 1)) (vx l 0) := by
    unfold starF
    rw [← clo_star hn hA hp (hx _ (Nat.le_refl _)) (hx 0 (Nat.zero_le _)), o_cbm hA n (by omega) _ _ (hx _ (Nat.le_refl _)) (hx 0 (Nat.zero_le _))]
  have e2 := owk_star hd (vx l) (l.length - 1) hx
  rw [← e1, ← o_wkc (by omega) hs] at e2
  exact (o_le (L := 100000000000000) (sm_up (wkc_sm hs) (by omega)) (sm_up (star_sm hn hA hp (hx _ (Nat.le_refl _)) (hx 0 (Nat.zero_le _))) (by omega)) (by omega)).1 e2
end
section
variable {R : List (List Int)} {n : Nat} (hA : ∀ i j, i < n → j < n → Sm 1000001000000 (ent R i j))
include hA
theorem hv_wkc {t s f : Nat} (hs : s ≤ 10) (ht : t < n) (hf : f < n) (h : cpw (ent R) n s t f ≠ -1000000000000000) (k : Nat) (hk : k ≤ s) :
    wkc (ent R) (xs (ent R) n t s f) k = cpw (ent R) n s t f - cpw (ent R) n (s - k) t (xs (ent R) n t s f k) := by
  induction k with
  | zero => show (0 : Int) = cpw (ent R) n s t f - cpw (ent R) n s t f; omega
  | succ k ih =>
    obtain ⟨h1, h2⟩ := xs_inv hA hs ht hf h k (by omega)
    obtain ⟨h3, h4⟩ := xs_inv hA hs ht hf h (k + 1) hk
    have h5 := xs_need hA hs ht hf h k (by omega)
    have b0 := cpw_sm hA s t f ht hf
    have b1 := cpw_sm hA (s - k) t _ ht h1
    have b2 := cpw_sm hA (s - (k + 1)) t _ ht h3
    have b3 := hA _ _ h3 h1
    have hs' : (1000001000000 : Int) * (s : Int) ≤ 10000010000000 := by omega
    have hk1 : (1000001000000 : Int) * ((s - k : Nat) : Int) ≤ 10000010000000 := by omega
    have hk2 : (1000001000000 : Int) * ((s - (k + 1) : Nat) : Int) ≤ 10000010000000 := by omega
    show times (wkc (ent R) (xs (ent R) n t s f) k) (ent R (xs (ent R) n t s f (k + 1)) (xs (ent R) n t s f k)) = _
    rw [ih (by omega), h5]
    rw [h5] at b2 h4
    unfold Sm at b0 b1 b2 b3
    unfold times
    rw [if_neg (by omega)]
    omega
theorem hv_along {t s f : Nat} (hs : s ≤ 10) (ht : t < n) (hf : f < n) (h : cpw (ent R) n s t f ≠ -1000000000000000) :
    alongW R (hvL (ent R) n t s f (s + 1)) = cpw (ent R) n s t f := by
  have e : wkc (ent R) (vx (hvL (ent R) n t s f (s + 1))) s = wkc (ent R) (xs (ent R) n t s f) s := wkc_congr fun u hu => by
    unfold vx; rw [hvL_at _ _ _ _ _ _ _ (by omega)]; simp
  unfold alongW
  rw [hvL_len, show s + 1 - 1 = s by omega, e, hv_wkc hA hs ht hf h s (Nat.le_refl _), Nat.sub_self, xs_end hA hs ht hf h]
  show _ - unit t t = _
  unfold unit
  rw [if_pos rfl]; omega
theorem hv_nodes {t s f : Nat} (hs : s ≤ 10) (ht : t < n) (hf : f < n) (h : cpw (ent R) n s t f ≠ -1000000000000000) : nodesB n (hvL (ent R) n t s f (s + 1)) = true := by
  unfold nodesB hvL
  rw [List.all_map, List.all_eq_true]
  intro i hi
  have := (xs_inv hA hs ht hf h i (by have := List.mem_range.1 hi; omega)).1
  simp [inN]; omega
end
/-- What an answer of HeaviestPath says. -/
theorem heavy_t {R : List (List Int)} {f t : Int} (h : (heavyRes R f t).2 = 0) : sqB R = true ∧ inN R.length f = true ∧ inN R.length t = true ∧ noPos (ent R) R.length = true ∧ starF (ent R) R.length t.toNat f.toNat ≠ -1000000000000000 ∧ heavyRes R f t = (hvL (ent R) R.length t.toNat (arcs (ent R) R.length f.toNat t.toNat) f.toNat (arcs (ent R) R.length f.toNat t.toNat + 1), 0) := by
  unfold heavyRes at h ⊢
  by_cases h1 : sqB R = true
  · rw [if_pos h1] at h ⊢
    by_cases h2 : (inN R.length f && inN R.length t) = true
    · rw [if_pos h2] at h ⊢
      rw [Bool.and_eq_true] at h2
      by_cases h3 : noPos (ent R) R.length = true
      · rw [if_pos h3] at h ⊢
        by_cases h4 : starF (ent R) R.length t.toNat f.toNat = -1000000000000000
        · rw [if_pos h4] at h; simp at h
        · rw [if_neg h4]; exact ⟨h1, h2.1, h2.2, h3, h4, rfl⟩
      · rw [if_neg h3] at h; simp at h
    · rw [if_neg h2] at h; simp at h
  · rw [if_neg h1] at h; simp at h
theorem path_t {R : List (List Int)} {l : List Int} (h : (pathRes R l).2 = 0) : sqB R = true ∧ 1 ≤ l.length ∧ l.length ≤ 100 ∧ nodesB R.length l = true ∧ pathRes R l = (alongW R l, 0) := by
  unfold pathRes at h ⊢
  by_cases h1 : sqB R = true
  · rw [if_pos h1] at h ⊢
    by_cases h2 : 1 ≤ l.length ∧ l.length ≤ 100 ∧ nodesB R.length l = true
    · rw [if_pos h2] at h ⊢
      by_cases h3 : alongW R l = -1000000000000000
      · rw [if_pos h3] at h; simp at h
      · rw [if_neg h3] at h ⊢
        unfold chk at h ⊢
        by_cases h4 : isVal (alongW R l) = true
        · rw [if_pos h4]; exact ⟨h1, h2.1, h2.2.1, h2.2.2, rfl⟩
        · rw [if_neg h4] at h; simp at h
    · rw [if_neg h2] at h; simp at h
  · rw [if_neg h1] at h; simp at h
theorem star_t {R : List (List Int)} (h : (starRes R).2 = 0) : sqB R = true ∧ noPos (ent R) R.length = true ∧ isMat (starM R R.length) = true ∧ starRes R = (starM R R.length, 0) := by
  unfold starRes at h ⊢
  by_cases h1 : sqB R = true
  · rw [if_pos h1] at h ⊢
    by_cases h3 : noPos (ent R) R.length = true
    · rw [if_pos h3] at h ⊢
      by_cases h4 : isMat (starM R R.length) = true
      · rw [if_pos h4]; exact ⟨h1, h3, h4, rfl⟩
      · rw [if_neg h4] at h; simp at h
    · rw [if_neg h3] at h; simp at h
  · rw [if_neg h1] at h; simp at h
theorem star_l {R : List (List Int)} (h1 : sqB R = true) (h3 : noPos (ent R) R.length = true) (h : (starRes R).2 ≠ 0) : starRes R = ([], 3) := by
  unfold starRes at h ⊢
  rw [if_pos h1, if_pos h3] at h ⊢
  by_cases h4 : isMat (starM R R.length) = true
  · rw [if_pos h4] at h; simp at h
  · rw [if_neg h4]
theorem starM_len (R : List (List Int)) (n : Nat) : (starM R n).length = n := mk_length _ _ _
theorem starM_wid (R : List (List Int)) {n : Nat} (h : 0 < n) : wid (starM R n) = n := mk_wid _ _ _ h
theorem starM_ent (R : List (List Int)) {n i j : Nat} (hi : i < n) (hj : j < n) : ent (starM R n) i j = starF (ent R) n i j := ent_mk _ _ _ _ _ hi hj
theorem starM_row (R : List (List Int)) {n i : Nat} (hi : i < n) : ((starM R n).getD i []).length = n := mk_rowlen _ _ _ _ hi
theorem isMat_ent {R : List (List Int)} (h : isMat R = true) {i j : Nat} (hi : i < R.length) (hj : j < wid R) : isVal (ent R i j) = true := (isMat_t h).2.2.2.2.2 i hi j hj
end M
end Go.Proofs.Ytkilnneepnbckaa



namespace Go.Proofs.Ytkilnneepnbckaa.M
theorem overL_len (R : List (List Int)) (n : Nat) (y : Int) (h : n ≤ 10) : (overL (ent R) n y).length ≤ 11 := by
  have := pick_len (g := fun v => grow (ent R) n y n [(v : Int)] 0) (m := 11) (fun v => by
    have := grow_nodes (ent R) n y n [(v : Int)] 0
    simp at this; omega) n 0
  exact this
end Go.Proofs.Ytkilnneepnbckaa.M
namespace Go.Proofs.Ytkilnneepnbckaa.V
open Go.RowKit

/-- The integers of a slice are appended to an owned list, at a step of a region. -/
theorem step_appendN (w : World) {ops : Array Oper} {o : Oper} {a : Act} {K : Act → World → Prop} {Q : Exit → Act → World → Prop} {E : Prop} (hgd : o.guard = none) (s x : Operand)
    (ho : o.op = .call { callee := .builtin .append, args := #[s, x], argTypes := #[28, 28] }) (B : Nat) (v : Value) (l l2 : List Int) (g n m c : Nat) (hn : l.length = n) (hm : l2.length = m) (hs : a.eval s = v) (hown : Own w B v l)
    (hx : a.eval x = .slice (some ⟨g, 0, none⟩) m c) (hy : ∀ i, i < m → w.cell? ⟨g, i, none⟩ = some (.int .i64 (l2.getD i 0))) (hlen : n + m ≤ 1000) (hB : B ≤ w.heap.size)
    (h : ∀ b' c' w', Own w' B (.slice b' (n + m) c') (l ++ l2) → Below B w w' → K (a.put o.dst (.slice b' (n + m) c')) w') :
    if Region.wanted o (yielded ops a.tmps) = true then Oper.wp Try.prog o a w K Q else E := by
  subst hn hm
  obtain ⟨i0, hi, hz0, hz1, hz2⟩ := info_parts info64
  have hw : Region.wanted o (yielded ops a.tmps) = true := by simp [Region.wanted, hgd]
  rw [if_pos hw]
  obtain ⟨v', w', hr, h2, h3, -, -⟩ := run_append_own_at (P := Try.prog) w B 28 o.type 2 i0 (.int .i64 0) 1 8 Try.underlying28 hi hz0 hz1 hz2 rfl (by decide) v l.length (l.map (Value.int .i64)) hown ⟨g, 0, none⟩ l2.length c (l2.map (Value.int .i64)) (by simp) (fun j u hj => by
      rw [Go.WideShapes.add_plain]
      have hj2 : j < l2.length := by
        have := (List.getElem?_eq_some_iff.1 hj).1
        simpa using this
      rw [Nat.zero_add, hy j hj2, ← hj]
      simp [hj2]) (fun u hu => by obtain ⟨x, _, rfl⟩ := List.mem_map.1 hu; rfl) (by unfold maxLen; omega) (by omega) hB
  have ho' : Own w' B v' (l ++ l2) := by
    show w'.ownsRow B _ 1 v' (l ++ l2).length ((l ++ l2).map (Value.int .i64))
    simpa using h2
  obtain ⟨b', c', hv, -⟩ := own_form ho'
  rw [show (l ++ l2).length = l.length + l2.length by simp] at hv
  subst hv
  unfold Oper.wp execOp
  simp only [ho, resolve, invoke, builtin, Sem.run_bind, Sem.run_pure, Result.andThen_ok, List.map_toArray, List.map_cons, List.map_nil, hs, hx, hr]
  exact h b' c' w' ho' ((Below.refl B w).grown h3 hB (fun k hk => (own_lt hown hk).1))

theorem Ints.drop {k : IntKind} {w : World} {q n : Nat} {l : List Int} (h : Ints k w (some ⟨q, 0, none⟩) n l) (i : Nat) (hi : i < n) : Ints k w (some ⟨q, i, none⟩) (n - i) (l.drop i) := by
  obtain ⟨h1, h2, h3⟩ := h
  rcases h3 with h3 | ⟨b, off, hb, hlt, hc⟩
  · omega
  injection hb with hb
  injection hb with e1 e2
  subst e1 e2
  refine ⟨by simp [h1], by omega, .inr ⟨q, i, rfl, hlt, fun t ht => ?_⟩⟩
  have := hc (i + t) (by omega)
  rw [Nat.zero_add] at this
  rw [this]
  simp [List.getD_eq_getElem?_getD]

set_option maxRecDepth 100000 in
set_option maxHeartbeats 1000000 in
theorem drawCycle (g n cap B : Nat) (a : Option Addr) (R : List (List Int)) (w : World) (h : Src w g) (ho : OwnM w B (.slice a n cap) R) (hB : g < B) (hn : n ≤ 200) :
    Calls Try.prog 86 #[.pointer (some ⟨g, 0, none⟩), .slice a n cap] w (DrawV g w) := by
  have hgs := h.lt
  have HS := Lib.hid h
  have HO := Lib.hid ho
  clear h ho
  by_cases hq : M.sqB R = true
  · have HQ := Lib.hid hq
    have HSq := Lib.hid (sq_of HO.out.mat hq)
    clear hq
    go_enter Try.func86, Try.ntmps86
    go_wp2_with fail
    refine (sSquare_b _ _ _ R _ true HQ.out HO.out.mat).mono ?_
    rintro e w' ⟨rfl, q, rfl⟩
    have HS1 : Hid (Src (w.drewN q) g) := HS.out.below ((b_draws w q).mono (by omega))
    have HT1 : Hid (Thr g w (w.drewN q)) := (Thr.refl g w).drewN q
    generalize w.drewN q = w1 at HS1 HT1
    go_wp2_with fail
    refine (next g 4 _ (by decide) HS1.out).mono ?_
    rintro e w2 ⟨x, rfl, hx1, -, hs2, ht2⟩
    have HS2 := Lib.hid hs2
    have HT2 := Lib.hid (HT1.out.trans ht2)
    clear hs2 ht2 HS1 HT1
    by_cases hx0 : 0 < x
    · have hg2 := HS2.out.lt
      have hlit : Hid (∀ i, i < 4 → ∃ x : Int, (Lit.int .i64 x).wf = true ∧ (w2.alloc (.cells #[.int .i64 (-1000000000000000), .int .i64 (-20), .int .i64 (-5), .int .i64 0] 2)).cell? ⟨w2.heap.size, 0 + i, none⟩ = some (.int .i64 x)) := fun i hi => by
        rcases (show i = 0 ∨ i = 1 ∨ i = 2 ∨ i = 3 by omega) with rfl | rfl | rfl | rfl
        · exact ⟨-1000000000000000, by decide, by simp⟩
        · exact ⟨-20, by decide, by simp⟩
        · exact ⟨-5, by decide, by simp⟩
        · exact ⟨0, by decide, by simp⟩
      go_wp2_with fail
      refine (pick g _ 0 4 4 _ (HS2.out.alloc _) (by omega) (by omega) hg2 hlit.out).mono ?_
      rintro e w3 ⟨y, rfl, -, hs3, ht3⟩
      have HS3 := Lib.hid hs3
      have HT3 := Lib.hid ((HT2.out.alloc (Nat.le_of_lt hg2) _).trans ht3)
      have HSq3 : Hid (Sq w3 a n R) := ⟨(HO.out.thr HT3.out hB).mat, HSq.out.2⟩
      clear hs3 ht3 HS2 HT2 hlit hg2
      obtain ⟨l, hl⟩ : ∃ l, l = M.overL (M.ent R) n y := ⟨_, rfl⟩
      have HL := Lib.hid hl
      have hl11 : l.length ≤ 11 := by rw [hl]; exact M.overL_len R n y HSq3.out.2.2.2.2
      clear hl
      go_wp2_with fail
      refine (sOver _ _ _ R y _ HSq3.out).mono ?_
      rintro e w4 ⟨b4, n4, c4, rfl, ho4, hb4⟩
      rw [← HL.out] at ho4
      have hn4 := ho4.len
      have hn11 : n4 ≤ 11 := by omega
      have HN4 := Lib.hid hn4
      have hz3 : w.heap.size ≤ w3.heap.size := HT3.out.below.size
      have HO4 := Lib.hid (ho4.mono hz3)
      have HS4 := Lib.hid (HS3.out.then hb4 HS3.out.lt)
      have HT4 := Lib.hid (HT3.out.then (hb4.mono hz3) (Nat.le_of_lt hgs))
      clear ho4 hb4 HS3 HT3 HSq3 hz3 HL hn4 hl11
      by_cases h0 : n4 = 0
      · subst h0
        have HR4 := Lib.hid (HO.out.thr HT4.out hB)
        go_wp2_with fail
        refine (drawNodes g n cap B a R _ HS4.out HR4.out hB hn).mono ?_
        rintro e w5 ⟨a5, n5, c5, l5, rfl, ho5, hs5, ht5⟩
        have HO5 := Lib.hid (ho5.mono HT4.out.below.size)
        have HS5 := Lib.hid hs5
        have HT5 := Lib.hid (HT4.out.trans ht5)
        clear ho5 hs5 ht5
        go_wp2
        go_ret
        exact ⟨_, _, _, l5, rfl, HO5.out, HS5.out, HT5.out⟩
      · have hn4p : 0 < n4 := by omega
        have hn4i : (0 : Int) < (n4 : Int) := by omega
        have hwn : (Lit.int .i64 (n4 : Int)).wf = true := wf_small _ (by omega) (by omega)
        have HWN := Lib.hid hwn
        clear hwn
        go_wp2_with fail
        refine (next g (n4 : Int) _ HWN.out HS4.out).mono ?_
        rintro e w5 ⟨k, rfl, hk1, hk2, hs5, ht5⟩
        obtain ⟨k, rfl⟩ := Int.eq_ofNat_of_zero_le hk1
        have hk : k < n4 := by omega
        have ho5 := HO4.out.thr ht5 hgs
        obtain ⟨q, rfl, hq⟩ := own_head ho5 (by rw [← HN4.out]; omega)
        have HO5 := Lib.hid ho5
        have HS5 := Lib.hid hs5
        have HT5 := Lib.hid (HT4.out.trans ht5)
        have hcap := (caps_own ho5).1
        clear ho5 hs5 ht5 HO4 HS4 HT4 hk2 hk1
        have HIk := Lib.hid (HO5.out.ints'.drop k hk)
        have hz5 : w.heap.size ≤ w5.heap.size := HT5.out.below.size
        have hki1 : (0 : Int) ≤ (k : Int) := by omega
        have hki2 : (k : Int) ≤ (n4 : Int) := by omega
        have hki3 : (k : Int) ≤ (c4 : Int) := by omega
        have hki4 : (n4 : Int) ≤ (c4 : Int) := by omega
        have hck : ¬ c4 = k := by omega
        go_wp2_with fail
        have HC5 : Hid (∀ i, i < k → w5.cell? ⟨q, i, none⟩ = some (.int .i64 ((l.take k).getD i 0))) := fun i hi => by
          obtain ⟨q2, o2, x, he, -, hx, hc⟩ := HO5.out.ints'.at i (by omega)
          injection he with he
          injection he with e1 e2
          subst e1 e2
          rw [Nat.zero_add] at hc
          rw [hc, hx]
          simp [List.getD_eq_getElem?_getD, List.getElem?_take, hi]
        have hqlt : Hid (∀ i, i < k → q < w5.heap.size) := fun i hi => cell_lt (HC5.out i hi)
        have HLn := Lib.hid HN4.out.symm
        refine wp_region_any (by kernel_rfl) ?_
        change wpAny _ _ _ _ _ _ _ (World.drew _)
        refine wpAny_take (i := 0) (v := ?v0) rfl (by kernel_rfl) (by kernel_rfl) (by kernel_rfl) (fun _ _ _ h => h) (Or.inl ⟨by rfl, ?hy0⟩) ?rest0
        case hy0 => (intro w; go_simp; try with_reducible rfl)
        (try simp only [Act.put, List.setIfInBounds_toArray, List.set_cons_zero, List.set_cons_succ])
        refine wpAny_take (i := 1) (v := ?v1) rfl (by kernel_rfl) (by kernel_rfl) (by kernel_rfl) (fun _ _ _ h => h) (Or.inl ⟨by rfl, ?hy1⟩) ?rest1
        case hy1 => (intro w; go_simp; try with_reducible rfl)
        (try simp only [Act.put, List.setIfInBounds_toArray, List.set_cons_zero, List.set_cons_succ])
        refine wpAny_take (i := 2) (v := ?v2) rfl (by kernel_rfl) (by kernel_rfl) (by kernel_rfl) (fun _ _ _ h => h) (Or.inl ⟨by rfl, ?hy2⟩) ?rest2
        case hy2 => (intro w; go_simp; try with_reducible rfl)
        (try simp only [Act.put, List.setIfInBounds_toArray, List.set_cons_zero, List.set_cons_succ])
        refine wpAny_take (i := 4) (v := ?v4) rfl (by kernel_rfl) (by kernel_rfl) (by kernel_rfl) (fun _ _ _ h => h) (Or.inl ⟨by rfl, ?hy4⟩) ?rest4
        case hy4 => (intro w; go_simp; try with_reducible rfl)
        (try simp only [Act.put, List.setIfInBounds_toArray, List.set_cons_zero, List.set_cons_succ])
        refine wpAny_take (i := 5) (v := ?v5) rfl (by kernel_rfl) (by kernel_rfl) (by kernel_rfl) (fun _ _ _ h => h) (Or.inl ⟨by rfl, ?hy5⟩) ?rest5
        case hy5 => (intro w; go_simp; try with_reducible rfl)
        (try simp only [Act.put, List.setIfInBounds_toArray, List.set_cons_zero, List.set_cons_succ])
        refine wpAny_take (i := 6) (v := ?v6) rfl (by kernel_rfl) (by kernel_rfl) (by kernel_rfl) (fun _ _ _ h => h) (Or.inl ⟨by rfl, ?hy6⟩) ?rest6
        case hy6 => (intro w; go_simp; try with_reducible rfl)
        (try simp only [Act.put, List.setIfInBounds_toArray, List.set_cons_zero, List.set_cons_succ])
        refine wpAny_ready (rs := [3]) (by kernel_rfl) (by simp) (AllReady.cons rfl (fun K hK => ?_) AllReady.nil)
        go_simp
        refine (sOwn _ _ _ (l.drop k) _ (HIk.out.below (Below.refl _ _).drew) (by omega) (by omega)).mono ?_
        rintro e w6 ⟨b6, c6, rfl, ho, hb⟩
        have HO6 := Lib.hid ho
        have HB6 := Lib.hid hb
        clear ho hb
        refine hK _ _ ?_
        clear hK K
        (try simp only [Act.put, List.setIfInBounds_toArray, List.set_cons_zero, List.set_cons_succ])
        refine wpAny_ready (rs := [7]) (by kernel_rfl) (by simp) (AllReady.cons rfl (fun K hK => ?_) AllReady.nil)
        refine step_appendN _ rfl _ _ rfl w5.heap.size _ (l.drop k) (l.take k) q (n4 - k) k _ (by simp [HLn.out]) (by simp [HLn.out]; omega) rfl HO6.out rfl (fun i hi => (HB6.out.cell (p := ⟨q, i, none⟩) (hqlt.out i hi)).trans (HC5.out i hi)) (by omega) HB6.out.size ?_
        intro b7 c7 w7 ho hb
        have HO7 := Lib.hid ho
        have HB7 := Lib.hid hb
        clear ho hb
        refine hK _ _ ?_
        clear hK K
        (try simp only [Act.put, List.setIfInBounds_toArray, List.set_cons_zero, List.set_cons_succ])
        refine wpAny_ready (rs := [8]) (by kernel_rfl) (by simp) (AllReady.cons rfl (fun K hK => ?_) AllReady.nil)
        go_simp
        refine hK _ _ ?_
        clear hK K
        (try simp only [Act.put, List.setIfInBounds_toArray, List.set_cons_zero, List.set_cons_succ])
        refine wpAny_done (by kernel_rfl) ?_ _
        all_goals
          have HB8 : Hid (Below w5.heap.size w5 w7) := ((Below.refl w5.heap.size w5).drew.trans HB6.out).trans HB7.out
          go_wp2
          go_ret
          exact ⟨_, _, _, _, rfl, HO7.out.mono hz5, HS5.out.then HB8.out HS5.out.lt, HT5.out.then (HB8.out.mono hz5) (Nat.le_of_lt hgs)⟩
    · obtain rfl : x = 0 := by omega
      have HR2 := Lib.hid (HO.out.thr HT2.out hB)
      go_wp2_with fail
      refine (drawNodes g n cap B a R _ HS2.out HR2.out hB hn).mono ?_
      rintro e w5 ⟨a5, n5, c5, l5, rfl, ho5, hs5, ht5⟩
      have HO5 := Lib.hid (ho5.mono HT2.out.below.size)
      have HS5 := Lib.hid hs5
      have HT5 := Lib.hid (HT2.out.trans ht5)
      clear ho5 hs5 ht5
      go_wp2
      go_ret
      exact ⟨_, _, _, l5, rfl, HO5.out, HS5.out, HT5.out⟩
  · simp only [Bool.not_eq_true] at hq
    have HQ := Lib.hid hq
    clear hq
    go_enter Try.func86, Try.ntmps86
    go_wp2_with fail
    refine (sSquare_b _ _ _ R _ false HQ.out HO.out.mat).mono ?_
    rintro e w' ⟨rfl, q, rfl⟩
    have HS1 : Hid (Src (w.drewN q) g) := HS.out.below ((b_draws w q).mono (by omega))
    have HT1 : Hid (Thr g w (w.drewN q)) := (Thr.refl g w).drewN q
    generalize w.drewN q = w1 at HS1 HT1
    have HR2 := Lib.hid (HO.out.thr HT1.out hB)
    go_wp2_with fail
    refine (drawNodes g n cap B a R _ HS1.out HR2.out hB hn).mono ?_
    rintro e w5 ⟨a5, n5, c5, l5, rfl, ho5, hs5, ht5⟩
    have HO5 := Lib.hid (ho5.mono HT1.out.below.size)
    have HS5 := Lib.hid hs5
    have HT5 := Lib.hid (HT1.out.trans ht5)
    clear ho5 hs5 ht5
    go_wp2
    go_ret
    exact ⟨_, _, _, l5, rfl, HO5.out, HS5.out, HT5.out⟩

set_option maxRecDepth 100000 in
set_option maxHeartbeats 1000000 in
theorem drawIsCycle (a : Option Addr) (n cap : Nat) (w : World) (h : Bytes w a n) :
    Calls Try.prog 37 #[.slice a n cap] w (DrawnMN w) := by
  have HB := Lib.hid h
  clear h
  go_enter Try.func37, Try.ntmps37
  go_wp2_with fail
  refine (from_ _ _ _ _ HB.out).mono ?_
  rintro e w1 ⟨rfl, hs1, hb1⟩
  have HS1 := Lib.hid hs1
  have HB1 := Lib.hid hb1
  have hg1 := hs1.lt
  clear hs1 hb1
  go_wp2_with fail
  refine (draw3 _ _ HS1.out).mono ?_
  rintro e w2 ⟨a2, n2, c2, R, rfl, hn2, ho, hs2, ht2⟩
  have HO2 := Lib.hid ho
  have HS2 := Lib.hid hs2
  have HB2 := Lib.hid (HB1.out.trans ht2.below)
  clear ho hs2 ht2
  go_wp2_with fail
  refine (drawCycle _ n2 _ _ _ R _ HS2.out HO2.out hg1 hn2).mono ?_
  rintro e w6 ⟨a6, n6, c6, l, rfl, ho6, hs6, ht6⟩
  have HI := Lib.hid ho6.ints'
  have HC := Lib.hid (caps_own ho6)
  have HM := Lib.hid (HO2.out.thr ht6 hg1).mat
  have HB6 := Lib.hid (HB2.out.trans ht6.below)
  clear ho6 hs6 ht6
  go_wp2
  go_ret2
  exact ⟨_, _, _, R, _, _, _, l, rfl, HM.out, HI.out, HC.out.1, HC.out.2, HB6.out⟩
set_option maxRecDepth 100000 in
set_option maxHeartbeats 1000000 in
theorem drawCycleWeight (a : Option Addr) (n cap : Nat) (w : World) (h : Bytes w a n) :
    Calls Try.prog 34 #[.slice a n cap] w (DrawnMN w) := by
  have HB := Lib.hid h
  clear h
  go_enter Try.func34, Try.ntmps34
  go_wp2_with fail
  refine (drawIsCycle _ _ _ _ HB.out).mono ?_
  rintro e w1 ⟨a2, n2, c2, R, a6, n6, c6, l, rfl, hM, hI, hc1, hc2, hb⟩
  have HM := Lib.hid hM
  have HI := Lib.hid hI
  have HBb := Lib.hid hb
  have HC := Lib.hid (And.intro hc1 hc2)
  clear hM hI hb hc1 hc2
  go_wp2
  go_ret2
  exact ⟨_, _, _, R, _, _, _, l, rfl, HM.out, HI.out, HC.out.1, HC.out.2, HBb.out⟩
set_option maxRecDepth 100000 in
set_option maxHeartbeats 1000000 in
theorem drawPositiveCycle (a : Option Addr) (n cap : Nat) (w : World) (h : Bytes w a n) :
    Calls Try.prog 33 #[.slice a n cap] w (DrawnM w) := by
  have HB := Lib.hid h
  clear h
  go_enter Try.func33, Try.ntmps33
  go_wp2_with fail
  refine (from_ _ _ _ _ HB.out).mono ?_
  rintro e w1 ⟨rfl, hs1, hb1⟩
  have HS1 := Lib.hid hs1
  have HB1 := Lib.hid hb1
  have hg1 := hs1.lt
  clear hs1 hb1
  go_wp2_with fail
  refine (next _ 2 _ (by decide) HS1.out).mono ?_
  rintro e w3 ⟨x, rfl, hx1, -, hs3, ht3⟩
  have HS3 := Lib.hid hs3
  have HB3 := Lib.hid (HB1.out.trans ht3.below)
  clear hs3 ht3 HS1 HB1
  by_cases hx0 : x = 0
  · subst hx0
    go_wp2_with fail
    refine (drawSquare _ _ HS3.out).mono ?_
    rintro e w2 ⟨a2, n2, c2, R, rfl, ho, hs2, ht2⟩
    have HO := Lib.hid ho.mat
    have HB2 := Lib.hid (HB3.out.trans ht2.below)
    clear ho hs2 ht2
    go_wp2
    go_ret
    exact ⟨a2, n2, c2, R, rfl, HO.out, HB2.out⟩
  · have ex : (x == 0) = false := by simpa using hx0
    go_wp2_with fail
    refine (draw3 _ _ HS3.out).mono ?_
    rintro e w2 ⟨a2, n2, c2, R, rfl, -, ho, hs2, ht2⟩
    have HO := Lib.hid ho.mat
    have HB2 := Lib.hid (HB3.out.trans ht2.below)
    clear ho hs2 ht2
    go_wp2
    go_ret
    exact ⟨a2, n2, c2, R, rfl, HO.out, HB2.out⟩
end Go.Proofs.Ytkilnneepnbckaa.V

namespace Go.Proofs.Ytkilnneepnbckaa.V
open Go.RowKit
theorem cell_blk {w w' : World} {p : Addr} (h : w'.heap[p.block]? = w.heap[p.block]?) : w'.cell? p = w.cell? p := World.cell?_of_block (w := w) h
theorem keep_a {p : Addr} {v : Value} {w w' : World} {B : Nat} {w0 : World} (h : w'.cell? p = some v ∧ Below B w0 w') (hp : p.block < B) (hB : B ≤ w0.heap.size) (o : Obj) : (w'.alloc o).cell? p = some v ∧ Below B w0 (w'.alloc o) := by
  have hz := h.2.size
  exact ⟨((b_alloc w' o).cell (by omega)).trans h.1, h.2.alloc (by omega) o⟩
theorem keep_b {p : Addr} {v : Value} {w' w2 : World} {B : Nat} {w0 : World} (h : w'.cell? p = some v ∧ Below B w0 w') (hp : p.block < B) (hb : Below B w' w2) : w2.cell? p = some v ∧ Below B w0 w2 :=
  ⟨(hb.cell hp).trans h.1, h.2.trans hb⟩
theorem below_r {A : Prop} {B : Nat} {w0 w' : World} (h : A ∧ Below B w0 w') : Below B w0 w' := h.2

/-- The integers of a slice are appended to a new empty list, at a step of a region. -/
theorem step_appendP (w : World) {ops : Array Oper} {o : Oper} {a : Act} {K : Act → World → Prop} {Q : Exit → Act → World → Prop} {E : Prop} (hgd : o.guard = none) (s x : Operand)
    (ho : o.op = .call { callee := .builtin .append, args := #[s, x], argTypes := #[28, 28] }) (B : Nat) (v : Value) (l2 : List Int) (pa : Option Addr) (m c : Nat) (hm : l2.length = m) (hs : a.eval s = v) (hown : Own w B v [])
    (hx : a.eval x = .slice pa m c) (hpa : ∃ ad, pa = some ad ∧ ∀ i, i < m → w.cell? (ad.add i) = some (.int .i64 (l2.getD i 0))) (hlen : m ≤ 1000) (hB : B ≤ w.heap.size)
    (h : ∀ b' c' w', Own w' B (.slice b' m c') l2 → Below B w w' → (∀ k, k < w.heap.size → v.ownBlock ≠ some k → w'.heap[k]? = w.heap[k]?) → K (a.put o.dst (.slice b' m c')) w') :
    if Region.wanted o (yielded ops a.tmps) = true then Oper.wp Try.prog o a w K Q else E := by
  subst hm
  obtain ⟨ad, rfl, hy⟩ := hpa
  obtain ⟨i0, hi, hz0, hz1, hz2⟩ := info_parts info64
  have hw : Region.wanted o (yielded ops a.tmps) = true := by simp [Region.wanted, hgd]
  rw [if_pos hw]
  obtain ⟨v', w', hr, h2, h3, -, -⟩ := run_append_own_at (P := Try.prog) w B 28 o.type 2 i0 (.int .i64 0) 1 8 Try.underlying28 hi hz0 hz1 hz2 rfl (by decide) v 0 [] hown ad l2.length c (l2.map (Value.int .i64)) (by simp) (fun j u hj => by
      have hj2 : j < l2.length := by
        have := (List.getElem?_eq_some_iff.1 hj).1
        simpa using this
      rw [hy j hj2, ← hj]
      simp [hj2]) (fun u hu => by obtain ⟨x, _, rfl⟩ := List.mem_map.1 hu; rfl) (by unfold maxLen; omega) (by omega) hB
  have ho' : Own w' B v' l2 := by
    show w'.ownsRow B _ 1 v' l2.length (l2.map (Value.int .i64))
    simpa using h2
  obtain ⟨b', c', hv, -⟩ := own_form ho'
  subst hv
  unfold Oper.wp execOp
  simp only [ho, resolve, invoke, builtin, Sem.run_bind, Sem.run_pure, Result.andThen_ok, List.map_toArray, List.map_cons, List.map_nil, hs, hx, hr]
  refine h b' c' w' ho' ((Below.refl B w).grown h3 hB (fun k hk => (own_lt hown hk).1)) (fun k hk hne => ?_)
  obtain ⟨g1, g2, g3, g4, g5⟩ := h3
  exact g5 k hk (fun e => hne e.symm)
end Go.Proofs.Ytkilnneepnbckaa.V
