/- Texts laid together: D3b, D3c, D3d, D3e, MatJ, D3z, Dr4. -/
import Derived.Test.YtmhpgnndjagogaaGreatQz20
import Derived.Test.YtmhpgnndjagogaaGreatQz2
import Derived.Test.YtmhpgnndjagogaaGreatQz6
import Derived.Deep.RegionHeld3
import Derived.StillTailTactics
import Derived.IntWalk
import Derived.Test.YtmhpgnndjagogaaGreatQz7
import Derived.Test.YtmhpgnndjagogaaGreatQz18
import Derived.Test.YtmhpgnndjagogaaGreatQz16
set_option linter.unusedSimpArgs false
set_option linter.unusedVariables false
set_option linter.unusedSectionVars false
namespace Go.Proofs.YtmhpgnndjagogaaGreat.V
open Go.RowKit

end Go.Proofs.YtmhpgnndjagogaaGreat.V

namespace Go.Proofs.YtmhpgnndjagogaaGreat.V
open Go.RowKit


/-- A drawn matrix and two drawn numbers. -/
def DrawnMII (w : World) (e : Ending) (w' : World) : Prop :=
  ∃ (a : Option Addr) (n cap : Nat) (R : List (List Int)) (x y : Int), e = .returned (.tuple #[.slice a n cap, .int .i64 x, .int .i64 y]) ∧ Mat w' a n R ∧ Below w.heap.size w w'
end Go.Proofs.YtmhpgnndjagogaaGreat.V

namespace Go.Proofs.YtmhpgnndjagogaaGreat.V
open Go.RowKit

set_option maxRecDepth 100000 in
set_option maxHeartbeats 4000000 in
theorem drawNodes (g n cap B : Nat) (a : Option Addr) (R : List (List Int)) (w : World) (h : Src w g) (ho : OwnM w B (.slice a n cap) R) (hB : g < B) (hn : n ≤ 200) :
    Calls Tryz.prog 58 #[.pointer (some ⟨g, 0, none⟩), .slice a n cap] w (DrawV g w) := by
  have hgs := h.lt
  have HS := Lib.hid h
  have HO := Lib.hid ho
  clear h ho
  by_cases hn0 : n = 0
  · subst hn0
    go_enter Tryz.func58, Tryz.ntmps58
    go_wp2
    go_ret
    exact ⟨_, _, _, [0], rfl, World.ownsRow_lit w #[.int .i64 0] 1 (Nat.le_refl _) (by decide) rfl, HS.out.alloc _, (Thr.refl _ _).alloc (Nat.le_of_lt hgs) _⟩
  · have e0 : (n == 0) = false := by simpa using hn0
    have e1 : ((n : Int) == 0) = false := by simp; omega
    have hwn : (Lit.int .i64 (n : Int)).wf = true := wf_small _ (by omega) (by omega)
    have HWN := Lib.hid hwn
    clear hwn
    go_enter Tryz.func58, Tryz.ntmps58
    go_wp2_with fail
    refine (next _ _ _ HWN.out HS.out).mono ?_
    rintro e w1 ⟨x, rfl, hx1, hx2, hs1, ht1⟩
    have hz1 : w.heap.size ≤ w1.heap.size := ht1.below.size
    have HJ0 : Hid (DL g w.heap.size (.slice (some ⟨w1.heap.size, 0, none⟩) 1 1) [x] w (w1.alloc (.cells #[.int .i64 x] 2))) :=
      ⟨World.ownsRow_lit w1 #[.int .i64 x] 1 hz1 (by decide) rfl, hs1.alloc _, ht1.alloc (by omega) _⟩
    have HL0 : Hid (∀ y ∈ [x], 0 ≤ y ∧ y < (n : Int)) := fun y hy => by
      simp at hy
      subst hy
      omega
    clear hx2 hs1 ht1
    go_wp2_with fail
    refine (next g 6 _ (by decide) HJ0.out.2.1).mono ?_
    rintro e w2 ⟨kk, rfl, hk1, hk2, hs2, ht2⟩
    obtain ⟨kk, rfl⟩ := Int.eq_ofNat_of_zero_le hk1
    have hk6 : kk < 6 := by omega
    have HJ1 := Lib.hid (HJ0.out.next hgs hs2 ht2)
    clear hs2 ht2 HJ0 hk2 hk1
    go_wp2
    go_loopw [6, 7, 8, 9, 10] (fun out i _ _ _ wr => ∃ (j t : Nat) (l : List Int) (b : Option Addr) (c : Nat), j + t ≤ 6 ∧ i = .int .i64 j ∧ out = .slice b (t + 1) c ∧ Hid (DL g w.heap.size (.slice b (t + 1) c) l w wr) ∧ Hid (∀ y ∈ l, 0 ≤ y ∧ y < (n : Int))) (fun _ i _ _ _ _ => (intOf i).toNat)
    case atStart => exact ⟨kk, 0, _, _, _, by omega, rfl, rfl, HJ1, HL0⟩
    case round =>
      obtain ⟨j, t, l, b, c, hjt, rfl, rfl, HJ, HL⟩ := hrel
      obtain ⟨wo, rfl⟩ : ∃ x, x = wr := ⟨_, rfl⟩
      clear HJ1 HL0
      by_cases hj : 0 < j
      · have hji : (0 : Int) < (j : Int) := by omega
        go_wp2_with fail
        refine (next _ _ _ HWN.out HJ.out.2.1).mono ?_
        rintro e w3 ⟨y, rfl, hy1, hy2, hs3, ht3⟩
        obtain ⟨y, rfl⟩ := Int.eq_ofNat_of_zero_le hy1
        have hyn : y < n := by omega
        have HJ2 := Lib.hid (HJ.out.next hgs hs3 ht3)
        clear hs3 ht3 hy2 hy1 HJ
        have hlen := HJ2.out.1.len
        have HLn := Lib.hid hlen
        have hz2 : w.heap.size ≤ w3.heap.size := HJ2.out.2.2.below.size
        obtain ⟨d, od, x1, rfl, -, hx1', cx⟩ := HJ2.out.1.ints'.at t (by omega)
        have hxm : x1 ∈ l := by
          have : t < l.length := by omega
          rw [hx1']
          simp only [List.getD_eq_getElem?_getD, List.getElem?_eq_getElem this, Option.getD_some]
          exact List.getElem_mem this
        obtain ⟨hxa, hxb⟩ := HL.out x1 hxm
        obtain ⟨x2, rfl⟩ := Int.eq_ofNat_of_zero_le hxa
        have hx2n : x2 < n := by omega
        have HOw := Lib.hid (HO.out.thr HJ2.out.2.2 hB)
        have ht1 : ((t : Int) + 1 - 1) = (t : Int) := by omega
        have hN0 : (0 : Int) < (n : Int) := by omega
        clear hlen hx1' hxm hxa hxb
        go_wp2
        clear cx ht1
        go_loopw [8, 10] (fun nx i wr => ∃ (p q : Nat), p < n ∧ q ≤ n ∧ nx = .int .i64 p ∧ i = .int .i64 q ∧ wr = w3) (fun _ i _ => n - (intOf i).toNat)
        case atStart => exact ⟨y, 0, hyn, Nat.zero_le _, rfl, rfl, rfl⟩
        case round =>
          obtain ⟨p, q, hp, hq, rfl, rfl, rfl⟩ := hrel
          have hpi : (p : Int) < (n : Int) := by omega
          have HLx : Hid (∀ z ∈ l ++ [(p : Int)], 0 ≤ z ∧ z < (n : Int)) := fun z hz => by
            rcases List.mem_append.1 hz with h | h
            · exact HL.out z h
            · simp at h; omega
          have HJq : Hid (DL g w.heap.size (.slice (some ⟨d, od, none⟩) (t + 1) c) l w wr) := HJ2
          have hzr : w.heap.size ≤ wr.heap.size := hz2
          have hmod : ((p : Int) + 1) % (n : Int) = (((p + 1) % n : Nat) : Int) := by first | norm_cast | (push_cast; rfl) | simp
          have hmn : (p + 1) % n < n := Nat.mod_lt _ (by omega)
          have HEnd : Hid (∀ b2 c2 w4, Own w4 w.heap.size (.slice b2 (t + 1 + 1) c2) (l ++ [(p : Int)]) → Below w.heap.size wr w4 → DL g w.heap.size (.slice b2 (t + 1 + 1) c2) (l ++ [(p : Int)]) w w4) := fun b2 c2 w4 h1 h2 => HJ2.out.app hgs h1 h2
          by_cases hq0 : q < n
          · have hqi : (q : Int) < (n : Int) := by omega
            obtain ⟨ab, ao, ra, rc, Lr, lr, hab, -, hlr, cr, hIr⟩ := HOw.out.mat.at p hp
            by_cases hl : x2 < Lr
            · have hli : (x2 : Int) < (Lr : Int) := by omega
              obtain ⟨rb, ro, z, rfl, -, hz, cz⟩ := hIr.at x2 hl
              clear hlr hz hIr
              subst hab
              have HM := Lib.hid hmod
              clear hmod
              by_cases hb : z = -1000000000000000
              · subst hb
                go_wp2
                rw [HM.out]
                go_roundw
                case rel => exact ⟨_, q + 1, hmn, by omega, rfl, by go_num, trivial⟩
                case measure => simp [intOf]; omega
              · have hb2 : (z == -1000000000000000) = false := by simpa using hb
                go_wp2_with (at_builtin; refine append1 _ rfl (.tmp 63) (.tmp 65) rfl w.heap.size _ _ _ (t + 1) HLn.out.symm rfl HJq.out.1 rfl (by rw [← HLn.out]; omega) hzr ?_)
                intro b2 c2 w4 hO4 hb4 _
                have HJ4 := Lib.hid (HEnd.out _ _ _ hO4 hb4)
                clear hO4 hb4
                go_wp2
                go_roundw
                case rel => exact ⟨j - 1, t + 1, _, _, _, by omega, by go_num, rfl, HJ4, HLx⟩
                case measure => simp [intOf]; omega
            · have hli : ¬ ((x2 : Int) < (Lr : Int)) := by omega
              have hli2 : (Lr : Int) ≤ (x2 : Int) := by omega
              clear hlr hIr hmod
              subst hab
              go_wp2_with (at_builtin; refine append1 _ rfl (.tmp 63) (.tmp 65) rfl w.heap.size _ _ _ (t + 1) HLn.out.symm rfl HJq.out.1 rfl (by rw [← HLn.out]; omega) hzr ?_)
              intro b2 c2 w4 hO4 hb4 _
              have HJ4 := Lib.hid (HEnd.out _ _ _ hO4 hb4)
              clear hO4 hb4
              go_wp2
              go_roundw
              case rel => exact ⟨j - 1, t + 1, _, _, _, by omega, by go_num, rfl, HJ4, HLx⟩
              case measure => simp [intOf]; omega
          · obtain rfl : q = n := by omega
            clear hmod
            go_wp2_with (at_builtin; refine append1 _ rfl (.tmp 63) (.tmp 65) rfl w.heap.size _ _ _ (t + 1) HLn.out.symm rfl HJq.out.1 rfl (by rw [← HLn.out]; omega) hzr ?_)
            intro b2 c2 w4 hO4 hb4 _
            have HJ4 := Lib.hid (HEnd.out _ _ _ hO4 hb4)
            clear hO4 hb4
            go_wp2
            go_roundw
            case rel => exact ⟨j - 1, t + 1, _, _, _, by omega, by go_num, rfl, HJ4, HLx⟩
            case measure => simp [intOf]; omega
      · obtain rfl : j = 0 := by omega
        go_wp2_with fail
        refine (next g 40 _ (by decide) HJ.out.2.1).mono ?_
        rintro e w3 ⟨x5, rfl, -, -, hs3, ht3⟩
        have HJ3 := Lib.hid (HJ.out.next hgs hs3 ht3)
        have hz3 : w.heap.size ≤ w3.heap.size := HJ3.out.2.2.below.size
        clear hs3 ht3 HJ
        by_cases hx0 : x5 = 0
        · subst hx0
          have hlit : Hid (∀ i, i < 2 → ∃ x : Int, (Lit.int .i64 x).wf = true ∧ (w3.alloc (.cells #[.int .i64 (-1), .int .i64 n] 2)).cell? ⟨w3.heap.size, 0 + i, none⟩ = some (.int .i64 x)) := fun i hi => by
            rcases (show i = 0 ∨ i = 1 by omega) with rfl | rfl
            · exact ⟨-1, by decide, by simp⟩
            · exact ⟨n, HWN.out, by simp⟩
          go_wp2_with fail
          refine (pick g _ 0 2 2 _ (HJ3.out.2.1.alloc _) (by omega) (by omega) (Nat.lt_of_lt_of_le hgs hz3) hlit.out).mono ?_
          rintro e w4 ⟨y, rfl, hyw, hs4, ht4⟩
          have HJ4 : Hid (DL g w.heap.size (.slice b (t + 1) c) l w w4) := ⟨((HJ3.out.1.below (b_alloc w3 (.cells #[.int .i64 (-1), .int .i64 n] 2))).thr ht4 hgs), hs4, (HJ3.out.2.2.alloc (Nat.le_trans (Nat.le_of_lt hgs) hz3) _).trans ht4⟩
          have hz4 : w.heap.size ≤ w4.heap.size := HJ4.out.2.2.below.size
          have HLn := Lib.hid HJ4.out.1.len
          clear hs4 ht4 hyw HJ3
          go_wp2_with (at_builtin; refine append1 _ rfl (.tmp 71) (.tmp 76) rfl w.heap.size _ _ _ (t + 1) HLn.out.symm rfl HJ4.out.1 rfl (by rw [← HLn.out]; omega) hz4 ?_)
          intro b2 c2 w5 hO5 hb5 _
          have HJ5 := Lib.hid (HJ4.out.app hgs hO5 hb5)
          clear hO5 hb5
          go_wp2
          go_ret
          exact ⟨_, _, _, _, rfl, HJ5.out.1, HJ5.out.2.1, HJ5.out.2.2⟩
        · have e0 : (x5 == 0) = false := by simpa using hx0
          by_cases hx1' : x5 = 1
          · subst hx1'
            go_wp2
            go_ret
            exact ⟨_, _, _, [], rfl, own_nil _ _, HJ3.out.2.1, HJ3.out.2.2⟩
          · have e1 : (x5 == 1) = false := by simpa using hx1'
            go_wp2
            go_ret
            exact ⟨_, _, _, _, rfl, HJ3.out.1, HJ3.out.2.1, HJ3.out.2.2⟩
end Go.Proofs.YtmhpgnndjagogaaGreat.V

namespace Go.Proofs.YtmhpgnndjagogaaGreat.V
open Go.RowKit

theorem wrap100 (y : Nat) (h : y < 4) : IntKind.i64.wrap (100 + (y : Int)) = ((100 + y : Nat) : Int) := by
  rw [IntWalk.i64_in _ (by omega)]; omega
theorem made_ints3 (w : World) (n : Nat) (hn : n ≤ maxLen) : Ints .i64 (w.alloc (.cells (madeCells #[.int .i64 0] n) 2)) (some ⟨w.heap.size, 0, none⟩) n (List.replicate n 0) := by
  have hr := World.rowIs_made w (.int .i64 0) n 2
  refine ⟨by simp, hn, .inr ⟨_, _, rfl, by simp, fun i hi => ?_⟩⟩
  rw [Nat.zero_add, hr.cell hi]
  simp [hi]

theorem rlit0 (w : World) (B : Nat) (h : B ≤ w.heap.size) : Own (w.alloc (.cells #[.int .i64 0] 2)) B (.slice (some ⟨w.heap.size, 0, none⟩) 1 1) [0] := World.ownsRow_lit w #[.int .i64 0] 1 h (by decide) rfl
theorem mlit0 (w : World) (B : Nat) (h : B ≤ w.heap.size) : OwnM ((w.alloc (.cells #[.int .i64 0] 2)).alloc (.cells #[.slice (some ⟨w.heap.size, 0, none⟩) 1 1] 28)) B (.slice (some ⟨w.heap.size + 1, 0, none⟩) 1 1) [[0]] := by
  have := ownM_lit1 (w.alloc (.cells #[.int .i64 0] 2)) B (by simp; omega) (rlit0 w B h)
  simpa using this
theorem b_up {w X : World} (h : Below w.heap.size w X) (o : Obj) : Below w.heap.size w (X.alloc o) := h.alloc h.size _
/-- What the six orders leave. -/
def Fin6 (w w' : World) (a' a : Option Addr) (y : Nat) : Prop := Mat w' a' 1 [[0]] ∧ Ints .i64 w' a (100 + y) (List.replicate (100 + y) 0) ∧ Below w.heap.size w w'
theorem fin_a (w w3 w6 : World) (y : Nat) (hy : y < 2) (hg : w.heap.size < w3.heap.size) (hb : Below w.heap.size w w3) (ht : Thr w.heap.size ((w3.alloc (.cells #[.int .i64 0] 2)).alloc (.cells #[.slice (some ⟨w3.heap.size, 0, none⟩) 1 1] 28)).drew w6) :
    Fin6 w (w6.alloc (.cells (madeCells #[.int .i64 0] (100 + y)) 2)) (some ⟨w3.heap.size + 1, 0, none⟩) (some ⟨w6.heap.size, 0, none⟩) y :=
  ⟨(((mlit0 w3 w3.heap.size (Nat.le_refl _)).keep (w' := ((w3.alloc (.cells #[.int .i64 0] 2)).alloc (.cells #[.slice (some ⟨w3.heap.size, 0, none⟩) 1 1] 28)).drew) (fun _ _ _ => rfl)).thr ht hg).mat.below (b_alloc _ _), made_ints3 _ _ (by unfold maxLen; omega), b_up ((b_up (b_up hb _) _).drew.trans ht.below) _⟩
theorem fin_b (w w3 w6 : World) (y : Nat) (hy : y < 2) (hg : w.heap.size < w3.heap.size) (hb : Below w.heap.size w w3) (ht : Thr w.heap.size (w3.alloc (.cells #[.int .i64 0] 2)).drew w6) :
    Fin6 w ((w6.alloc (.cells #[.slice (some ⟨w3.heap.size, 0, none⟩) 1 1] 28)).alloc (.cells (madeCells #[.int .i64 0] (100 + y)) 2)) (some ⟨w6.heap.size, 0, none⟩) (some ⟨w6.heap.size + 1, 0, none⟩) y := by
  have h1 : Own (w3.alloc (.cells #[.int .i64 0] 2)).drew w3.heap.size (.slice (some ⟨w3.heap.size, 0, none⟩) 1 1) [0] := rlit0 w3 w3.heap.size (Nat.le_refl _)
  have hz : w3.heap.size ≤ w6.heap.size := by have := ht.below.size; simp at this; omega
  have h2 := made_ints3 (w6.alloc (.cells #[.slice (some ⟨w3.heap.size, 0, none⟩) 1 1] 28)) (100 + y) (by unfold maxLen; omega)
  exact ⟨(ownM_lit1 w6 w3.heap.size hz (h1.thr ht hg)).mat.below (b_alloc _ _), by simpa using h2, b_up (b_up ((b_up hb _).drew.trans ht.below) _) _⟩
theorem fin_c (w w3 w6 : World) (y : Nat) (hy : y < 2) (hg : w.heap.size < w3.heap.size) (hb : Below w.heap.size w w3) (ht : Thr w.heap.size (w3.alloc (.cells #[.int .i64 0] 2)).drew w6) :
    Fin6 w ((w6.alloc (.cells (madeCells #[.int .i64 0] (100 + y)) 2)).alloc (.cells #[.slice (some ⟨w3.heap.size, 0, none⟩) 1 1] 28)) (some ⟨w6.heap.size + 1, 0, none⟩) (some ⟨w6.heap.size, 0, none⟩) y := by
  have h1 : Own (w3.alloc (.cells #[.int .i64 0] 2)).drew w3.heap.size (.slice (some ⟨w3.heap.size, 0, none⟩) 1 1) [0] := rlit0 w3 w3.heap.size (Nat.le_refl _)
  have hz : w3.heap.size ≤ w6.heap.size := by have := ht.below.size; simp at this; omega
  have h2 := made_ints3 w6 (100 + y) (by unfold maxLen; omega)
  have h3 := ownM_lit1 (w6.alloc (.cells (madeCells #[.int .i64 0] (100 + y)) 2)) w3.heap.size (by simp; omega) ((h1.thr ht hg).below (b_alloc w6 _))
  exact ⟨by simpa using h3.mat, h2.below (b_alloc _ _), b_up (b_up ((b_up hb _).drew.trans ht.below) _) _⟩
theorem fin_d (w w3 w6 : World) (y : Nat) (hy : y < 2) (hb : Below w.heap.size w w3) (ht : Thr w.heap.size w3.drew w6) :
    Fin6 w (((w6.alloc (.cells #[.int .i64 0] 2)).alloc (.cells #[.slice (some ⟨w6.heap.size, 0, none⟩) 1 1] 28)).alloc (.cells (madeCells #[.int .i64 0] (100 + y)) 2)) (some ⟨w6.heap.size + 1, 0, none⟩) (some ⟨w6.heap.size + 1 + 1, 0, none⟩) y := by
  have h2 := made_ints3 ((w6.alloc (.cells #[.int .i64 0] 2)).alloc (.cells #[.slice (some ⟨w6.heap.size, 0, none⟩) 1 1] 28)) (100 + y) (by unfold maxLen; omega)
  exact ⟨(mlit0 w6 _ (Nat.le_refl _)).mat.below (b_alloc _ _), by simpa using h2, b_up (b_up (b_up (hb.drew.trans ht.below) _) _) _⟩
theorem fin_e (w w3 w6 : World) (y : Nat) (hy : y < 2) (hb : Below w.heap.size w w3) (ht : Thr w.heap.size w3.drew w6) :
    Fin6 w (((w6.alloc (.cells #[.int .i64 0] 2)).alloc (.cells (madeCells #[.int .i64 0] (100 + y)) 2)).alloc (.cells #[.slice (some ⟨w6.heap.size, 0, none⟩) 1 1] 28)) (some ⟨w6.heap.size + 1 + 1, 0, none⟩) (some ⟨w6.heap.size + 1, 0, none⟩) y := by
  have h2 := made_ints3 (w6.alloc (.cells #[.int .i64 0] 2)) (100 + y) (by unfold maxLen; omega)
  have h3 := ownM_lit1 ((w6.alloc (.cells #[.int .i64 0] 2)).alloc (.cells (madeCells #[.int .i64 0] (100 + y)) 2)) w6.heap.size (by simp; omega) ((rlit0 w6 _ (Nat.le_refl _)).below (b_alloc _ _))
  exact ⟨by simpa using h3.mat, by simpa using h2.below (b_alloc _ _), b_up (b_up (b_up (hb.drew.trans ht.below) _) _) _⟩
theorem fin_f (w w3 w6 : World) (y : Nat) (hy : y < 2) (hb : Below w.heap.size w w3) (ht : Thr w.heap.size w3.drew w6) :
    Fin6 w (((w6.alloc (.cells (madeCells #[.int .i64 0] (100 + y)) 2)).alloc (.cells #[.int .i64 0] 2)).alloc (.cells #[.slice (some ⟨w6.heap.size + 1, 0, none⟩) 1 1] 28)) (some ⟨w6.heap.size + 1 + 1, 0, none⟩) (some ⟨w6.heap.size, 0, none⟩) y := by
  have h2 := made_ints3 w6 (100 + y) (by unfold maxLen; omega)
  have h3 := mlit0 (w6.alloc (.cells (madeCells #[.int .i64 0] (100 + y)) 2)) _ (Nat.le_refl _)
  exact ⟨by simpa using h3.mat, (h2.below (b_alloc _ _)).below (b_alloc _ _), b_up (b_up (b_up (hb.drew.trans ht.below) _) _) _⟩

/-- A drawn matrix and a drawn list of nodes. -/
def DrawnMN (w : World) (e : Ending) (w' : World) : Prop :=
  ∃ (a : Option Addr) (n cap : Nat) (R : List (List Int)) (a' : Option Addr) (N cap' : Nat) (l : List Int), e = .returned (.tuple #[.slice a n cap, .slice a' N cap']) ∧ Mat w' a n R ∧ Ints .i64 w' a' N l ∧ N ≤ cap' ∧ cap' ≤ maxLen ∧ Below w.heap.size w w'
theorem fin_out {w w' : World} {a' a : Option Addr} (y : Nat) (hy : y < 2) (h : Fin6 w w' a' a y) : DrawnMN w (.returned (.tuple #[.slice a' 1 1, .slice a (100 + y) (100 + y)])) w' :=
  ⟨_, _, _, _, _, _, _, _, rfl, h.1, h.2.1, Nat.le_refl _, by unfold maxLen; omega, h.2.2⟩
end Go.Proofs.YtmhpgnndjagogaaGreat.V

namespace Go.Proofs.YtmhpgnndjagogaaGreat
namespace M
section
variable {R : List (List Int)} {n : Nat} (hn : n ≤ 10) (hA : ∀ i j, i < n → j < n → Sm 1000001000000 (ent R i j))
include hn hA
/-- No path is heavier than the star says. -/
theorem along_star (hp : noPos (ent R) n = true) {l : List Int} (h1 : 1 ≤ l.length) (h2 : l.length ≤ 100) (hv : nodesB n l = true) : alongW R l ≤ starF (ent R) n (vx l (l.length - 1)) (vx l 0) := by
  have hd := o_diag hn hA hp
  have hx : ∀ u, u ≤ l.length - 1 → vx l u < n := fun u hu => by
    have := nodesB_at hv (k := u) (by omega)
    unfold vx; omega
  have hs : ∀ u, u < l.length - 1 → Sm 1000001000000 (ent R (vx l (u + 1)) (vx l u)) := fun u hu => hA _ _ (hx _ (by omega)) (hx _ (by omega))
  have e1 : o (starF (ent R) n (vx l (l.length - 1)) (vx l 0)) = obm (fun i j => o (ent R i j)) n n (vx l (l.length - 1)) (vx l 0) := by
    unfold starF
    rw [← clo_star hn hA hp (hx _ (Nat.le_refl _)) (hx 0 (Nat.zero_le _)), o_cbm hA n (by omega) _ _ (hx _ (Nat.le_refl _)) (hx 0 (Nat.zero_le _))]
  have e2 := owk_star hd (vx l) (l.length - 1) hx
  rw [← e1, ← o_wkc (by omega) hs] at e2
  exact (o_le (L := 100000000000000) (sm_up (wkc_sm hs) (by omega)) (sm_up (star_sm hn hA hp (hx _ (Nat.le_refl _)) (hx 0 (Nat.zero_le _))) (by omega)) (by omega)).1 e2
end
section
variable {R : List (List Int)} {n : Nat} (hA : ∀ i j, i < n → j < n → Sm 1000001000000 (ent R i j))
include hA
theorem hv_wkc {t s f : Nat} (hs : s ≤ 10) (ht : t < n) (hf : f < n) (h : cpw (ent R) n s t f ≠ -1000000000000000) (k : Nat) (hk : k ≤ s) :
    wkc (ent R) (xs (ent R) n t s f) k = cpw (ent R) n s t f - cpw (ent R) n (s - k) t (xs (ent R) n t s f k) := by
  induction k with
  | zero => show (0 : Int) = cpw (ent R) n s t f - cpw (ent R) n s t f; omega
  | succ k ih =>
    obtain ⟨h1, h2⟩ := xs_inv hA hs ht hf h k (by omega)
    obtain ⟨h3, h4⟩ := xs_inv hA hs ht hf h (k + 1) hk
    have h5 := xs_need hA hs ht hf h k (by omega)
    have b0 := cpw_sm hA s t f ht hf
    have b1 := cpw_sm hA (s - k) t _ ht h1
    have b2 := cpw_sm hA (s - (k + 1)) t _ ht h3
    have b3 := hA _ _ h3 h1
    have hs' : (1000001000000 : Int) * (s : Int) ≤ 10000010000000 := by omega
    have hk1 : (1000001000000 : Int) * ((s - k : Nat) : Int) ≤ 10000010000000 := by omega
    have hk2 : (1000001000000 : Int) * ((s - (k + 1) : Nat) : Int) ≤ 10000010000000 := by omega
    show times (wkc (ent R) (xs (ent R) n t s f) k) (ent R (xs (ent R) n t s f (k + 1)) (xs (ent R) n t s f k)) = _
    rw [ih (by omega), h5]
    rw [h5] at b2 h4
    unfold Sm at b0 b1 b2 b3
    unfold times
    rw [if_neg (by omega)]
    omega
theorem hv_along {t s f : Nat} (hs : s ≤ 10) (ht : t < n) (hf : f < n) (h : cpw (ent R) n s t f ≠ -1000000000000000) :
    alongW R (hvL (ent R) n t s f (s + 1)) = cpw (ent R) n s t f := by
  have e : wkc (ent R) (vx (hvL (ent R) n t s f (s + 1))) s = wkc (ent R) (xs (ent R) n t s f) s := wkc_congr fun u hu => by
    unfold vx; rw [hvL_at _ _ _ _ _ _ _ (by omega)]; simp
  unfold alongW
  rw [hvL_len, show s + 1 - 1 = s by omega, e, hv_wkc hA hs ht hf h s (Nat.le_refl _), Nat.sub_self, xs_end hA hs ht hf h]
  show _ - unit t t = _
  unfold unit
  rw [if_pos rfl]; omega
theorem hv_nodes {t s f : Nat} (hs : s ≤ 10) (ht : t < n) (hf : f < n) (h : cpw (ent R) n s t f ≠ -1000000000000000) : nodesB n (hvL (ent R) n t s f (s + 1)) = true := by
  unfold nodesB hvL
  rw [List.all_map, List.all_eq_true]
  intro i hi
  have := (xs_inv hA hs ht hf h i (by have := List.mem_range.1 hi; omega)).1
  simp [inN]; omega
end
/-- What an answer of HeaviestPath says. -/
theorem heavy_t {R : List (List Int)} {f t : Int} (h : (heavyRes R f t).2 = 0) : sqB R = true ∧ inN R.length f = true ∧ inN R.length t = true ∧ noPos (ent R) R.length = true ∧ starF (ent R) R.length t.toNat f.toNat ≠ -1000000000000000 ∧ heavyRes R f t = (hvL (ent R) R.length t.toNat (arcs (ent R) R.length f.toNat t.toNat) f.toNat (arcs (ent R) R.length f.toNat t.toNat + 1), 0) := by
  unfold heavyRes at h ⊢
  by_cases h1 : sqB R = true
  · rw [if_pos h1] at h ⊢
    by_cases h2 : (inN R.length f && inN R.length t) = true
    · rw [if_pos h2] at h ⊢
      rw [Bool.and_eq_true] at h2
      by_cases h3 : noPos (ent R) R.length = true
      · rw [if_pos h3] at h ⊢
        by_cases h4 : starF (ent R) R.length t.toNat f.toNat = -1000000000000000
        · rw [if_pos h4] at h; simp at h
        · rw [if_neg h4]; exact ⟨h1, h2.1, h2.2, h3, h4, rfl⟩
      · rw [if_neg h3] at h; simp at h
    · rw [if_neg h2] at h; simp at h
  · rw [if_neg h1] at h; simp at h
theorem path_t {R : List (List Int)} {l : List Int} (h : (pathRes R l).2 = 0) : sqB R = true ∧ 1 ≤ l.length ∧ l.length ≤ 100 ∧ nodesB R.length l = true ∧ pathRes R l = (alongW R l, 0) := by
  unfold pathRes at h ⊢
  by_cases h1 : sqB R = true
  · rw [if_pos h1] at h ⊢
    by_cases h2 : 1 ≤ l.length ∧ l.length ≤ 100 ∧ nodesB R.length l = true
    · rw [if_pos h2] at h ⊢
      by_cases h3 : alongW R l = -1000000000000000
      · rw [if_pos h3] at h; simp at h
      · rw [if_neg h3] at h ⊢
        unfold chk at h ⊢
        by_cases h4 : isVal (alongW R l) = true
        · rw [if_pos h4]; exact ⟨h1, h2.1, h2.2.1, h2.2.2, rfl⟩
        · rw [if_neg h4] at h; simp at h
    · rw [if_neg h2] at h; simp at h
  · rw [if_neg h1] at h; simp at h
theorem star_t {R : List (List Int)} (h : (starRes R).2 = 0) : sqB R = true ∧ noPos (ent R) R.length = true ∧ isMat (starM R R.length) = true ∧ starRes R = (starM R R.length, 0) := by
  unfold starRes at h ⊢
  by_cases h1 : sqB R = true
  · rw [if_pos h1] at h ⊢
    by_cases h3 : noPos (ent R) R.length = true
    · rw [if_pos h3] at h ⊢
      by_cases h4 : isMat (starM R R.length) = true
      · rw [if_pos h4]; exact ⟨h1, h3, h4, rfl⟩
      · rw [if_neg h4] at h; simp at h
    · rw [if_neg h3] at h; simp at h
  · rw [if_neg h1] at h; simp at h
theorem star_l {R : List (List Int)} (h1 : sqB R = true) (h3 : noPos (ent R) R.length = true) (h : (starRes R).2 ≠ 0) : starRes R = ([], 3) := by
  unfold starRes at h ⊢
  rw [if_pos h1, if_pos h3] at h ⊢
  by_cases h4 : isMat (starM R R.length) = true
  · rw [if_pos h4] at h; simp at h
  · rw [if_neg h4]
theorem starM_len (R : List (List Int)) (n : Nat) : (starM R n).length = n := mk_length _ _ _
theorem starM_wid (R : List (List Int)) {n : Nat} (h : 0 < n) : wid (starM R n) = n := mk_wid _ _ _ h
theorem starM_ent (R : List (List Int)) {n i j : Nat} (hi : i < n) (hj : j < n) : ent (starM R n) i j = starF (ent R) n i j := ent_mk _ _ _ _ _ hi hj
theorem starM_row (R : List (List Int)) {n i : Nat} (hi : i < n) : ((starM R n).getD i []).length = n := mk_rowlen _ _ _ _ hi
theorem isMat_ent {R : List (List Int)} (h : isMat R = true) {i j : Nat} (hi : i < R.length) (hj : j < wid R) : isVal (ent R i j) = true := (isMat_t h).2.2.2.2.2 i hi j hj
end M
end Go.Proofs.YtmhpgnndjagogaaGreat



namespace Go.Proofs.YtmhpgnndjagogaaGreat.V
set_option maxRecDepth 100000
open Go.RowKit
theorem ownM_two (w : World) (B : Nat) (hB : B ≤ w.heap.size) {v1 v2 : Value} {l1 l2 : List Int} (h1 : Own w B v1 l1) (h2 : Own w B v2 l2) (hne : ∀ k, v1.ownBlock = some k → v2.ownBlock ≠ some k) :
    OwnM (w.alloc (.cells #[v1, v2] 28)) B (.slice (some ⟨w.heap.size, 0, none⟩) 2 2) [l1, l2] := by
  have lt1 : ∀ k, v1.ownBlock = some k → k < w.heap.size := fun k hk => (own_lt h1 hk).2
  have lt2 : ∀ k, v2.ownBlock = some k → k < w.heap.size := fun k hk => (own_lt h2 hk).2
  refine ⟨[v1, v2], rfl, World.ownsRow_lit w #[v1, v2] 2 hB (by decide) rfl, fun i hi => ?_, fun i hi k hk => ?_, fun i j hi hj hij k hk => ?_⟩
  · have : i = 0 ∨ i = 1 := by simp at hi; omega
    rcases this with rfl | rfl
    · exact h1.below (b_alloc w _)
    · exact h2.below (b_alloc w _)
  · have hk2 : k < w.heap.size := by
      have : i = 0 ∨ i = 1 := by simp at hi; omega
      rcases this with rfl | rfl
      · exact lt1 k hk
      · exact lt2 k hk
    intro e
    simp only [Value.ownBlock, Option.some.injEq] at e
    omega
  · have hi' : i = 0 ∨ i = 1 := by simp at hi; omega
    have hj' : j = 0 ∨ j = 1 := by simp at hj; omega
    rcases hi' with rfl | rfl <;> rcases hj' with rfl | rfl
    · omega
    · exact hne k hk
    · intro e; exact hne k e hk
    · omega
theorem ownLit2D (w : World) (B : Nat) (hB : B ≤ w.heap.size) (x y : Int) : Own (w.alloc (.cells #[.int .i64 x, .int .i64 y] 2)) B (.slice (some ⟨w.heap.size, 0, none⟩) 2 2) [x, y] := World.ownsRow_lit w #[.int .i64 x, .int .i64 y] 2 hB (by decide) rfl
set_option maxRecDepth 100000 in
set_option maxHeartbeats 2000000 in
theorem draw4 (g : Nat) (w : World) (h : Src w g) : Calls Tryz.prog 50 #[.pointer (some ⟨g, 0, none⟩)] w (DrawMB g w) := by
  have HS := Lib.hid h
  have hgl := h.lt
  clear h
  go_enter Tryz.func50, Tryz.ntmps50
  go_wp2_with fail
  refine (drawSquareB g _ HS.out).mono ?_
  rintro e w2 ⟨a2, n2, c2, R, rfl, hn2, ho, hs2, ht2⟩
  have HO2 := Lib.hid ho
  have HS2 := Lib.hid hs2
  have HT2 := Lib.hid ht2
  clear ho hs2 ht2
  go_wp2_with fail
  refine (next g 30 _ (by decide) HS2.out).mono ?_
  rintro e w3 ⟨x, rfl, -, -, hs3, ht3⟩
  have HO3 := Lib.hid (HO2.out.thr ht3 hgl)
  have HS3 := Lib.hid hs3
  have HT3 := Lib.hid (HT2.out.trans ht3)
  clear hs3 ht3 HO2 HS2 HT2
  by_cases hx0 : x = 0
  · subst hx0
    have hg3 := HS3.out.lt
    go_wp2_with fail
    refine (pick g _ 0 2 2 _ (HS3.out.alloc _) (by omega) (by omega) hg3 (litCells _ [1000000, 999983] _ _ rfl (by decide))).mono ?_
    rintro e w4 ⟨p1, rfl, -, hs4, ht4⟩
    have HS4 := Lib.hid hs4
    have HT4 := Lib.hid ((HT3.out.alloc (by omega) _).trans ht4)
    have hg4 := hs4.lt
    clear hs4 ht4
    have hg0 : g < w.heap.size := hgl
    have hz4 : w.heap.size ≤ w4.heap.size := HT4.out.below.size
    obtain ⟨wr, hwr⟩ : ∃ x, x = w4.alloc (.cells #[.int .i64 (-1000000000000000), .int .i64 p1] 2) := ⟨_, rfl⟩
    have HR1 : Hid (Own wr w.heap.size (.slice (some ⟨w4.heap.size, 0, none⟩) 2 2) [-1000000000000000, p1]) := by show Own _ _ _ _; rw [hwr]; exact ownLit2D _ _ hz4 _ _
    have HSr : Hid (Src wr g) := by show Src _ _; rw [hwr]; exact HS4.out.alloc _
    have HTr : Hid (Thr g w wr) := by show Thr _ _ _; rw [hwr]; exact HT4.out.alloc (by omega) _
    have hzr : wr.heap.size = w4.heap.size + 1 := by rw [hwr]; simp
    have hlit := litCells wr [1000000, -7] #[.int .i64 1000000, .int .i64 (-7)] 2 rfl (by decide)
    rw [hzr] at hlit
    have HLit := Lib.hid hlit
    have HZr := Lib.hid hzr
    clear hlit hzr
    go_wp2_with fail
    simp only [← hwr]
    clear hwr
    refine (pick g (w4.heap.size + 1) 0 2 2 _ (HSr.out.alloc _) (by omega) (by omega) (by omega) HLit.out).mono ?_
    rintro e w5 ⟨p2, rfl, -, hs5, ht5⟩
    have hzr := HZr.out
    have HS5 := Lib.hid hs5
    have ht5' : Thr g wr w5 := ((Thr.refl g wr).alloc (by omega) _).trans ht5
    have HT5 := Lib.hid (HTr.out.trans ht5')
    have HR5 := Lib.hid (HR1.out.thr ht5' hgl)
    have hz5 : w4.heap.size < w5.heap.size := by have := ht5'.below; have h2 := ht5.below.size; simp at h2; omega
    clear hs5 ht5 ht5' HR1 hzr
    have hz5b : w.heap.size ≤ w5.heap.size := by omega
    have hO := ownM_two (w5.alloc (.cells #[.int .i64 p2, .int .i64 (-1000000000000000)] 2)) w.heap.size (by simp; omega) (HR5.out.below (b_alloc _ _)) (ownLit2D w5 w.heap.size hz5b p2 (-1000000000000000)) (fun k hk e => by
      simp only [Value.ownBlock, Option.some.injEq] at hk e
      omega)
    have hzz : (w5.alloc (.cells #[.int .i64 p2, .int .i64 (-1000000000000000)] 2)).heap.size = w5.heap.size + 1 := by simp
    rw [hzz] at hO
    have HO := Lib.hid hO
    have HSf := Lib.hid ((HS5.out.alloc (.cells #[.int .i64 p2, .int .i64 (-1000000000000000)] 2)).alloc (.cells #[.slice (some ⟨w4.heap.size, 0, none⟩) 2 2, .slice (some ⟨w5.heap.size, 0, none⟩) 2 2] 28))
    have HTf := Lib.hid ((HT5.out.alloc (by omega) (.cells #[.int .i64 p2, .int .i64 (-1000000000000000)] 2)).alloc (by simp; omega) (.cells #[.slice (some ⟨w4.heap.size, 0, none⟩) 2 2, .slice (some ⟨w5.heap.size, 0, none⟩) 2 2] 28))
    clear hO hzz HR5
    go_wp2
    go_ret
    exact ⟨_, _, _, _, rfl, by omega, HO.out, HSf.out, HTf.out⟩
  · have ex : (x == 0) = false := by simpa using hx0
    go_wp2
    go_ret
    exact ⟨_, _, _, R, rfl, hn2, HO3.out, HS3.out, HT3.out⟩
/-- A drawn matrix, of few rows, and a drawn number. -/
def DrawNB (g : Nat) (w : World) (e : Ending) (w' : World) : Prop :=
  ∃ (a : Option Addr) (n cap : Nat) (R : List (List Int)) (x : Int), e = .returned (.tuple #[.slice a n cap, .int .i64 x]) ∧ n ≤ 200 ∧ OwnM w' w.heap.size (.slice a n cap) R ∧ Src w' g ∧ Thr g w w'
set_option maxRecDepth 100000 in
set_option maxHeartbeats 1000000 in
theorem drawBestCycle (a : Option Addr) (n cap : Nat) (w : World) (h : Bytes w a n) :
    Calls Tryz.prog 16 #[.slice a n cap] w (DrawnM w) := by
  have HB := Lib.hid h
  clear h
  go_enter Tryz.func16, Tryz.ntmps16
  go_wp2_with fail
  refine (from_ _ _ _ _ HB.out).mono ?_
  rintro e w1 ⟨rfl, hs1, hb1⟩
  have HS1 := Lib.hid hs1
  have HB1 := Lib.hid hb1
  clear hs1 hb1
  go_wp2_with fail
  refine (draw4 _ _ HS1.out).mono ?_
  rintro e w2 ⟨a2, n2, c2, R, rfl, -, ho, hs2, ht2⟩
  have HO := Lib.hid ho.mat
  have HB2 := Lib.hid (HB1.out.trans ht2.below)
  clear ho hs2 ht2
  go_wp2
  go_ret
  exact ⟨a2, n2, c2, R, rfl, HO.out, HB2.out⟩
set_option maxRecDepth 100000 in
set_option maxHeartbeats 1000000 in
theorem drawCertifyMean (a : Option Addr) (n cap : Nat) (w : World) (h : Bytes w a n) :
    Calls Tryz.prog 12 #[.slice a n cap] w (DrawnM w) := by
  have HB := Lib.hid h
  clear h
  go_enter Tryz.func12, Tryz.ntmps12
  go_wp2_with fail
  refine (from_ _ _ _ _ HB.out).mono ?_
  rintro e w1 ⟨rfl, hs1, hb1⟩
  have HS1 := Lib.hid hs1
  have HB1 := Lib.hid hb1
  clear hs1 hb1
  go_wp2_with fail
  refine (draw4 _ _ HS1.out).mono ?_
  rintro e w2 ⟨a2, n2, c2, R, rfl, -, ho, hs2, ht2⟩
  have HO := Lib.hid ho.mat
  have HB2 := Lib.hid (HB1.out.trans ht2.below)
  clear ho hs2 ht2
  go_wp2
  go_ret
  exact ⟨a2, n2, c2, R, rfl, HO.out, HB2.out⟩
end Go.Proofs.YtmhpgnndjagogaaGreat.V
