/- Texts laid together: Gr1, Gr2, It5, Itz, Dc, Dxb, Dxc. -/
import Derived.Test.YtmobcobdpemlnaaQa1
import Derived.Test.YtmobcobdpemlnaaQa10
import Derived.Test.YtmobcobdpemlnaaQa9
import Derived.Test.YtmobcobdpemlnaaQa16
import Derived.Test.YtmobcobdpemlnaaQa8
import Derived.WalkMore
import Derived.Deep.LoopGhost
import Derived.Scope
import Derived.Test.YtmobcobdpemlnaaQa7
import Derived.Maps.AppendAt
set_option linter.unusedSimpArgs false
set_option linter.unusedVariables false
set_option linter.unusedSectionVars false
namespace Go.Proofs.Ytmobcobdpemlnaa.V
open Go.RowKit

theorem keepg {w0 w w' : World} {B : Nat} {p q : Addr} {x y : Value} (h : w.cell? p = some x ∧ w.cell? q = some y ∧ Below B w0 w) (hp : p.block < B) (hq : q.block < B) (hb : Below B w w') : w'.cell? p = some x ∧ w'.cell? q = some y ∧ Below B w0 w' :=
  ⟨(hb.cell hp).trans h.1, (hb.cell hq).trans h.2.1, h.2.2.trans hb⟩
theorem belowg {w0 w : World} {B : Nat} {P Q : Prop} (h : P ∧ Q ∧ Below B w0 w) : Below B w0 w := h.2.2
end Go.Proofs.Ytmobcobdpemlnaa.V

namespace Go.Proofs.Ytmobcobdpemlnaa
namespace V
open Go.RowKit
theorem rlit (w : World) (B : Nat) (x : Int) (h : B ≤ w.heap.size) : Own (w.alloc (.cells #[.int .i64 x] 2)) B (.slice (some ⟨w.heap.size, 0, none⟩) 1 1) [x] := World.ownsRow_lit w #[.int .i64 x] 1 h (by decide) rfl
end V
end Go.Proofs.Ytmobcobdpemlnaa

namespace Go.Proofs.Ytmobcobdpemlnaa.V
open Go Go.RowKit Go.Shelf
attribute [local go_sem] Oper.semAt_some

theorem own_head {w : World} {B n c : Nat} {b : Option Addr} {p : List Int} (h : Own w B (.slice b n c) p) (hn : 0 < p.length) : ∃ g, b = some ⟨g, 0, none⟩ ∧ B ≤ g := by
  obtain ⟨a', c', hv, -, -, hg⟩ := own_form h
  injection hv with e1 e2 e3
  obtain ⟨g, h1, h2, -⟩ := hg hn
  exact ⟨g, by rw [e1]; exact h1, h2⟩

end Go.Proofs.Ytmobcobdpemlnaa.V
namespace Go.Proofs.Ytmobcobdpemlnaa.M
theorem pick_len {g : Nat → List Int} {m : Nat} (h : ∀ v, (g v).length ≤ m) : ∀ c k, (pick g c k).length ≤ m := by
  intro c
  induction c with
  | zero => intro k; exact Nat.zero_le _
  | succ c ih =>
    intro k
    show (if _ then _ else _ : List Int).length ≤ m
    split
    · exact ih _
    · exact h k
theorem posRes_len (R : List (List Int)) : (posRes R).1.length ≤ 11 := by
  unfold posRes
  split
  · next h =>
    obtain ⟨m1, m2, -⟩ := isMat_t (sqB_t h).1
    split
    · simp
    · have := pick_len (g := fun v => grow (ent R) R.length 0 R.length [(v : Int)] 0) (m := 11) (fun v => by
        have := grow_nodes (ent R) R.length 0 R.length [(v : Int)] 0
        simp at this; omega) R.length 0
      exact this
  · simp
end Go.Proofs.Ytmobcobdpemlnaa.M



namespace Go.Proofs.Ytmobcobdpemlnaa.M
theorem overL_len (R : List (List Int)) (n : Nat) (y : Int) (h : n ≤ 10) : (overL (ent R) n y).length ≤ 11 := by
  have := pick_len (g := fun v => grow (ent R) n y n [(v : Int)] 0) (m := 11) (fun v => by
    have := grow_nodes (ent R) n y n [(v : Int)] 0
    simp at this; omega) n 0
  exact this
end Go.Proofs.Ytmobcobdpemlnaa.M
namespace Go.Proofs.Ytmobcobdpemlnaa.V
open Go.RowKit

/-- The integers of a slice are appended to an owned list, at a step of a region. -/
theorem step_appendN (w : World) {ops : Array Oper} {o : Oper} {a : Act} {K : Act → World → Prop} {Q : Exit → Act → World → Prop} {E : Prop} (hgd : o.guard = none) (s x : Operand)
    (ho : o.op = .call { callee := .builtin .append, args := #[s, x], argTypes := #[26, 26] }) (B : Nat) (v : Value) (l l2 : List Int) (g n m c : Nat) (hn : l.length = n) (hm : l2.length = m) (hs : a.eval s = v) (hown : Own w B v l)
    (hx : a.eval x = .slice (some ⟨g, 0, none⟩) m c) (hy : ∀ i, i < m → w.cell? ⟨g, i, none⟩ = some (.int .i64 (l2.getD i 0))) (hlen : n + m ≤ 1000) (hB : B ≤ w.heap.size)
    (h : ∀ b' c' w', Own w' B (.slice b' (n + m) c') (l ++ l2) → Below B w w' → K (a.put o.dst (.slice b' (n + m) c')) w') :
    if Region.wanted o (yielded ops a.tmps) = true then Oper.wp Try.prog o a w K Q else E := by
  subst hn hm
  obtain ⟨i0, hi, hz0, hz1, hz2⟩ := info_parts info64
  have hw : Region.wanted o (yielded ops a.tmps) = true := by simp [Region.wanted, hgd]
  rw [if_pos hw]
  obtain ⟨v', w', hr, h2, h3, -, -⟩ := run_append_own_at (P := Try.prog) w B 26 o.type 2 i0 (.int .i64 0) 1 8 Try.underlying26 hi hz0 hz1 hz2 rfl (by decide) v l.length (l.map (Value.int .i64)) hown ⟨g, 0, none⟩ l2.length c (l2.map (Value.int .i64)) (by simp) (fun j u hj => by
      rw [Go.WideShapes.add_plain]
      have hj2 : j < l2.length := by
        have := (List.getElem?_eq_some_iff.1 hj).1
        simpa using this
      rw [Nat.zero_add, hy j hj2, ← hj]
      simp [hj2]) (fun u hu => by obtain ⟨x, _, rfl⟩ := List.mem_map.1 hu; rfl) (by unfold maxLen; omega) (by omega) hB
  have ho' : Own w' B v' (l ++ l2) := by
    show w'.ownsRow B _ 1 v' (l ++ l2).length ((l ++ l2).map (Value.int .i64))
    simpa using h2
  obtain ⟨b', c', hv, -⟩ := own_form ho'
  rw [show (l ++ l2).length = l.length + l2.length by simp] at hv
  subst hv
  unfold Oper.wp execOp
  simp only [ho, resolve, invoke, builtin, Sem.run_bind, Sem.run_pure, Result.andThen_ok, List.map_toArray, List.map_cons, List.map_nil, hs, hx, hr]
  exact h b' c' w' ho' ((Below.refl B w).grown h3 hB (fun k hk => (own_lt hown hk).1))

theorem Ints.drop {k : IntKind} {w : World} {q n : Nat} {l : List Int} (h : Ints k w (some ⟨q, 0, none⟩) n l) (i : Nat) (hi : i < n) : Ints k w (some ⟨q, i, none⟩) (n - i) (l.drop i) := by
  obtain ⟨h1, h2, h3⟩ := h
  rcases h3 with h3 | ⟨b, off, hb, hlt, hc⟩
  · omega
  injection hb with hb
  injection hb with e1 e2
  subst e1 e2
  refine ⟨by simp [h1], by omega, .inr ⟨q, i, rfl, hlt, fun t ht => ?_⟩⟩
  have := hc (i + t) (by omega)
  rw [Nat.zero_add] at this
  rw [this]
  simp [List.getD_eq_getElem?_getD]


end Go.Proofs.Ytmobcobdpemlnaa.V

namespace Go.Proofs.Ytmobcobdpemlnaa.V
set_option maxRecDepth 100000
open Go.RowKit
end Go.Proofs.Ytmobcobdpemlnaa.V

namespace Go.Proofs.Ytmobcobdpemlnaa.V
set_option maxRecDepth 100000
open Go.RowKit
set_option maxRecDepth 100000 in
set_option maxHeartbeats 4000000 in
theorem drawPrincipalPermanent (a : Option Addr) (n cap : Nat) (w : World) (h : Bytes w a n) :
    Calls Try.prog 24 #[.slice a n cap] w (DrawnMN w) := by
  have HB := Lib.hid h
  clear h
  go_enter Try.func24, Try.ntmps24
  go_wp2_with fail
  refine (from_ _ _ _ _ HB.out).mono ?_
  rintro e w1 ⟨rfl, hs1, hb1⟩
  have HS1 := Lib.hid hs1
  have HB1 := Lib.hid hb1
  have hg1 := hs1.lt
  clear hs1 hb1
  go_wp2_with fail
  refine (drawSquareB _ _ HS1.out).mono ?_
  rintro e w2 ⟨a2, n2, c2, R, rfl, hn200, ho, hs2, ht2⟩
  have HO2 := Lib.hid ho
  have HS2 := Lib.hid hs2
  have HB2 := Lib.hid (HB1.out.trans ht2.below)
  have hg2 := hs2.lt
  clear ho hs2 ht2
  have HL0 : Hid (DL w.heap.size w2.heap.size (.slice (some ⟨w2.heap.size, 0, none⟩) 0 0) [] w2 (w2.alloc (.cells #[] 2))) :=
    ⟨own_lit0 w2 _ (Nat.le_refl _), HS2.out.alloc _, (Thr.refl _ _).alloc (Nat.le_of_lt hg2) _⟩
  go_wp2
  go_loopw [6, 7] (fun out i wr => ∃ (t s : Nat) (l : List Int) (b : Option Addr) (c : Nat), t ≤ n2 ∧ s ≤ t ∧ i = .int .i64 t ∧ out = .slice b s c ∧ Hid (DL w.heap.size w2.heap.size (.slice b s c) l w2 wr)) (fun _ i _ => n2 - (intOf i).toNat)
  case atStart => exact ⟨0, 0, [], _, _, Nat.zero_le _, Nat.le_refl _, rfl, rfl, HL0⟩
  case round =>
    obtain ⟨t, s, l, b, c, ht, hst, rfl, rfl, HJ⟩ := hrel
    clear HL0
    by_cases hlt : t < n2
    · have hti : (t : Int) < (n2 : Int) := by omega
      go_wp2_with fail
      refine (next _ 2 _ (by decide) HJ.out.2.1).mono ?_
      rintro e w4 ⟨y, rfl, -, -, hs4, ht4⟩
      have HJ1 := Lib.hid (HJ.out.next hg2 hs4 ht4)
      have hz4 : w2.heap.size ≤ w4.heap.size := HJ1.out.2.2.below.size
      have HLn := Lib.hid HJ1.out.1.len
      clear hs4 ht4 HJ
      by_cases hy0 : y = 0
      · subst hy0
        go_wp2_with (at_builtin; refine append1 _ rfl (.tmp 22) (.tmp 24) rfl w2.heap.size _ _ _ s HJ1.out.1.len.symm rfl HJ1.out.1 rfl (by rw [← HLn.out]; omega) hz4 ?_)
        intro b2 c2 w5 hO5 hb5 _
        have HJ2 := Lib.hid (HJ1.out.app hg2 hO5 hb5)
        clear hO5 hb5 HJ1
        go_wp2
        go_roundw
        case rel => exact ⟨t + 1, s + 1, _, _, _, by omega, by omega, by go_num, rfl, HJ2⟩
        case measure => simp [intOf]; omega
      · have ey : (y == 0) = false := by simpa using hy0
        go_wp2
        go_roundw
        case rel => exact ⟨t + 1, s, _, _, _, by omega, by omega, by go_num, rfl, HJ1⟩
        case measure => simp [intOf]; omega
    · obtain rfl : t = n2 := by omega
      go_wp2_with fail
      refine (next _ 16 _ (by decide) HJ.out.2.1).mono ?_
      rintro e w4 ⟨y, rfl, -, -, hs4, ht4⟩
      have HJ1 := Lib.hid (HJ.out.next hg2 hs4 ht4)
      have hz4 : w2.heap.size ≤ w4.heap.size := HJ1.out.2.2.below.size
      have HLn := Lib.hid HJ1.out.1.len
      clear hs4 ht4 HJ
      have hwt : (Lit.int .i64 (t : Int)).wf = true := wf_small _ (by omega) (by omega)
      by_cases hy0 : y = 0
      · subst hy0
        go_wp2_with fail
        refine (pick _ _ 0 3 3 _ (HJ1.out.2.1.alloc _) (by omega) (by omega) (by omega) (litCells _ [-1, 0, (t : Int)] _ _ rfl (by show ((Lit.int .i64 (-1)).wf && ((Lit.int .i64 0).wf && ((Lit.int .i64 (t : Int)).wf && true))) = true; rw [hwt]; rfl))).mono ?_
        rintro e w5 ⟨z, rfl, -, hs5, ht5⟩
        have ht5' : Thr w.heap.size w4 w5 := ((Thr.refl _ w4).alloc (by omega) _).trans ht5
        have HJ2 := Lib.hid (HJ1.out.next hg2 hs5 ht5')
        have hz5 : w2.heap.size ≤ w5.heap.size := HJ2.out.2.2.below.size
        clear hs5 ht5 ht5' HJ1
        go_wp2_with (at_builtin; refine append1 _ rfl (.tmp 29) (.tmp 35) rfl w2.heap.size _ _ _ s HJ2.out.1.len.symm rfl HJ2.out.1 rfl (by rw [← HLn.out]; omega) hz5 ?_)
        intro b2 c3 w6 hO6 hb6 _
        have HJ3 := Lib.hid (HJ2.out.app hg2 hO6 hb6)
        have HI := Lib.hid hO6.ints'
        have HC := Lib.hid (caps_own hO6)
        have HM := Lib.hid (HO2.out.thr HJ3.out.2.2 hg1).mat
        have HB6 := Lib.hid (HB2.out.trans HJ3.out.2.2.below)
        clear hO6 hb6 HJ2 HJ3
        go_wp2
        go_ret2
        exact ⟨_, _, _, R, _, _, _, _, rfl, HM.out, HI.out, HC.out.1, HC.out.2, HB6.out⟩
      · have ey : (y == 0) = false := by simpa using hy0
        have HI := Lib.hid HJ1.out.1.ints'
        have HC := Lib.hid (caps_own HJ1.out.1)
        have HM := Lib.hid (HO2.out.thr HJ1.out.2.2 hg1).mat
        have HB6 := Lib.hid (HB2.out.trans HJ1.out.2.2.below)
        clear HJ1
        go_wp2
        go_ret2
        exact ⟨_, _, _, R, _, _, _, _, rfl, HM.out, HI.out, HC.out.1, HC.out.2, HB6.out⟩
end Go.Proofs.Ytmobcobdpemlnaa.V
