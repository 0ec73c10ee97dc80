/- Texts laid together: Cmo, Cps, CpO, Cpk, Cra, OpenM. -/
import Derived.Test.YtlljnfljcdljaabGreatQz7
import Derived.Test.YtlljnfljcdljaabGreatQz2
import Derived.Test.YtlljnfljcdljaabGreatQz3
import Derived.Test.YtlljnfljcdljaabGreatQz5
import Derived.Test.YtlljnfljcdljaabGreatQz8
import Derived.Test.YtlljnfljcdljaabGreatQz14
import Derived.Test.YtlljnfljcdljaabGreatQz17
import Derived.Test.YtlljnfljcdljaabGreatRows
import Derived.Test.YtlljnfljcdljaabGreatQz1
import Derived.WalkKit
import Derived.ProofKit
import Derived.WalkSmall
import Derived.Deep.QuietTactic
import Derived.BigQuiet
import Derived.BigRegion
import Derived.Deep.Draws
import Derived.Deep.OwnRows
import Derived.Maps.AppendAt
import Derived.Deep.Onto
import Derived.Lib.Hide
import Derived.Deep.Matrix
set_option linter.unusedSimpArgs false
set_option linter.unusedVariables false
set_option linter.unusedSectionVars false
namespace Go.Proofs.YtlljnfljcdljaabGreat.V
set_option maxRecDepth 100000
open Go.RowKit Go.Maps
end Go.Proofs.YtlljnfljcdljaabGreat.V

namespace Go.Proofs.YtlljnfljcdljaabGreat
namespace M
def canRes (R : List (List Int)) (x y : Int) : Bool × Int := if sqB R then (if inN R.length x && inN R.length y then (rchB (ent R) R.length x.toNat y.toNat, 0) else (false, 2)) else (false, 1)
def cmpsRes (R : List (List Int)) : List (List Int) × Int := if sqB R then (compsL (ent R) R.length, 0) else ([], 1)
def irrRes (R : List (List Int)) : Bool × Int := if sqB R then (decide ((compL (ent R) R.length 0).length = R.length), 0) else (false, 1)
theorem nodes2 (n : Nat) (x y : Int) : nodesB n [x, y] = (inN n x && inN n y) := by unfold nodesB; simp
theorem inN_k {n : Nat} {x : Int} (h : inN n x = true) : ∃ k : Nat, k < n ∧ x = k := by
  unfold inN at h
  rw [Bool.and_eq_true, decide_eq_true_eq, decide_eq_true_eq] at h
  exact ⟨x.toNat, by omega, by omega⟩
end M
namespace V
open Go.RowKit Go.Maps
def BPostC (r : Bool × Int) (w : World) (e : Ending) (w' : World) : Prop := e = .returned (.tuple #[.bool r.1, .int .i64 r.2]) ∧ Below w.heap.size w w'
theorem BPostC.mk' {r : Bool × Int} {b : Bool} {c : Int} {w w' : World} (hr : r = (b, c)) (hb : Below w.heap.size w w') : BPostC r w (.returned (.tuple #[.bool b, .int .i64 c])) w' := by subst hr; exact ⟨rfl, hb⟩
end V
end Go.Proofs.YtlljnfljcdljaabGreat

namespace Go.Proofs.YtlljnfljcdljaabGreat
namespace M
theorem pre_sum (L : List (List Int)) : pre L L.length = sumLen L := by
  unfold pre
  rw [List.take_length]
  induction L with
  | nil => rfl
  | cons l L ih => rw [List.map_cons, List.sum_cons, ih]; rfl
theorem cmps_ok (R : List (List Int)) : pre (cmpsRes R).1 (cmpsRes R).1.length ≤ 100 ∧ (cmpsRes R).1.length ≤ 10 := by
  unfold cmpsRes
  by_cases h : sqB R = true
  · rw [if_pos h]
    obtain ⟨n1, n2, -⟩ := sq_sm h
    refine ⟨?_, ?_⟩
    · show pre (compsL _ _) (compsL _ _).length ≤ 100
      rw [pre_sum, sum_compsL]; omega
    · have := compsP_len (ent R) R.length R.length
      show (compsL _ _).length ≤ 10
      unfold compsL; omega
  · rw [if_neg h]; exact ⟨by unfold pre; simp, by simp⟩
end M
end Go.Proofs.YtlljnfljcdljaabGreat

namespace Go.Proofs.YtlljnfljcdljaabGreat
namespace M
theorem sumLen_filter (p : List Int → Bool) : ∀ L : List (List Int), sumLen (L.filter p) ≤ sumLen L
  | [] => Nat.le_refl _
  | l :: L => by
    have ih := sumLen_filter p L
    by_cases h : p l = true
    · rw [List.filter_cons_of_pos h]
      show l.length + sumLen (L.filter p) ≤ l.length + sumLen L
      omega
    · rw [List.filter_cons_of_neg h]
      show sumLen (L.filter p) ≤ l.length + sumLen L
      omega
theorem compRes_ok (R : List (List Int)) : pre (compRes R).1 (compRes R).1.length ≤ 100 ∧ (compRes R).1.length ≤ 10 := by
  unfold compRes
  by_cases h : crCode R = 0
  · rw [if_pos h]
    obtain ⟨n1, n2, -⟩ := sq_sm (cr_code h).1
    refine ⟨?_, ?_⟩
    · show pre (crComps R) (crComps R).length ≤ 100
      rw [pre_sum]
      unfold crComps
      have h1 := sumLen_filter (fun l => crN R (vx l 0)) (compsL (ent (crM R)) R.length)
      rw [sum_compsL] at h1
      omega
    · show (crComps R).length ≤ 10
      unfold crComps
      have h1 := List.length_filter_le (fun l => crN R (vx l 0)) (compsL (ent (crM R)) R.length)
      have h2 := compsP_len (ent (crM R)) R.length R.length
      unfold compsL at h1 ⊢
      omega
  · rw [if_neg h]; exact ⟨by unfold pre; simp, by simp⟩
end M
end Go.Proofs.YtlljnfljcdljaabGreat

namespace Go.Proofs.YtlljnfljcdljaabGreat
namespace M
theorem arcs_take {L : List (List Int)} {t : Nat} {x : List Int} (h : L[t]? = some x) : L.take (t + 1) = L.take t ++ [x] := by
  rw [List.take_add_one, h]; rfl
theorem sumLen_const (L : List (List Int)) (k : Nat) (h : ∀ l, l ∈ L → l.length = k) : sumLen L = L.length * k := by
  induction L with
  | nil => simp [sumLen]
  | cons a L ih =>
    have e : sumLen (a :: L) = a.length + sumLen L := by simp [sumLen]
    rw [e, ih (fun l hl => h l (by simp [hl])), h a (by simp), List.length_cons, Nat.succ_mul]; omega
theorem arcsRes_ok (R : List (List Int)) : pre (arcsRes R).1 (arcsRes R).1.length ≤ 200 ∧ (arcsRes R).1.length ≤ 100 := by
  unfold arcsRes
  by_cases h : crCode R = 0
  · rw [if_pos h]
    obtain ⟨n1, n2, -⟩ := sq_sm (cr_code h).1
    have h1 := arcsP_len R R.length
    have h2 := Nat.mul_le_mul n2 n2
    have h3 : (arcsL R).length ≤ 100 := by unfold arcsL; omega
    refine ⟨?_, h3⟩
    show pre (arcsL R) (arcsL R).length ≤ 200
    rw [pre_sum, sumLen_const _ 2 (fun l hl => by
      rw [← arcsN_map, List.mem_map] at hl
      obtain ⟨x, -, rfl⟩ := hl
      rfl)]
    omega
  · rw [if_neg h]; exact ⟨by unfold pre; simp, by simp⟩
end M
namespace V
set_option maxRecDepth 100000
open Go Go.RowKit Go.Maps Go.Shelf Go.Sort
set_option maxRecDepth 100000 in
set_option maxHeartbeats 1000000 in
theorem sCriticalArcs (a : Option Addr) (n cap : Nat) (R : List (List Int)) (w : World) (h : Mat w a n R) :
    Calls Tryz.prog 6 #[.slice a n cap] w (MRes (M.arcsRes R) w) := by
  have HA := Lib.hid h
  by_cases hc : M.crCode R = 0
  · obtain ⟨h1, h2⟩ := M.cr_code hc
    have H1 := Lib.hid h1
    have H2 := Lib.hid h2
    have HK := Lib.hid hc
    have HE : Hid (M.arcsRes R = (M.arcsL R, 0)) := by show _ = _; unfold M.arcsRes; rw [if_pos hc]
    clear h hc h1 h2
    go_enter Tryz.func6, Tryz.ntmps6
    go_wp2_with fail
    refine (sCode _ _ _ R _ HA.out).mono ?_
    rintro e w1 ⟨rfl, hb⟩
    rw [HK.out]
    have HB := Lib.hid hb
    clear hb
    go_wp2_with fail
    refine (sArcs _ _ _ R _ (HA.out.below HB.out) H1.out H2.out).mono ?_
    rintro e w2 ⟨b2, c2, rfl, ho, hb⟩
    have HO := Lib.hid (ho.mono HB.out.size)
    have HB2 := Lib.hid (HB.out.trans (hb.mono HB.out.size))
    clear ho hb
    go_wp2
    go_ret2
    rw [HE.out]
    exact ⟨_, _, _, rfl, HO.out, HB2.out⟩
  · obtain ⟨k, hk⟩ : ∃ k, k = M.crCode R := ⟨_, rfl⟩
    have HE : Hid (M.arcsRes R = ([], k)) := by show _ = _; unfold M.arcsRes; rw [if_neg hc, hk]
    have HK := Lib.hid hk
    have hk0 : (k != 0) = true := by rw [hk]; simpa using hc
    clear h hc hk
    go_enter Tryz.func6, Tryz.ntmps6
    go_wp2_with fail
    refine (sCode _ _ _ R _ HA.out).mono ?_
    rintro e w1 ⟨rfl, hb⟩
    rw [← HK.out]
    have HB := Lib.hid hb
    clear hb
    go_wp2
    go_ret2
    exact MRes.nil HE.out HB.out
theorem holdsArc_at {w : World} {g : Nat} {ss : List (Nat × Nat)} (h : HoldsK encArc 2 w g 0 ss.toArray) {i : Nat} (hi : i < ss.length) :
    w.cell? ⟨g, i * 2, none⟩ = some (.int .i64 ((ss.getD i (0, 0)).1 : Int)) ∧ w.cell? ⟨g, i * 2 + 1, none⟩ = some (.int .i64 ((ss.getD i (0, 0)).2 : Int)) := by
  have hk := HoldsK.cells h (fun _ => rfl) (i := i) (by simpa using hi)
  have e : ss.toArray[i]! = ss.getD i (0, 0) := by simp [hi]
  rw [e] at hk
  have c1 := hk 0 _ rfl
  have c2 := hk 1 _ rfl
  have a1 : (⟨g, 0 + i * 2, none⟩ : Addr).add 0 = ⟨g, i * 2, none⟩ := by rw [Addr.add_lit]; congr 1; omega
  have a2 : (⟨g, 0 + i * 2, none⟩ : Addr).add 1 = ⟨g, i * 2 + 1, none⟩ := by rw [Addr.add_lit]; congr 1; omega
  rw [a1] at c1
  rw [a2] at c2
  exact ⟨c1, c2⟩
theorem holdsArc_below {w w' : World} {B g : Nat} {d : Array (Nat × Nat)} (h : HoldsK encArc 2 w g 0 d) (hb : Below B w w') (hg : g < B) : HoldsK encArc 2 w' g 0 d := fun j hj => by
  obtain ⟨h1, h2⟩ := h j hj
  exact ⟨(hb.cell (p := ⟨g, 0 + j, none⟩) hg).trans h1, (hb.frozen (p := ⟨g, 0 + j, none⟩) hg).trans h2⟩
theorem appendRowLitZ (w0 : World) {ops : Array Oper} {rest : List Oper} {o : Oper} {a : Act} {Q : Exit → Act → World → Prop} (hgd : o.guard = none) (s x : Operand)
    (ho : o.op = .call { callee := .builtin .append, args := #[s, x], argTypes := #[22, 22] }) (z B : Nat) (hz : z = w0.heap.size) (v : Value) (L : List (List Int)) (p q : Int) (n : Nat) (hn : L.length = n) (hs : a.eval s = v) (hown : OwnM w0 B v L)
    (hx : a.eval x = .slice (some ⟨z + 1, 0, none⟩) 1 1) (hlen : L.length ≤ 2000000) (hB : B ≤ w0.heap.size)
    (h : ∀ b' c' w', OwnM w' B (.slice b' (n + 1) c') (L ++ [[p, q]]) → Below B w0 w' → wpList Tryz.prog ops Q rest (a.put o.dst (.slice b' (n + 1) c')) w') :
    wpList Tryz.prog ops Q (o :: rest) a ((w0.alloc (.cells #[.int .i64 p, .int .i64 q] 2)).alloc (.cells #[.slice (some ⟨z, 0, none⟩) 2 2] 32)) := by
  subst hz
  exact appendRowLit w0 hgd s x ho B v L p q n hn hs hown hx hlen hB h
set_option maxRecDepth 100000 in
set_option maxHeartbeats 4000000 in
theorem criticalArcsX (a : Option Addr) (n cap : Nat) (R : List (List Int)) (w : World) (h : Mat w a n R) :
    Calls Tryz.prog 8 #[.slice a n cap] w (MRes (M.arcsRes R) w) := by
  have HA := Lib.hid h
  by_cases hc : M.crCode R = 0
  · obtain ⟨h1, h2⟩ := M.cr_code hc
    have H1 := Lib.hid h1
    have H2 := Lib.hid h2
    have HE : Hid (M.arcsRes R = (M.arcsL R, 0)) := by show _ = _; unfold M.arcsRes; rw [if_pos hc]
    obtain ⟨-, n1, n2, -⟩ := sq_parts h h1
    have HRn := Lib.hid h.1
    clear h hc h1 h2
    go_enter Tryz.func8, Tryz.ntmps8
    go_wp2_with fail
    refine (criticalArcs _ _ _ R _ HA.out H1.out H2.out).mono ?_
    rintro e w1 ⟨b1, m1, rfl, -, hm1, hI, hb⟩
    have HI := Lib.hid hI
    have HB := Lib.hid hb
    clear hI hb
    go_wp2_with fail
    refine (mapsKeysA (some b1) _).mono ?_
    rintro e w' ⟨rfl, rfl⟩
    have hseq := arcKeys_stops w1.heap.size b1 n m1 (M.crB R) n2 3 (by omega) (w1.alloc (.cells #[.map (some b1)] 45)) (by simp) (HI.out.below (b_alloc _ _) HI.out.lt)
    have HQ := Lib.hid hseq
    clear hseq
    go_wp2_with fail
    refine (sortedArcs w1.heap.size m1 hm1 _ _ (fun ss h => by have := h.2; omega) _ HQ.out).mono ?_
    rintro e w2 ⟨bb, c, ss, rfl, ⟨hS, hSl⟩, hb2, hg⟩
    clear HQ HI
    have HB2 : Hid (Below w.heap.size w w2) := HB.out.trans (((b_alloc w1 _).trans (hb2.mono (by simp))).mono HB.out.size)
    have hL : (srtA ss).map M.arcRowOf = M.arcsL R := by
      rw [← M.arcsN_map]
      congr 1
      exact M.sort_arcs hS.1 (by rw [HRn.out]; exact hS.2)
    have hln : (srtA ss).length = ss.length := by simp [srtA]
    obtain ⟨len, hlen⟩ : ∃ len, len = ss.length := ⟨_, rfl⟩
    rw [← hlen] at hg hln hSl ⊢
    have HL := Lib.hid hL
    have HG := Lib.hid hg
    have HLn := Lib.hid hln
    clear hS hb2 hg hL hlen hln HB
    go_wp2
    go_loopw [6, 8, 18] (fun sv _ iv wr => ∃ (t : Nat) (b : Option Addr) (c' : Nat), t ≤ len ∧ sv = .slice b t c' ∧ iv = .int .i64 t ∧ Hid (OwnM wr w2.heap.size (.slice b t c') ((M.arcsL R).take t)) ∧ Hid (Below w2.heap.size w2 wr) ∧ w2.heap.size ≤ wr.heap.size) (fun _ _ iv _ => len - (intOf iv).toNat)
    case atStart => exact ⟨0, none, 0, Nat.zero_le _, rfl, rfl, ownM_nil _ _, Below.refl _ _, Nat.le_refl _⟩
    case round =>
      obtain ⟨t, b, c', ht, rfl, rfl, HO, HBw, hsz⟩ := hrel
      by_cases htl : t < len
      · obtain ⟨g, rfl, -, hg2, hH⟩ := HG.out (by omega)
        obtain ⟨c1, c2⟩ := holdsArc_at (holdsArc_below hH HBw.out hg2) (i := t) (by rw [HLn.out]; exact htl)
        have hx : (M.arcsL R)[t]? = some (M.arcRowOf ((srtA ss).getD t (0, 0))) := by
          rw [← HL.out, List.getElem?_map]
          have : (srtA ss)[t]? = some ((srtA ss).getD t (0, 0)) := by
            rw [List.getD_eq_getElem?_getD, List.getElem?_eq_getElem (by rw [HLn.out]; exact htl)]; rfl
          rw [this]; rfl
        generalize (srtA ss).getD t (0, 0) = q at c1 c2 hx
        obtain ⟨q1, q2⟩ := q
        have hlt : ((M.arcsL R).take t).length = t := by
          rw [List.length_take, ← HL.out, List.length_map, HLn.out]; omega
        have HX : Hid ((M.arcsL R).take (t + 1) = (M.arcsL R).take t ++ [[(q1 : Int), (q2 : Int)]]) := M.arcs_take hx
        have HLt := Lib.hid hlt
        have HOb : Hid (OwnM (wr.alloc (.cells #[.int .i64 (q1 : Int), .int .i64 (q2 : Int)] 51)) w2.heap.size (.slice b t c') ((M.arcsL R).take t)) := HO.out.below (b_alloc _ _)
        clear hx hH hlt
        go_wp2_with (at_builtin; refine appendRowLitZ (wr.alloc (.cells #[.int .i64 (q1 : Int), .int .i64 (q2 : Int)] 51)) rfl (.tmp 22) (.tmp 28) rfl (wr.heap.size + 1) w2.heap.size (by simp) _ ((M.arcsL R).take t) (q1 : Int) (q2 : Int) t HLt.out rfl HOb.out rfl (by rw [HLt.out]; omega) (by simp; omega) ?_)
        intro b4 c4 w4 hO4 hb4
        have HO4 : Hid (OwnM w4 w2.heap.size (.slice b4 (t + 1) c4) ((M.arcsL R).take (t + 1))) := by show OwnM _ _ _ _; rw [HX.out]; exact hO4
        have HB4 : Hid (Below w2.heap.size w2 w4) := HBw.out.trans (((b_alloc wr (.cells #[.int .i64 (q1 : Int), .int .i64 (q2 : Int)] 51)).mono hsz).trans hb4)
        have hsz4 : w2.heap.size ≤ w4.heap.size := HB4.out.size
        clear hO4 hb4
        go_wp2
        go_roundw
        case rel => exact ⟨t + 1, b4, c4, by omega, rfl, by go_num, HO4, HB4, hsz4⟩
        case measure => simp [intOf]; omega
      · obtain rfl : t = len := by omega
        have he : (M.arcsL R).take t = M.arcsL R := by
          refine List.take_of_length_le ?_
          rw [← HL.out, List.length_map, HLn.out]; exact Nat.le_refl _
        have HO2 := HO.out.mono HB2.out.size
        rw [he] at HO2
        have HOe := Lib.hid HO2
        have HBe : Hid (Below w.heap.size w wr) := HB2.out.trans (HBw.out.mono HB2.out.size)
        clear HO2 he
        go_wp2
        go_ret2
        rw [HE.out]
        exact ⟨_, _, _, rfl, HOe.out, HBe.out⟩
  · have HC := Lib.hid hc
    obtain ⟨k, hk⟩ : ∃ k, k = M.crCode R := ⟨_, rfl⟩
    have HE : Hid (M.arcsRes R = ([], k)) := by show _ = _; unfold M.arcsRes; rw [if_neg hc, hk]
    have HK := Lib.hid hk
    clear h hc hk
    go_enter Tryz.func8, Tryz.ntmps8
    go_wp2_with fail
    refine (criticalArcs_no _ _ _ R _ HA.out HC.out).mono ?_
    rintro e w1 ⟨rfl, hb⟩
    rw [← HK.out]
    have HB := Lib.hid hb
    clear hb
    go_wp2_with fail
    refine (mapsKeysA none _).mono ?_
    rintro e w' ⟨rfl, rfl⟩
    have HQ := Lib.hid (arcKeys_stops_nil w1.heap.size 3 (w1.alloc (.cells #[.map none] 45)) (by simp))
    go_wp2_with fail
    refine (sortedArcs w1.heap.size 0 (by omega) _ _ (fun ss h => by rw [h]; simp) _ HQ.out).mono ?_
    rintro e w2 ⟨bb, c, ss, rfl, rfl, hb2, -⟩
    have HB2 : Hid (Below w.heap.size w w2) := HB.out.trans (((b_alloc w1 _).trans (hb2.mono (by simp))).mono HB.out.size)
    clear HQ hb2 HB
    go_wp2
    refine wp_loop_rounds 1 ?_
    rw [rounds_succ]
    go_wp2
    go_ret2
    exact MRes.nil HE.out HB2.out
end V
end Go.Proofs.YtlljnfljcdljaabGreat

namespace Go.Proofs.YtlljnfljcdljaabGreat.V
open Go.RowKit Go.ChangeShapes Go.WideShapes Go.Deep

theorem mat_open {H : Type} {enc : TypeId × Value → H} {P : Program} {w : World} {base : Nat} {held : Bool} {t e q : TypeId} {fuel : Nat} {cs : List Value} {x : DataW H × List MemPlace} (ht : P.underlying t = some (.slice e)) (he : P.underlying e = some (.slice q)) (hq : P.underlying q = some (.int .i64))
    (ce : P.cellsOf e = 1) (cq : P.cellsOf q = 1) (h : DataW.trod enc P w base (fun _ => true) held fuel t cs = some x) :
    ∃ a len cap R, cs = [.slice a len cap] ∧ Mat w a len R := by
  rcases open_int_rows ht he hq ce cq h with ⟨rfl, -⟩ | ⟨a, len, cap, A, L, C, Z, rfl, hb, hl, hm, -, hr⟩
  · exact ⟨none, 0, 0, [], rfl, rfl, Nat.zero_le _, .inl rfl⟩
  · refine ⟨some a, len, cap, (List.range len).map fun r => (Z r).take (L r), rfl, by simp, by omega, ?_⟩
    by_cases h0 : len = 0
    · exact .inl h0
    · have hsp : a.spot = none := by
        have := (hr 0 (by omega)).1
        simpa [Addr.add] using World.cell?_spot this
      obtain ⟨b, off, spot⟩ := a
      simp only at hsp
      subst hsp
      refine .inr ⟨b, off, rfl, ?_, fun i hi => ?_⟩
      · have := cell_lt (hr 0 (by omega)).1
        simpa [Addr.add] using this
      · obtain ⟨h1, h2, h3, h4, h5, h6, h7⟩ := hr i (by omega)
        have eR : ((List.range len).map fun r => (Z r).take (L r)).getD i [] = (Z i).take (L i) := by simp [hi]
        rw [eR]
        have eL : ((Z i).take (L i)).length = L i := by rw [List.length_take]; omega
        rw [eL]
        refine ⟨A i, C i, by rw [← Go.WideShapes.add_plain]; exact h1, eL, by omega, ?_⟩
        by_cases hL : L i = 0
        · exact .inl hL
        · cases hA : A i with
          | none => have := h6 hA; omega
          | some a' =>
            obtain ⟨-, hc⟩ := h7 a' hA
            obtain ⟨b', off', rfl, hc'⟩ := ints_at (k := .i64) (zs := Z i) (fun j hj => hc j (by omega)) (by omega)
            refine .inr ⟨b', off', rfl, cell_lt (hc' 0 (by omega)), fun j hj => ?_⟩
            rw [hc' j (by omega)]
            simp [List.getD_eq_getElem?_getD, hj]
end Go.Proofs.YtlljnfljcdljaabGreat.V
