/- Texts laid together: Scp, End1, End2, Gra, Grb, Grc, Grd. -/
import Derived.Test.YtobdgboejbbfiaaQa10
import Derived.Test.YtobdgboejbbfiaaQa8
import Derived.Test.YtobdgboejbbfiaaQa2
import Derived.Test.YtobdgboejbbfiaaQa5
import Derived.Test.YtobdgboejbbfiaaRows
import Derived.Test.YtobdgboejbbfiaaQa1
import Derived.Test.YtobdgboejbbfiaaQa3
import Derived.WalkKit
import Derived.ProofKit
import Derived.WalkSmall
import Derived.Deep.QuietTactic
import Derived.BigQuiet
import Derived.BigRegion
import Derived.Deep.Draws
import Derived.Deep.OwnRows
import Derived.Deep.AppendLies
import Derived.Maps.AppendAt
import Derived.Lib.Hide
import Derived.IntWalk
import Derived.Deep.RegionWith
set_option linter.unusedSimpArgs false
set_option linter.unusedVariables false
set_option linter.unusedSectionVars false
namespace Go.Proofs.Ytobdgboejbbfiaa.V
open Go.RowKit
set_option maxRecDepth 100000 in
set_option maxHeartbeats 4000000 in
theorem sComponents (a : Option Addr) (n cap : Nat) (R : List (List Int)) (w : World) (h : Sq w a n R) :
    Calls Try.prog 79 #[.slice a n cap] w fun e w' => ∃ b m c, e = .returned (.slice b m c) ∧ OwnM w' w.heap.size (.slice b m c) (M.compsL (M.ent R) n) ∧ Below w.heap.size w w' := by
  have HSq := Lib.hid h
  obtain ⟨n1, n2⟩ := h.2.2.2
  clear h
  go_enter Try.func79, Try.ntmps79
  go_wp2_with fail
  refine (sReach _ _ _ R _ HSq.out).mono ?_
  rintro e w1 ⟨tb, tc, rfl, ht, hb⟩
  have HT := Lib.hid ht
  have HB1 := Lib.hid hb
  obtain ⟨tg, -, rfl, -, -⟩ := ht.at 0 0 n1 n1
  clear ht hb
  go_wp2
  go_loopw [4, 5, 6, 7] (fun o i _ _ wr => ∃ (k : Nat) (b : Option Addr) (c : Nat), k ≤ n ∧ i = .int .i64 k ∧ o = .slice b (M.compsP (M.ent R) n k).length c ∧ Hid (OwnM wr w1.heap.size (.slice b (M.compsP (M.ent R) n k).length c) (M.compsP (M.ent R) n k)) ∧ Hid (Below w1.heap.size w1 wr)) (fun _ i _ _ _ => n - (intOf i).toNat)
  case atStart => exact ⟨0, _, 0, Nat.zero_le _, rfl, rfl, ownM_lit0 _ _ (Nat.le_refl _), b_alloc _ _⟩
  case round =>
    obtain ⟨k, b, c, hk, rfl, rfl, HO, HB⟩ := hrel
    obtain ⟨wo, rfl⟩ : ∃ x, x = wr := ⟨_, rfl⟩
    by_cases hlt : k < n
    · have hki : (k : Int) < (n : Int) := by omega
      have HNx := Lib.hid (M.compsP_next (M.ent R) n k)
      have HLn := Lib.hid (M.compsP_len (M.ent R) n k)
      go_wp2
      go_loopw [6, 7] (fun o i wr => ∃ (t : Nat) (b : Option Addr) (c : Nat), t ≤ n ∧ i = .int .i64 t ∧ o = .slice b (M.compP (M.ent R) n k t).length c ∧ Hid (Own wr wo.heap.size (.slice b (M.compP (M.ent R) n k t).length c) (M.compP (M.ent R) n k t)) ∧ Hid (Below wo.heap.size wo wr)) (fun _ i _ => n - (intOf i).toNat)
      case atStart => exact ⟨0, _, 0, Nat.zero_le _, rfl, rfl, own_lit0 _ _ (Nat.le_refl _), b_alloc _ _⟩
      case round =>
        obtain ⟨t, b2, c2, ht, rfl, rfl, HI, HBi⟩ := hrel
        by_cases htl : t < n
        · have hti : (t : Int) < (n : Int) := by omega
          have HTw := Lib.hid ((HT.out.below HB.out).below HBi.out)
          obtain ⟨g1, q1, e1, r1, r2⟩ := ((HT.out.below HB.out).below (HBi.out.mono (Nat.le_refl _))).at k t hlt htl
          injection e1 with e1
          injection e1 with e1
          subst e1
          obtain ⟨g1, q2, e1, r3, r4⟩ := ((HT.out.below HB.out).below (HBi.out.mono (Nat.le_refl _))).at t k htl hlt
          injection e1 with e1
          injection e1 with e1
          subst e1
          have hnx := M.compP_next (M.ent R) n k t
          have hrl : M.relB (M.ent R) n k t = (M.rchB (M.ent R) n k t && M.rchB (M.ent R) n t k) := rfl
          have hlen := M.compP_len (M.ent R) n k t
          obtain ⟨x, hx⟩ : ∃ x, x = M.rchB (M.ent R) n k t := ⟨_, rfl⟩
          obtain ⟨y, hy⟩ : ∃ y, y = M.rchB (M.ent R) n t k := ⟨_, rfl⟩
          rw [← hx] at r2 hrl
          rw [← hy] at r4 hrl
          rw [hrl] at hnx
          clear hx hy hrl HTw
          cases x with
          | false =>
            have HN : Hid (M.compP (M.ent R) n k (t + 1) = M.compP (M.ent R) n k t) := by show _ = _; rw [hnx]; simp
            clear hnx
            go_wp2
            go_roundw
            case rel => exact ⟨t + 1, b2, c2, by omega, by go_num, by rw [HN.out], by show Own _ _ _ _; rw [HN.out]; exact HI.out, HBi⟩
            case measure => simp [intOf]; omega
          | true =>
            cases y with
            | false =>
              have HN : Hid (M.compP (M.ent R) n k (t + 1) = M.compP (M.ent R) n k t) := by show _ = _; rw [hnx]; simp
              clear hnx
              go_wp2
              go_roundw
              case rel => exact ⟨t + 1, b2, c2, by omega, by go_num, by rw [HN.out], by show Own _ _ _ _; rw [HN.out]; exact HI.out, HBi⟩
              case measure => simp [intOf]; omega
            | true =>
              have HN : Hid (M.compP (M.ent R) n k (t + 1) = M.compP (M.ent R) n k t ++ [(t : Int)]) := by show _ = _; rw [hnx]; simp
              clear hnx
              generalize M.compP (M.ent R) n k t = l at *
              go_wp2_with (at_builtin; refine append1 _ rfl (.tmp 40) (.tmp 42) rfl wo.heap.size _ l (t : Int) _ rfl rfl HI.out rfl (by omega) HBi.out.size ?_)
              intro b4 c4 w4 hO4 hb4 _
              have HO4 := Lib.hid hO4
              have HB4 := Lib.hid (HBi.out.trans hb4)
              rw [← HN.out] at HO4
              clear hO4 hb4
              go_wp2
              go_roundw
              case rel => exact ⟨t + 1, b4, c4, by omega, by go_num, by rw [HN.out, List.length_append]; rfl, by show Own _ _ _ _; rw [HN.out, List.length_append]; rw [HN.out] at HO4; exact HO4.out, HB4⟩
              case measure => simp [intOf]; omega
        · obtain rfl : t = n := by omega
          have HO1 : Hid (Own wr wo.heap.size (.slice b2 (M.compL (M.ent R) t k).length c2) (M.compL (M.ent R) t k)) := HI
          have hsl : (Value.slice b2 (M.compP (M.ent R) t k t).length c2) = .slice b2 (M.compL (M.ent R) t k).length c2 := rfl
          rw [hsl]
          clear HI hsl
          obtain ⟨d, od, x, rfl, -, hx, cx⟩ := HO1.out.ints'.at 0 (M.compL_pos hlt)
          rw [Nat.add_zero] at cx
          have hrep := (M.rep_t (A := M.ent R) hlt).2.2
          rw [← hx] at hrep
          have HRp := Lib.hid hrep
          have hlen1 : (M.compL (M.ent R) t k).length ≤ 10 := by have := M.compP_len (M.ent R) t k t; unfold M.compL; omega
          have hlen0 := M.compL_pos (A := M.ent R) hlt
          clear hx hrep
          generalize M.compL (M.ent R) t k = l at *
          by_cases hr : x = (k : Int)
          · have HN : Hid (M.compsP (M.ent R) t (k + 1) = M.compsP (M.ent R) t k ++ [l]) := by show _ = _; rw [HNx.out, if_pos (by have := HRp.out; omega)]
            have hr2 : (x == (k : Int)) = true := by simp [hr]
            clear hr
            generalize M.compsP (M.ent R) t k = L at *
            go_wp2_with (at_builtin; refine appendRow wo _ rfl (.tmp 49) (.tmp 51) rfl w1.heap.size _ _ L l _ rfl rfl HO.out HBi.out HO1.out rfl (by have := HLn.out; omega) HB.out.size ?_)
            intro b4 c4 w4 hO4 hb4 _
            have HO4 := Lib.hid hO4
            have HB4 := Lib.hid ((HB.out.trans (HBi.out.mono HB.out.size)).trans hb4)
            clear hO4 hb4
            go_wp2
            go_roundw
            case rel => exact ⟨k + 1, b4, c4, by omega, by go_num, by rw [HN.out, List.length_append]; rfl, by show OwnM _ _ _ _; rw [HN.out, List.length_append]; exact HO4.out, HB4⟩
            case measure => simp [intOf]; omega
          · have HN : Hid (M.compsP (M.ent R) t (k + 1) = M.compsP (M.ent R) t k) := by show _ = _; rw [HNx.out, if_neg (by have := HRp.out; omega), List.append_nil]
            have hr2 : (x == (k : Int)) = false := by simpa using hr
            go_wp2
            go_roundw
            case rel => exact ⟨k + 1, b, c, by omega, by go_num, by rw [HN.out], by show OwnM _ _ _ _; rw [HN.out]; exact HO.out.below HBi.out, HB.out.trans (HBi.out.mono HB.out.size)⟩
            case measure => simp [intOf]; omega
    · obtain rfl : k = n := by omega
      go_wp2
      go_ret
      exact ⟨b, _, c, rfl, HO.out.mono HB1.out.size, HB1.out.trans (HB.out.mono HB1.out.size)⟩
end Go.Proofs.Ytobdgboejbbfiaa.V

namespace Go.Proofs.Ytobdgboejbbfiaa.V
open Go.RowKit
/-- One row of an owned matrix, as a list of its own. -/
theorem OwnM.rowOf {w : World} {B n cap : Nat} {a : Option Addr} {R : List (List Int)} (h : OwnM w B (.slice a n cap) R) (i : Nat) (hi : i < n) :
    ∃ g ra rc, a = some ⟨g, 0, none⟩ ∧ w.cell? ⟨g, i, none⟩ = some (.slice ra (R.getD i []).length rc) ∧ Own w B (.slice ra (R.getD i []).length rc) (R.getD i []) := by
  have hl := h.len
  obtain ⟨V, h1, h2, h3, h4, h5⟩ := h
  obtain ⟨a', c', hv, hc, hm, hg⟩ := own_form h2
  injection hv with e1 e2 e3
  subst e1 e2 e3
  obtain ⟨g, rfl, hB, hlt⟩ := hg (by omega)
  have hr := h3 i (by omega)
  obtain ⟨ra, rc, hrv, _⟩ := own_form hr
  rw [hrv] at hr
  refine ⟨g, ra, rc, rfl, ?_, hr⟩
  rw [World.ownsRow.cellAt h2 i (by omega), ← hrv]
  simp [show i < V.length by omega]
theorem ownM_first (w : World) (B : Nat) (hB : B ≤ w.heap.size) {rv : Value} {l : List Int} (ho : Own w B rv l) : OwnM (w.alloc (.cells #[rv] 28)) B (.slice (some ⟨w.heap.size, 0, none⟩) 1 1) [l] := by
  refine ⟨[rv], rfl, World.ownsRow_lit w #[rv] 1 hB (by decide) rfl, fun i hi => ?_, fun i hi k hk => ?_, fun i j hi hj hne => ?_⟩
  · obtain rfl : i = 0 := by simp at hi; omega
    exact ho.below (b_alloc w _)
  · obtain rfl : i = 0 := by simp at hi; omega
    have := (own_lt ho hk).2
    intro e
    simp only [Value.ownBlock, Option.some.injEq] at e
    omega
  · simp at hi hj; omega
/-- The greatest weights of paths with so many arcs. -/
def M.fkL (A : Nat → Nat → Int) (n k : Nat) : List Int := (List.range n).map (M.Fk A n k)
theorem M.fkL_len (A : Nat → Nat → Int) (n k : Nat) : (M.fkL A n k).length = n := by unfold M.fkL; simp
theorem M.fkL_at (A : Nat → Nat → Int) (n k v : Nat) (hv : v < n) : (M.fkL A n k).getD v 0 = M.Fk A n k v := by unfold M.fkL; simp [hv]
def M.endM (A : Nat → Nat → Int) (n k : Nat) : List (List Int) := M.mk k n fun s j => M.Fk A n s j
theorem M.end_row (A : Nat → Nat → Int) (n k s : Nat) (h : s < k) : (M.endM A n k).getD s [] = M.fkL A n s := M.mk_row _ _ _ _ h
theorem M.end_next {R : List (List Int)} {n : Nat} (h : R.length = n) (k : Nat) : M.applyM R (M.fkL (M.ent R) n k) = M.fkL (M.ent R) n (k + 1) := by
  unfold M.applyM
  rw [h, M.fkL_len]
  show _ = (List.range n).map (M.Fk (M.ent R) n (k + 1))
  refine List.map_congr_left fun i hi => ?_
  unfold M.dotV
  show _ = M.sumN n fun u => M.times (M.ent R i u) (M.Fk (M.ent R) n k u)
  refine M.sumN_congr fun u hu => ?_
  rw [M.fkL_at _ _ _ _ hu]

end Go.Proofs.Ytobdgboejbbfiaa.V

namespace Go.Proofs.Ytobdgboejbbfiaa.V
open Go.RowKit
/-- The greatest of the first values. -/
def M.topN (f : Nat → Int) : Nat → Int
  | 0 => f 0
  | k + 1 => max (M.topN f k) (f (k + 1))
theorem M.topN_ge (f : Nat → Int) (m : Nat) : ∀ v, v ≤ m → f v ≤ M.topN f m := by
  induction m with
  | zero => intro v hv; obtain rfl : v = 0 := by omega
            exact Int.le_refl _
  | succ m ih =>
    intro v hv
    show _ ≤ max _ _
    by_cases e : v = m + 1
    · subst e; omega
    · have := ih v (by omega); omega
theorem M.topN_at (f : Nat → Int) (m : Nat) : ∃ v, v ≤ m ∧ M.topN f m = f v := by
  induction m with
  | zero => exact ⟨0, Nat.le_refl _, rfl⟩
  | succ m ih =>
    obtain ⟨v, h1, h2⟩ := ih
    rcases Int.le_total (M.topN f m) (f (m + 1)) with h | h
    · exact ⟨m + 1, Nat.le_refl _, Int.max_eq_right h⟩
    · exact ⟨v, by omega, (Int.max_eq_left h).trans h2⟩
theorem M.topN_congr {f g : Nat → Int} {m : Nat} (h : ∀ v, v ≤ m → f v = g v) : M.topN f m = M.topN g m := by
  induction m with
  | zero => exact h 0 (Nat.le_refl _)
  | succ m ih => show max _ _ = max _ _; rw [ih fun v hv => h v (by omega), h (m + 1) (Nat.le_refl _)]
theorem M.top_cyc {A : Nat → Nat → Int} {n : Nat} (h1 : 1 ≤ n) (h2 : n ≤ 10) (hA : ∀ i j, i < n → j < n → M.Sm 1000000 (A i j)) : decide (M.topN (fun i => (M.fkL A n n).getD i 0) (n - 1) ≠ -1000000000000000) = M.hasCyc A n := by
  have hc : M.topN (fun i => (M.fkL A n n).getD i 0) (n - 1) = M.topN (M.Fk A n n) (n - 1) := M.topN_congr fun v hv => M.fkL_at _ _ _ _ (by omega)
  rw [hc, Bool.eq_iff_iff, decide_eq_true_eq]
  unfold M.hasCyc
  rw [List.any_eq_true]
  obtain ⟨v, hv, e⟩ := M.topN_at (M.Fk A n n) (n - 1)
  constructor
  · intro h
    exact ⟨v, List.mem_range.2 (by omega), by rw [← e]; simpa using h⟩
  · rintro ⟨u, hu, h⟩
    have hu := List.mem_range.1 hu
    have h3 := M.topN_ge (M.Fk A n n) (n - 1) u (by omega)
    have h4 : M.Fk A n n u ≠ -1000000000000000 := by simpa using h
    rcases M.Fk_sm hA n v (by omega) with k | k
    · rcases M.Fk_sm hA n u hu with q | q
      · exact absurd q h4
      · omega
    · omega

set_option maxRecDepth 100000 in
set_option maxHeartbeats 1000000 in
theorem slicesMax (a : Option Addr) (n cap : Nat) (l : List Int) (w : World) (h : Ints .i64 w a n l) (h1 : 1 ≤ n) :
    Calls Try.prog 71 #[.slice a n cap] w fun e w' => e = .returned (.int .i64 (M.topN (fun i => l.getD i 0) (n - 1))) ∧ w = w' := by
  obtain ⟨hl, hm, hr⟩ := h
  unfold maxLen at hm
  have hn1 : ¬ (n : Int) < 1 := by omega
  rcases hr with h0 | ⟨b, off, rfl, hbl, hc⟩
  · omega
  have hc0 := hc 0 (by omega)
  rw [Nat.add_zero] at hc0
  have HC := Lib.hid hc
  clear hl hc
  go_enter Try.func71, Try.ntmps71
  go_wp2
  clear hc0
  go_loop [3, 4] (fun m i => ∃ k : Nat, 1 ≤ k ∧ k ≤ n ∧ i = .int .i64 k ∧ m = .int .i64 (M.topN (fun i => l.getD i 0) (k - 1))) (fun _ i => n - (intOf i).toNat)
  case atStart => exact ⟨1, Nat.le_refl _, h1, rfl, rfl⟩
  case round =>
    obtain ⟨k, hk1, hk, rfl, rfl⟩ := hrel
    by_cases hlt : k < n
    · have hki : (k : Int) < (n : Int) := by omega
      have hck := HC.out k hlt
      have HT : Hid (max (M.topN (fun i => l.getD i 0) (k - 1)) (l.getD k 0) = M.topN (fun i => l.getD i 0) (k + 1 - 1)) := by
        show _ = _
        obtain ⟨q, rfl⟩ : ∃ q, k = q + 1 := ⟨k - 1, by omega⟩
        rfl
      generalize M.topN (fun i => l.getD i 0) (k - 1) = y at HT ⊢
      generalize l.getD k 0 = x at HT hck
      go_wp2
      go_round
      case rel => exact ⟨k + 1, by omega, by omega, by go_num, by rw [← HT.out]; congr 1; split <;> omega⟩
      case measure => simp [intOf]; omega
    · obtain rfl : k = n := by omega
      go_wp2
      go_ret
      exact ⟨rfl, rfl⟩
end Go.Proofs.Ytobdgboejbbfiaa.V

namespace Go.Proofs.Ytobdgboejbbfiaa
namespace M
/-- From, To, Delay, Tokens. -/
abbrev Pc := Int × Int × Int × Int
def pz : Pc := (0, 0, 0, 0)
def pf (p : Pc) (j : Nat) : Int := if j = 0 then p.1 else if j = 1 then p.2.1 else if j = 2 then p.2.2.1 else p.2.2.2
def setP (p : Pc) (j : Nat) (x : Int) : Pc := if j = 0 then (x, p.2.1, p.2.2.1, p.2.2.2) else if j = 1 then (p.1, x, p.2.2.1, p.2.2.2) else if j = 2 then (p.1, p.2.1, x, p.2.2.2) else (p.1, p.2.1, p.2.2.1, x)
theorem pf_set (p : Pc) (x : Int) {j k : Nat} (hj : j < 4) (hk : k < 4) : pf (setP p j x) k = if k = j then x else pf p k := by
  have h1 : j = 0 ∨ j = 1 ∨ j = 2 ∨ j = 3 := by omega
  have h2 : k = 0 ∨ k = 1 ∨ k = 2 ∨ k = 3 := by omega
  rcases h1 with rfl | rfl | rfl | rfl <;> rcases h2 with rfl | rfl | rfl | rfl <;> rfl
/-- One number of a place is changed. -/
def stF (l : List Pc) (i j : Nat) (x : Int) : List Pc := l.set i (setP (l.getD i pz) j x)
theorem stF_len (l : List Pc) (i j : Nat) (x : Int) : (stF l i j x).length = l.length := by simp [stF]
end M
namespace V
set_option maxRecDepth 100000
open Go.RowKit
theorem infoP : (Try.prog.info? 35).map (fun i => (i.zero, i.size, i.bytes)) = some (some (.agg #[.int .i64 0, .int .i64 0, .int .i64 0, .int .i64 0]), 4, 32) := by kernel_rfl
/-- A place by value. -/
def pV (p : M.Pc) : Value := .agg #[.int .i64 p.1, .int .i64 p.2.1, .int .i64 p.2.2.1, .int .i64 p.2.2.2]
/-- Four cells a place. -/
def pcells (l : List M.Pc) : List Value := (List.range (l.length * 4)).map fun q => Value.int .i64 (M.pf (l.getD (q / 4) M.pz) (q % 4))
theorem pcells_len (l : List M.Pc) : (pcells l).length = l.length * 4 := by simp [pcells]
theorem pcells_get (l : List M.Pc) {q : Nat} (hq : q < l.length * 4) : (pcells l)[q]? = some (.int .i64 (M.pf (l.getD (q / 4) M.pz) (q % 4))) := by
  unfold pcells
  rw [List.getElem?_map, List.getElem?_range hq]
  rfl
theorem pcells_at (l : List M.Pc) {i : Nat} (hi : i < l.length) : (pcells l)[i * 4]? = some (.int .i64 (l.getD i M.pz).1) ∧ (pcells l)[i * 4 + 1]? = some (.int .i64 (l.getD i M.pz).2.1) ∧ (pcells l)[i * 4 + 2]? = some (.int .i64 (l.getD i M.pz).2.2.1) ∧ (pcells l)[i * 4 + 3]? = some (.int .i64 (l.getD i M.pz).2.2.2) := by
  refine ⟨?_, ?_, ?_, ?_⟩
  · rw [pcells_get l (by omega), show i * 4 / 4 = i by omega, show i * 4 % 4 = 0 by omega]; rfl
  · rw [pcells_get l (by omega), show (i * 4 + 1) / 4 = i by omega, show (i * 4 + 1) % 4 = 1 by omega]; rfl
  · rw [pcells_get l (by omega), show (i * 4 + 2) / 4 = i by omega, show (i * 4 + 2) % 4 = 2 by omega]; rfl
  · rw [pcells_get l (by omega), show (i * 4 + 3) / 4 = i by omega, show (i * 4 + 3) % 4 = 3 by omega]; rfl
theorem pcells_ext {l : List M.Pc} {xs : List Value} (hl : xs.length = l.length * 4) (h : ∀ q, q < l.length * 4 → xs[q]? = some (.int .i64 (M.pf (l.getD (q / 4) M.pz) (q % 4)))) : xs = pcells l := by
  apply List.ext_getElem?
  intro q
  by_cases hq : q < l.length * 4
  · rw [h q hq, pcells_get l hq]
  · rw [List.getElem?_eq_none (by omega), List.getElem?_eq_none (by rw [pcells_len]; omega)]
theorem pcells_app (l k : List M.Pc) : pcells (l ++ k) = pcells l ++ pcells k := by
  refine (pcells_ext (by rw [List.length_append, pcells_len, pcells_len, List.length_append]; omega) fun q hq => ?_).symm
  rw [List.length_append] at hq
  by_cases h : q < l.length * 4
  · rw [List.getElem?_append_left (by rw [pcells_len]; exact h), pcells_get l h, List.getD_eq_getElem?_getD, List.getD_eq_getElem?_getD, List.getElem?_append_left (by omega)]
  · rw [List.getElem?_append_right (by rw [pcells_len]; omega), pcells_len, pcells_get k (by omega), List.getD_eq_getElem?_getD, List.getD_eq_getElem?_getD, List.getElem?_append_right (by omega), show (q - l.length * 4) / 4 = q / 4 - l.length by omega, show (q - l.length * 4) % 4 = q % 4 by omega]
theorem pcells_one (p : M.Pc) : pcells [p] = [.int .i64 p.1, .int .i64 p.2.1, .int .i64 p.2.2.1, .int .i64 p.2.2.2] := by
  simp [pcells, M.pf, List.range_succ]
theorem pcells_set {l : List M.Pc} {i j : Nat} (x : Int) (hi : i < l.length) (hj : j < 4) : (pcells l).set (i * 4 + j) (.int .i64 x) = pcells (l.set i (M.setP (l.getD i M.pz) j x)) := by
  refine pcells_ext (by rw [List.length_set, pcells_len, List.length_set]) fun q hq => ?_
  rw [List.length_set] at hq
  by_cases h : q = i * 4 + j
  · subst h
    rw [List.getElem?_set_self (by rw [pcells_len]; omega), show (i * 4 + j) / 4 = i by omega, show (i * 4 + j) % 4 = j by omega, List.getD_eq_getElem?_getD, List.getElem?_set_self hi]
    show some (Value.int _ _) = some (.int .i64 (M.pf (M.setP _ j x) j))
    rw [M.pf_set _ _ hj hj, if_pos rfl]
  · rw [List.getElem?_set_ne (Ne.symm h), pcells_get l hq]
    by_cases h2 : q / 4 = i
    · rw [h2]
      have e : (l.set i (M.setP (l.getD i M.pz) j x)).getD i M.pz = M.setP (l.getD i M.pz) j x := by rw [List.getD_eq_getElem?_getD, List.getElem?_set_self hi]; rfl
      rw [e]
      show some (Value.int _ _) = some (.int .i64 (M.pf (M.setP _ j x) (q % 4)))
      rw [M.pf_set _ _ hj (by omega), if_neg (by omega)]
    · rw [List.getD_eq_getElem?_getD, List.getD_eq_getElem?_getD, List.getElem?_set_ne (Ne.symm h2)]
/-- A slice of places that is read. -/
def Pls (w : World) (a : Option Addr) (n : Nat) (l : List M.Pc) : Prop :=
  l.length = n ∧ n ≤ maxLen ∧ (n = 0 ∨ ∃ b off, a = some ⟨b, off, none⟩ ∧ b < w.heap.size ∧ ∀ i, i < n → w.cell? ⟨b, off + i * 4, none⟩ = some (.int .i64 (l.getD i M.pz).1) ∧ w.cell? ⟨b, off + i * 4 + 1, none⟩ = some (.int .i64 (l.getD i M.pz).2.1) ∧ w.cell? ⟨b, off + i * 4 + 2, none⟩ = some (.int .i64 (l.getD i M.pz).2.2.1) ∧ w.cell? ⟨b, off + i * 4 + 3, none⟩ = some (.int .i64 (l.getD i M.pz).2.2.2))
theorem Pls.below {w w' : World} {a : Option Addr} {n : Nat} {l : List M.Pc} (h : Pls w a n l) (hb : Below w.heap.size w w') : Pls w' a n l := by
  obtain ⟨h1, h2, h3⟩ := h
  refine ⟨h1, h2, h3.imp id ?_⟩
  rintro ⟨b, off, rfl, hlt, hc⟩
  refine ⟨b, off, rfl, Nat.lt_of_lt_of_le hlt hb.size, fun i hi => ?_⟩
  obtain ⟨c0, c1, c2, c3⟩ := hc i hi
  exact ⟨(hb.cell (p := ⟨b, _, none⟩) hlt).trans c0, (hb.cell (p := ⟨b, _, none⟩) hlt).trans c1, (hb.cell (p := ⟨b, _, none⟩) hlt).trans c2, (hb.cell (p := ⟨b, _, none⟩) hlt).trans c3⟩
theorem Pls.at {w : World} {a : Option Addr} {n : Nat} {l : List M.Pc} (h : Pls w a n l) (i : Nat) (hi : i < n) : ∃ b off p0 p1 p2 p3, a = some ⟨b, off, none⟩ ∧ b < w.heap.size ∧ l.getD i M.pz = (p0, p1, p2, p3) ∧ w.cell? ⟨b, off + i * 4, none⟩ = some (.int .i64 p0) ∧ w.cell? ⟨b, off + i * 4 + 1, none⟩ = some (.int .i64 p1) ∧ w.cell? ⟨b, off + i * 4 + 2, none⟩ = some (.int .i64 p2) ∧ w.cell? ⟨b, off + i * 4 + 3, none⟩ = some (.int .i64 p3) := by
  obtain ⟨h1, h2, h3⟩ := h
  rcases h3 with h3 | ⟨b, off, rfl, hlt, hc⟩
  · omega
  · obtain ⟨c0, c1, c2, c3⟩ := hc i hi
    exact ⟨b, off, _, _, _, _, rfl, hlt, rfl, c0, c1, c2, c3⟩
/-- A slice that the call owns, in blocks from B on, holding the places l. -/
def OwnPl (w : World) (B : Nat) (v : Value) (l : List M.Pc) : Prop := w.ownsRow B 35 4 v l.length (pcells l)
theorem OwnPl.lt {w : World} {B : Nat} {v : Value} {l : List M.Pc} (h : OwnPl w B v l) {k : Nat} (hk : v.ownBlock = some k) : B ≤ k ∧ k < w.heap.size := World.ownsRow.lt h k hk
theorem OwnPl.keepB {w w' : World} {B : Nat} {v : Value} {l : List M.Pc} (h : OwnPl w B v l) (hk : ∀ k, v.ownBlock = some k → w'.heap[k]? = w.heap[k]?) : OwnPl w' B v l := by
  obtain ⟨h1, h2⟩ := h
  refine ⟨h1, ?_⟩
  rcases h2 with h2 | ⟨g, cap, cur, hv, hg, hh, r⟩
  · exact .inl h2
  · exact .inr ⟨g, cap, cur, hv, hg, by rw [hk g (by subst hv; rfl)]; exact hh, r⟩
theorem OwnPl.keep {w w' : World} {B : Nat} {v : Value} {l : List M.Pc} (h : OwnPl w B v l) (hk : ∀ k, B ≤ k → k < w.heap.size → w'.heap[k]? = w.heap[k]?) : OwnPl w' B v l :=
  h.keepB fun k hv => hk k (h.lt hv).1 (h.lt hv).2
theorem OwnPl.below {w w' : World} {B : Nat} {v : Value} {l : List M.Pc} (h : OwnPl w B v l) (hb : Below w.heap.size w w') : OwnPl w' B v l := h.keep (fun k _ h2 => hb.block k h2)
theorem OwnPl.mono {w : World} {B B' : Nat} {v : Value} {l : List M.Pc} (h : OwnPl w B v l) (hb : B' ≤ B) : OwnPl w B' v l := World.ownsRow.mono h hb
theorem OwnPl.form {w : World} {B : Nat} {v : Value} {l : List M.Pc} (h : OwnPl w B v l) : ∃ a cap, v = .slice a l.length cap ∧ l.length ≤ cap ∧ cap ≤ maxLen ∧ (0 < l.length → ∃ g, a = some ⟨g, 0, none⟩ ∧ B ≤ g ∧ g < w.heap.size) := by
  have h' := h
  obtain ⟨h1, h2⟩ := h
  rcases h2 with ⟨hv, h0⟩ | ⟨g, cap, cur, hv, hg, hh, hn, hc, r⟩
  · rw [h0]; exact ⟨none, 0, hv, Nat.le_refl _, Nat.zero_le _, fun h => by omega⟩
  · subst hv
    exact ⟨_, cap, rfl, hn, hc, fun _ => ⟨g, rfl, hg, (OwnPl.lt h' rfl).2⟩⟩
theorem OwnPl.len {w : World} {B n cap : Nat} {a : Option Addr} {l : List M.Pc} (h : OwnPl w B (.slice a n cap) l) : n = l.length := by
  obtain ⟨a', c, hv, _⟩ := h.form
  injection hv
theorem ownPl_nil (w : World) (B : Nat) : OwnPl w B (.slice none 0 0) [] := World.ownsRow_nil w B _ 4
theorem OwnPl.pls {w : World} {B n cap : Nat} {a : Option Addr} {l : List M.Pc} (h : OwnPl w B (.slice a n cap) l) : Pls w a n l := by
  have e := h.len
  obtain ⟨a', c', hv, hc, hm, hg⟩ := h.form
  injection hv with e1 e2 e3
  subst e1 e3
  refine ⟨e.symm, by omega, ?_⟩
  by_cases h0 : n = 0
  · exact .inl h0
  · obtain ⟨g, rfl, hB, hlt⟩ := hg (by omega)
    refine .inr ⟨g, 0, rfl, hlt, fun i hi => ?_⟩
    have hcl := World.ownsRow.cells h (g := g) rfl
    obtain ⟨r0, r1, r2, r3⟩ := pcells_at l (i := i) (by omega)
    have ad : ∀ j, (⟨g, 0, none⟩ : Addr).add j = ⟨g, 0 + j, none⟩ := fun j => by unfold Addr.add; split <;> simp_all
    have c0 := hcl _ _ r0
    have c1 := hcl _ _ r1
    have c2 := hcl _ _ r2
    have c3 := hcl _ _ r3
    rw [ad] at c0 c1 c2 c3
    exact ⟨c0, c1, c2, c3⟩
theorem OwnPl.frozenAt {w : World} {B g n cap : Nat} {l : List M.Pc} (h : OwnPl w B (.slice (some ⟨g, 0, none⟩) n cap) l) (j : Nat) : w.frozen? ⟨g, j, none⟩ = false := by
  have e := h.len
  subst e
  exact World.ownsRow.frozenAt h j
theorem OwnPl.setF {w : World} {B g n cap : Nat} {l : List M.Pc} (h : OwnPl w B (.slice (some ⟨g, 0, none⟩) n cap) l) {i j : Nat} (x : Int) (hi : i < n) (hj : j < 4) : OwnPl (w.setCell ⟨g, i * 4 + j, none⟩ (.int .i64 x)) B (.slice (some ⟨g, 0, none⟩) n cap) (M.stF l i j x) := by
  have e := h.len
  subst e
  have := (World.ownsRow.stored h (i * 4 + j) (.int .i64 x)).1
  rw [pcells_set x hi hj] at this
  show World.ownsRow _ _ _ _ _ (M.stF l i j x).length _
  rw [M.stF_len]
  exact this
theorem replicate_get (n i : Nat) : (List.replicate n M.pz).getD i M.pz = M.pz := by
  rw [List.getD_eq_getElem?_getD, List.getElem?_replicate]
  split <;> rfl
/-- A new list of zero places. -/
theorem ownPl_made (w : World) (B n : Nat) (hB : B ≤ w.heap.size) (hn : n ≤ maxLen) : OwnPl (w.alloc (.cells (madeCells #[.int .i64 0, .int .i64 0, .int .i64 0, .int .i64 0] (n * 4)) 35)) B (.slice (some ⟨w.heap.size, 0, none⟩) n n) (List.replicate n M.pz) := by
  have hs : (madeCells #[Value.int .i64 0, .int .i64 0, .int .i64 0, .int .i64 0] (n * 4)).size = n * 4 := size_madeCells _ _
  refine ⟨by rw [pcells_len], .inr ⟨w.heap.size, n, _, by simp, hB, heap_alloc_new w _, by simp, hn, hs, ?_⟩⟩
  refine pcells_ext (by simp [hs]) fun q hq => ?_
  simp only [List.length_replicate] at hq
  rw [List.getElem?_take, if_pos (by simpa using hq), Array.getElem?_toList, replicate_get]
  have h4 : q % 4 = 0 ∨ q % 4 = 1 ∨ q % 4 = 2 ∨ q % 4 = 3 := by omega
  have hz : M.pf M.pz (q % 4) = 0 := by rcases h4 with e | e | e | e <;> rw [e] <;> rfl
  rw [hz]
  unfold madeCells
  rw [Array.getElem?_map, Array.getElem?_range, if_pos hq]
  have hs4 : (#[Value.int .i64 0, .int .i64 0, .int .i64 0, .int .i64 0] : Array Value).size = 4 := rfl
  rw [hs4]
  rcases h4 with e | e | e | e <;> rw [Option.map_some] <;> simp [e]
end V
end Go.Proofs.Ytobdgboejbbfiaa

namespace Go.Proofs.Ytobdgboejbbfiaa
namespace M
/-- The first k places of l, then zeros. -/
def cpK (l : List Pc) (n k : Nat) : List Pc := (List.range n).map fun i => if i < k then l.getD i pz else pz
theorem cpK_zero (l : List Pc) (n : Nat) : cpK l n 0 = List.replicate n pz := by
  unfold cpK
  apply List.ext_getElem
  · simp
  · intro i h1 h2
    simp
theorem cpK_all (l : List Pc) : cpK l l.length l.length = l := by
  unfold cpK
  apply List.ext_getElem
  · simp
  · intro i h1 h2
    simp at h1
    simp [h1]
theorem cpK_len (l : List Pc) (n k : Nat) : (cpK l n k).length = n := by simp [cpK]
theorem cpK_set (l : List Pc) {n k : Nat} (hk : k < n) : (cpK l n k).set k (l.getD k pz) = cpK l n (k + 1) := by
  unfold cpK
  apply List.ext_getElem
  · simp
  · intro i h1 h2
    simp only [List.length_set, List.length_map, List.length_range] at h1
    rw [List.getElem_set]
    by_cases e : k = i
    · subst e; simp
    · rw [if_neg e]
      simp only [List.getElem_map, List.getElem_range]
      by_cases h : i < k
      · rw [if_pos h, if_pos (by omega)]
      · rw [if_neg h, if_neg (by omega)]
/-- Marks from m on. -/
def mkP (m : Int) (i : Nat) : Pc := (m + 4 * i, m + 4 * i + 1, m + 4 * i + 2, m + 4 * i + 3)
def iop (m : Int) (n : Nat) : List Pc := (List.range n).map (mkP m)
def mkK (m : Int) (l : List Pc) (n k : Nat) : List Pc := (List.range n).map fun i => if i < k then mkP m i else l.getD i pz
theorem iop_len (m : Int) (n : Nat) : (iop m n).length = n := by simp [iop]
theorem iop_get (m : Int) {n i : Nat} (h : i < n) : (iop m n).getD i pz = mkP m i := by simp [iop, h]
theorem mkK_zero (m : Int) (l : List Pc) : mkK m l l.length 0 = l := by
  unfold mkK
  apply List.ext_getElem
  · simp
  · intro i h1 h2
    simp at h1
    simp [h1]
theorem mkK_all (m : Int) (l : List Pc) (n : Nat) : mkK m l n n = iop m n := by
  unfold mkK iop
  apply List.map_congr_left
  intro i hi
  rw [if_pos (List.mem_range.1 hi)]
theorem mkK_len (m : Int) (l : List Pc) (n k : Nat) : (mkK m l n k).length = n := by simp [mkK]
theorem mkK_set (m : Int) (l : List Pc) {n k : Nat} (hk : k < n) : (mkK m l n k).set k (mkP m k) = mkK m l n (k + 1) := by
  unfold mkK
  apply List.ext_getElem
  · simp
  · intro i h1 h2
    simp only [List.length_set, List.length_map, List.length_range] at h1
    rw [List.getElem_set]
    by_cases e : k = i
    · subst e; simp
    · rw [if_neg e]
      simp only [List.getElem_map, List.getElem_range]
      by_cases h : i < k
      · rw [if_pos h, if_pos (by omega)]
      · rw [if_neg h, if_neg (by omega)]
theorem quad {l : List Pc} {i : Nat} (hi : i < l.length) (x0 x1 x2 x3 : Int) : stF (stF (stF (stF l i 0 x0) i 1 x1) i 2 x2) i 3 x3 = l.set i (x0, x1, x2, x3) := by
  simp [stF, List.getD_eq_getElem?_getD, hi, setP]
end M
namespace V
set_option maxRecDepth 100000
open Go.RowKit
theorem OwnPl.setQ {w : World} {B g n cap : Nat} {l : List M.Pc} (h : OwnPl w B (.slice (some ⟨g, 0, none⟩) n cap) l) {i : Nat} (hi : i < n) (x0 x1 x2 x3 : Int) :
    OwnPl ((((w.setCell ⟨g, i * 4, none⟩ (.int .i64 x0)).setCell ⟨g, i * 4 + 1, none⟩ (.int .i64 x1)).setCell ⟨g, i * 4 + 2, none⟩ (.int .i64 x2)).setCell ⟨g, i * 4 + 3, none⟩ (.int .i64 x3)) B (.slice (some ⟨g, 0, none⟩) n cap) (l.set i (x0, x1, x2, x3)) := by
  have hl := h.len
  have := (((h.setF x0 hi (j := 0) (by omega)).setF x1 hi (j := 1) (by omega)).setF x2 hi (j := 2) (by omega)).setF x3 hi (j := 3) (by omega)
  rw [M.quad (by omega)] at this
  exact this
/-- What a store into the place i asks. -/
theorem OwnPl.room {w : World} {B g n cap : Nat} {l : List M.Pc} (h : OwnPl w B (.slice (some ⟨g, 0, none⟩) n cap) l) {i : Nat} (hi : i < n) :
    (∃ v, w.cell? ⟨g, i * 4, none⟩ = some v) ∧ (∃ v, w.cell? ⟨g, i * 4 + 1, none⟩ = some v) ∧ (∃ v, w.cell? ⟨g, i * 4 + 2, none⟩ = some v) ∧ (∃ v, w.cell? ⟨g, i * 4 + 3, none⟩ = some v) ∧ w.frozen? ⟨g, i * 4, none⟩ = false ∧ w.frozen? ⟨g, i * 4 + 1, none⟩ = false ∧ w.frozen? ⟨g, i * 4 + 2, none⟩ = false ∧ w.frozen? ⟨g, i * 4 + 3, none⟩ = false := by
  obtain ⟨b, off, p0, p1, p2, p3, hb, -, -, c0, c1, c2, c3⟩ := h.pls.at i hi
  injection hb with hb
  injection hb with e1 e2
  subst e1 e2
  rw [Nat.zero_add] at c0 c1 c2 c3
  exact ⟨⟨_, c0⟩, ⟨_, c1⟩, ⟨_, c2⟩, ⟨_, c3⟩, h.frozenAt _, h.frozenAt _, h.frozenAt _, h.frozenAt _⟩
theorem run_makeP (n : Nat) (hn : n ≤ 1048576) (w : World) : (Instr.makeSlice 24 (.int .i64 (n : Int)) (.int .i64 (n : Int))).run Try.prog w = .ok (.slice (some ⟨w.heap.size, 0, none⟩) n n) (w.alloc (.cells (madeCells #[.int .i64 0, .int .i64 0, .int .i64 0, .int .i64 0] (n * 4)) 35)) := by
  obtain ⟨i, hi, hzz⟩ := Option.map_eq_some_iff.1 infoP
  simp only [Prod.mk.injEq] at hzz
  obtain ⟨hz, hs, hb⟩ := hzz
  have hr := run_make (P := Try.prog) w 24 35 i (.agg #[.int .i64 0, .int .i64 0, .int .i64 0, .int .i64 0]) Try.underlying24 hi hz .i64 .i64 n n (by omega) (Int.le_refl _) (by rw [hb]; omega) (by omega)
  simp only [Int.toNat_natCast, hs] at hr
  exact hr
set_option maxRecDepth 100000 in
set_option maxHeartbeats 400000 in
theorem szPl_t (a : Option Addr) (n cap : Nat) (w : World) (hn : n ≤ 1048576) : Calls Try.prog 81 #[.slice a n cap, .int .i64 1048576] w fun e w' => e = .returned (.int .i64 (1048576 - n)) ∧ w = w' := by
  go_enter Try.func81, Try.ntmps81
  go_wp2
  go_ret
  exact ⟨rfl, rfl⟩
set_option maxRecDepth 100000 in
set_option maxHeartbeats 400000 in
theorem szPl_f (a : Option Addr) (n cap : Nat) (w : World) (hn : 1048576 < n) (hm : n ≤ maxLen) : Calls Try.prog 81 #[.slice a n cap, .int .i64 1048576] w fun e w' => e = .returned (.int .i64 (-1)) ∧ w = w' := by
  unfold maxLen at hm
  go_enter Try.func81, Try.ntmps81
  go_wp2
  go_ret
  exact ⟨rfl, rfl⟩
set_option maxRecDepth 100000 in
set_option maxHeartbeats 400000 in
theorem szGr_t (x : Int) (a : Option Addr) (n cap : Nat) (w : World) (hn : n ≤ 1048576) : Calls Try.prog 30 #[.agg #[.int .i64 x, .slice a n cap], .int .i64 1048576] w fun e w' => e = .returned (.int .i64 (1048576 - n)) ∧ Below w.heap.size w w' := by
  go_enter Try.func30, Try.ntmps30
  go_wp2_with (go_at_call 81; refine (szPl_t _ _ _ _ hn).mono ?_; rintro e w' ⟨rfl, rfl⟩)
  go_ret
  exact ⟨rfl, b_alloc _ _⟩
set_option maxRecDepth 100000 in
set_option maxHeartbeats 400000 in
theorem szGr_f (x : Int) (a : Option Addr) (n cap : Nat) (w : World) (hn : 1048576 < n) (hm : n ≤ maxLen) : Calls Try.prog 30 #[.agg #[.int .i64 x, .slice a n cap], .int .i64 1048576] w fun e w' => e = .returned (.int .i64 (-1)) ∧ Below w.heap.size w w' := by
  go_enter Try.func30, Try.ntmps30
  go_wp2_with (go_at_call 81; refine (szPl_f _ _ _ _ hn hm).mono ?_; rintro e w' ⟨rfl, rfl⟩)
  go_ret
  exact ⟨rfl, b_alloc _ _⟩
set_option maxRecDepth 100000 in
set_option maxHeartbeats 1000000 in
theorem toPlace (p0 p1 p2 p3 : Int) (w : World) :
    Calls Try.prog 55 #[.agg #[.int .i64 p0, .int .i64 p1, .int .i64 p2, .int .i64 p3]] w fun e w' => e = .returned (.agg #[.int .i64 p0, .int .i64 p1, .int .i64 p2, .int .i64 p3]) ∧ Below w.heap.size w w' := by
  go_enter Try.func55, Try.ntmps55
  go_wp2
  exact bodyPost_ret (v := .agg #[.int .i64 p0, .int .i64 p1, .int .i64 p2, .int .i64 p3]) (by simp [results, Try.results55, go_sem]) rfl ⟨rfl, (b_alloc2 _ _ _).alloc (by simp; omega) _⟩
set_option maxRecDepth 100000 in
set_option maxHeartbeats 1000000 in
theorem eqPlace (p0 p1 p2 p3 : Int) (w : World) :
    Calls Try.prog 127 #[.agg #[.int .i64 p0, .int .i64 p1, .int .i64 p2, .int .i64 p3], .agg #[.int .i64 p0, .int .i64 p1, .int .i64 p2, .int .i64 p3]] w fun e w' => e = .returned (.bool true) ∧ Below w.heap.size w w' := by
  go_enter Try.func127, Try.ntmps127
  go_wp2
  go_ret
  exact ⟨rfl, b_alloc2 _ _ _⟩
set_option maxRecDepth 100000 in
set_option maxHeartbeats 2000000 in
theorem toPlaces (a : Option Addr) (n cap : Nat) (l : List M.Pc) (w : World) (h : Pls w a n l) (hn : n ≤ 1048576) :
    Calls Try.prog 82 #[.slice a n cap] w fun e w' => ∃ b, e = .returned (.slice b n n) ∧ OwnPl w' w.heap.size (.slice b n n) l ∧ Below w.heap.size w w' := by
  have HI := Lib.hid h
  have HL : Hid (l.length = n) := h.1
  have hmk := run_makeP n hn
  have HO0 : Hid (OwnPl (w.alloc (.cells (madeCells #[.int .i64 0, .int .i64 0, .int .i64 0, .int .i64 0] (n * 4)) 35)) w.heap.size (.slice (some ⟨w.heap.size, 0, none⟩) n n) (M.cpK l n 0)) := by
    rw [M.cpK_zero]; exact ownPl_made w _ n (Nat.le_refl _) (by unfold maxLen; omega)
  have HB0 : Hid (Below w.heap.size w (w.alloc (.cells (madeCells #[.int .i64 0, .int .i64 0, .int .i64 0, .int .i64 0] (n * 4)) 35))) := b_alloc w _
  have HTo : Hid (∀ p0 p1 p2 p3 w, Calls Try.prog 55 #[.agg #[.int .i64 p0, .int .i64 p1, .int .i64 p2, .int .i64 p3]] w fun e w' => e = .returned (.agg #[.int .i64 p0, .int .i64 p1, .int .i64 p2, .int .i64 p3]) ∧ Below w.heap.size w w') := toPlace
  clear h
  go_enter Try.func82, Try.ntmps82
  go_wp2
  go_loopw [4] (fun kv wr => ∃ k : Nat, k ≤ n ∧ kv = .int .i64 k ∧ Hid (OwnPl wr w.heap.size (.slice (some ⟨w.heap.size, 0, none⟩) n n) (M.cpK l n k)) ∧ Hid (Below w.heap.size w wr)) (fun kv _ => n - (intOf kv).toNat)
  case atStart => exact ⟨0, Nat.zero_le _, rfl, HO0, HB0⟩
  case round =>
    obtain ⟨k, hk, rfl, HO, HB⟩ := hrel
    obtain ⟨wo, rfl⟩ : ∃ x, x = wr := ⟨_, rfl⟩
    clear HO0 HB0
    by_cases hkl : k < n
    · have hki : (k : Int) < (n : Int) := by omega
      obtain ⟨b, off, p0, p1, p2, p3, rfl, -, hp, c0, c1, c2, c3⟩ := (HI.out.below HB.out).at k hkl
      have HS := M.cpK_set l hkl
      rw [hp] at HS
      have HSh := Lib.hid HS
      clear HS hp
      go_wp2_with fail
      refine (HTo.out p0 p1 p2 p3 _).mono ?_
      rintro e w2 ⟨rfl, hb2⟩
      have hO2 := HO.out.below hb2
      obtain ⟨⟨v0, d0⟩, ⟨v1, d1⟩, ⟨v2, d2⟩, ⟨v3, d3⟩, f0, f1, f2, f3⟩ := hO2.room hkl
      have HN := Lib.hid (hO2.setQ hkl p0 p1 p2 p3)
      have HB2 := Lib.hid (((((HB.out.trans (hb2.mono HB.out.size)).setCell (p := ⟨w.heap.size, k * 4, none⟩) (Nat.le_refl _) (.int .i64 p0)).setCell (p := ⟨w.heap.size, k * 4 + 1, none⟩) (Nat.le_refl _) (.int .i64 p1)).setCell (p := ⟨w.heap.size, k * 4 + 2, none⟩) (Nat.le_refl _) (.int .i64 p2)).setCell (p := ⟨w.heap.size, k * 4 + 3, none⟩) (Nat.le_refl _) (.int .i64 p3))
      rw [HSh.out] at HN
      clear hO2 hb2
      go_wp2
      go_roundw
      case rel => exact ⟨k + 1, by omega, by go_num, HN, HB2⟩
      case measure => simp [intOf]; omega
    · obtain rfl : k = n := by omega
      have hO := HO.out
      rw [show M.cpK l k k = l by rw [← HL.out]; exact M.cpK_all l] at hO
      have HO := Lib.hid hO
      clear hO
      go_wp2
      go_ret
      exact ⟨_, rfl, HO.out, HB.out⟩
end V
end Go.Proofs.Ytobdgboejbbfiaa

namespace Go.Proofs.Ytobdgboejbbfiaa
namespace V
set_option maxRecDepth 100000
open Go.RowKit
theorem b_al3g (w : World) (x y z : Obj) : Below w.heap.size w (((w.alloc x).alloc y).alloc z) := (b_alloc2 w x y).trans ((b_alloc _ z).mono (by simp; omega))
set_option maxRecDepth 100000 in
set_option maxHeartbeats 2000000 in
theorem toGraph (x : Int) (a : Option Addr) (n cap : Nat) (l : List M.Pc) (w : World) (h : Pls w a n l) (hn : n ≤ 1048576) :
    Calls Try.prog 32 #[.agg #[.int .i64 x, .slice a n cap]] w fun e w' => ∃ b, e = .returned (.agg #[.int .i64 x, .slice b n n]) ∧ OwnPl w' w.heap.size (.slice b n n) l ∧ Below w.heap.size w w' := by
  have HI := Lib.hid h
  have HT : Hid (∀ W, Below w.heap.size w W → Calls Try.prog 82 #[.slice a n cap] W fun e w' => ∃ b, e = .returned (.slice b n n) ∧ OwnPl w' W.heap.size (.slice b n n) l ∧ Below W.heap.size W w') := fun W hW => toPlaces a n cap l W (h.below hW) hn
  clear h
  go_enter Try.func32, Try.ntmps32
  go_wp2_with fail
  refine (HT.out _ (b_al3g _ _ _ _)).mono ?_
  rintro e w2 ⟨b, rfl, ho2, hb2⟩
  obtain ⟨hcr, hfr⟩ := bcell hb2
  have hzz := hb2.size
  simp at hzz
  have h10 : w2.cell? ⟨w.heap.size + 1, 0, none⟩ = some (.int .i64 0) := by rw [hcr _ _ (by simp)]; simp [go_sem]
  have h11 : w2.cell? ⟨w.heap.size + 1, 1, none⟩ = some (.slice none 0 0) := by rw [hcr _ _ (by simp)]; simp [go_sem]
  have h20 : w2.cell? ⟨w.heap.size + 1 + 1, 0, none⟩ = some (.int .i64 x) := by rw [hcr _ _ (by simp)]; simp [go_sem]
  have h21 : w2.cell? ⟨w.heap.size + 1 + 1, 1, none⟩ = some (.slice none 0 0) := by rw [hcr _ _ (by simp)]; simp [go_sem]
  have k10 : w2.frozen? ⟨w.heap.size + 1, 0, none⟩ = false := by rw [hfr _ _ (by simp)]; simp [go_sem]
  have k11 : w2.frozen? ⟨w.heap.size + 1, 1, none⟩ = false := by rw [hfr _ _ (by simp)]; simp [go_sem]
  have k21 : w2.frozen? ⟨w.heap.size + 1 + 1, 1, none⟩ = false := by rw [hfr _ _ (by simp)]; simp [go_sem]
  have HO2 := Lib.hid ho2
  have hba : Below w.heap.size w w2 := (b_al3g _ _ _ _).trans (hb2.mono (by simp; omega))
  have z1 : w.heap.size + 1 < w2.heap.size := by omega
  have z2 : w.heap.size + 1 + 1 < w2.heap.size := by omega
  have HBa := Lib.hid hba
  have HBz := Lib.hid hzz
  have HOw : Hid (OwnPl (((w2.setCell ⟨w.heap.size + 1 + 1, 1, none⟩ (.slice b n n)).setCell ⟨w.heap.size + 1, 0, none⟩ (.int .i64 x)).setCell ⟨w.heap.size + 1, 1, none⟩ (.slice b n n)) w.heap.size (.slice b n n) l) := by
    refine (ho2.keepB fun k hk => ?_).mono (by simp; omega)
    have := (ho2.lt hk).1
    simp at this
    rw [Below.heap_setCell _ _ _ _ (by show k ≠ w.heap.size + 1; omega), Below.heap_setCell _ _ _ _ (by show k ≠ w.heap.size + 1; omega), Below.heap_setCell _ _ _ _ (by show k ≠ w.heap.size + 1 + 1; omega)]
  clear ho2 hb2 hcr hfr hba
  go_wp2
  exact bodyPost_ret (v := .agg #[.int .i64 x, .slice b n n]) (by simp [results, Try.results32, go_sem, z1, z2, h10, h11, h20, h21]) rfl ⟨b, rfl, HOw.out, ((HBa.out.setCell (by show _ ≤ w.heap.size + 1 + 1; omega) _).setCell (by show _ ≤ w.heap.size + 1; omega) _).setCell (by show _ ≤ w.heap.size + 1; omega) _⟩
set_option maxRecDepth 100000 in
set_option maxHeartbeats 2000000 in
theorem eqPlaces (a : Option Addr) (n cap : Nat) (a' : Option Addr) (n' cap' : Nat) (l : List M.Pc) (w : World) (h : Pls w a n l) (h' : Pls w a' n' l) :
    Calls Try.prog 83 #[.slice a n cap, .slice a' n' cap'] w fun e w' => e = .returned (.bool true) ∧ Below w.heap.size w w' := by
  obtain rfl : n' = n := by rw [← h.1, ← h'.1]
  have HI := Lib.hid h
  have HI' := Lib.hid h'
  have hm := h.2.1
  unfold maxLen at hm
  have HEq : Hid (∀ p0 p1 p2 p3 w, Calls Try.prog 127 #[.agg #[.int .i64 p0, .int .i64 p1, .int .i64 p2, .int .i64 p3], .agg #[.int .i64 p0, .int .i64 p1, .int .i64 p2, .int .i64 p3]] w fun e w' => e = .returned (.bool true) ∧ Below w.heap.size w w') := eqPlace
  clear h h'
  go_enter Try.func83, Try.ntmps83
  go_wp2
  go_loopw [5] (fun kv wr => ∃ k : Nat, k ≤ n' ∧ kv = .int .i64 k ∧ Hid (Below w.heap.size w wr)) (fun kv _ => n' - (intOf kv).toNat)
  case atStart => exact ⟨0, Nat.zero_le _, rfl, Below.refl _ _⟩
  case round =>
    obtain ⟨k, hk, rfl, HB⟩ := hrel
    obtain ⟨wo, rfl⟩ : ∃ x, x = wr := ⟨_, rfl⟩
    by_cases hkl : k < n'
    · have hki : (k : Int) < (n' : Int) := by omega
      obtain ⟨b, off, p0, p1, p2, p3, rfl, -, hp, c0, c1, c2, c3⟩ := (HI.out.below HB.out).at k hkl
      obtain ⟨b', off', q0, q1, q2, q3, rfl, -, hq, d0, d1, d2, d3⟩ := (HI'.out.below HB.out).at k hkl
      rw [hp] at hq
      injection hq with e0 hq
      injection hq with e1 hq
      injection hq with e2 e3
      subst e0 e1 e2 e3
      clear hp
      go_wp2
      go_region_with (first | (go_at_call 127; refine (HEq.out p0 p1 p2 p3 _).mono ?_; rintro e w2 ⟨rfl, hb2⟩))
      all_goals
        have HB2 : Hid (Below w.heap.size w w2) := (HB.out.trans ((b_draws wo 1).mono HB.out.size)).trans (hb2.mono (by have := HB.out.size; simpa using this))
        go_wp2
        go_roundw
        case rel => exact ⟨k + 1, by omega, by go_num, HB2⟩
        case measure => simp [intOf]; omega
    · obtain rfl : k = n' := by omega
      go_wp2
      go_ret
      exact ⟨rfl, HB.out⟩
set_option maxRecDepth 100000 in
set_option maxHeartbeats 4000000 in
theorem markPlaces (a : Option Addr) (n cap B : Nat) (l : List M.Pc) (m : Int) (w0 w : World) (h0 : OwnPl w0 B (.slice a n cap) l) (hb0 : Same B w0.heap.size w0 w) (hn : n ≤ 1048576) (h1 : 0 ≤ m) (h2 : m ≤ 40000000) :
    Calls Try.prog 84 #[.slice a n cap, .int .i64 m] w fun e w' => ∃ y : Int, e = .returned (.int .i64 y) ∧ 0 ≤ y ∧ Hid (y = m + 4 * n) ∧ OwnPl w' B (.slice a n cap) (M.iop m n) ∧ Chg (fun k => B ≤ k ∧ k < w0.heap.size) w w' := by
  have h := h0.keep hb0
  have HO := Lib.hid h
  have HL : Hid (n = l.length) := h.len
  have hgg := h0.form
  obtain ⟨a', c', hv, -, -, hg⟩ := hgg
  injection hv with e1 e2 e3
  subst e1 e3
  rw [← e2] at hg
  have HG := Lib.hid hg
  have HO0 : Hid (OwnPl w B (.slice a n cap) (M.mkK m l n 0)) := by
    show OwnPl _ _ _ _
    have := M.mkK_zero m l
    rw [← HL.out] at this
    rw [this]; exact h
  clear h h0 hb0 hg e2
  go_enter Try.func84, Try.ntmps84
  go_wp2
  go_loopw [1, 5] (fun x i wr => ∃ (k : Nat) (y : Int), k ≤ n ∧ i = .int .i64 k ∧ x = .int .i64 y ∧ y = m + 4 * k ∧ Hid (OwnPl wr B (.slice a n cap) (M.mkK m l n k)) ∧ Hid (Chg (fun k => B ≤ k ∧ k < w0.heap.size) w wr)) (fun _ i _ => n - (intOf i).toNat)
  case atStart => exact ⟨0, m, Nat.zero_le _, rfl, rfl, by simp, HO0, Chg.refl _ _⟩
  case round =>
    obtain ⟨k, y, hk, rfl, rfl, hy, hO, HC⟩ := hrel
    clear HO0
    by_cases hkl : k < n
    · obtain ⟨g, rfl, hBg, hgl⟩ := HG.out (by omega)
      have hki : (k : Int) < (n : Int) := by omega
      obtain ⟨⟨v0, d0⟩, ⟨v1, d1⟩, ⟨v2, d2⟩, ⟨v3, d3⟩, f0, f1, f2, f3⟩ := hO.out.room hkl
      have HN := Lib.hid (hO.out.setQ hkl y (y + 1) (y + 1 + 1) (y + 1 + 1 + 1))
      rw [show (y, y + 1, y + 1 + 1, y + 1 + 1 + 1) = M.mkP m k by unfold M.mkP; rw [hy]; ext <;> simp <;> omega, M.mkK_set m l hkl] at HN
      have HC2 : Hid (Chg (fun k => B ≤ k ∧ k < w0.heap.size) w ((((wr.setCell ⟨g, k * 4, none⟩ (.int .i64 y)).setCell ⟨g, k * 4 + 1, none⟩ (.int .i64 (y + 1))).setCell ⟨g, k * 4 + 2, none⟩ (.int .i64 (y + 1 + 1))).setCell ⟨g, k * 4 + 3, none⟩ (.int .i64 (y + 1 + 1 + 1)))) := (((HC.out.set ⟨hBg, hgl⟩ _).set ⟨hBg, hgl⟩ _).set ⟨hBg, hgl⟩ _).set ⟨hBg, hgl⟩ _
      have HY := Lib.hid hy
      have hy0 : 0 ≤ y := by omega
      have hy1 : y ≤ 50000000 := by omega
      clear hy hO
      go_wp2
      go_roundw
      case rel => exact ⟨k + 1, y + 1 + 1 + 1 + 1, by omega, by go_num, by first | rfl | go_num, by have := HY.out; omega, HN, HC2⟩
      case measure => simp [intOf]; omega
    · obtain rfl : k = n := by omega
      have HNo : Hid (OwnPl wr B (.slice a k cap) (M.iop m k)) := by
        have := hO.out
        rw [M.mkK_all] at this
        exact this
      have HY := Lib.hid hy
      go_wp2
      go_ret
      exact ⟨y, rfl, by omega, HY.out, HNo.out, HC.out⟩
set_option maxRecDepth 100000 in
set_option maxHeartbeats 4000000 in
theorem heldPlaces (a : Option Addr) (n cap : Nat) (m : Int) (y : Int) (w : World) (h : Pls w a n (M.iop m n)) (hn : n ≤ 1048576) (h1 : 0 ≤ m) (h2 : m ≤ 40000000) (hy : y = m + 4 * n) :
    Calls Try.prog 107 #[.slice a n cap, .int .i64 m] w fun e w' => e = .returned (.int .i64 y) ∧ w = w' := by
  have HI := Lib.hid h
  clear h
  go_enter Try.func107, Try.ntmps107
  go_wp2
  go_loopw [1, 5] (fun x i wr => ∃ (k : Nat) (z : Int), k ≤ n ∧ i = .int .i64 k ∧ x = .int .i64 z ∧ z = m + 4 * k ∧ wr = w) (fun _ i _ => n - (intOf i).toNat)
  case atStart => exact ⟨0, m, Nat.zero_le _, rfl, rfl, by simp, rfl⟩
  case round =>
    obtain ⟨k, z, hk, rfl, rfl, hz, rfl⟩ := hrel
    by_cases hkl : k < n
    · have hki : (k : Int) < (n : Int) := by omega
      obtain ⟨b, off, p0, p1, p2, p3, rfl, -, hp, c0, c1, c2, c3⟩ := HI.out.at k hkl
      rw [M.iop_get m hkl] at hp
      unfold M.mkP at hp
      injection hp with e0 hp
      injection hp with e1 hp
      injection hp with e2 e3
      obtain rfl : p0 = z := by omega
      obtain rfl : p1 = p0 + 1 := by omega
      obtain rfl : p2 = p0 + 1 + 1 := by omega
      obtain rfl : p3 = p0 + 1 + 1 + 1 := by omega
      have HZ := Lib.hid hz
      have hz0 : 0 ≤ p0 := by omega
      have hz1 : p0 ≤ 50000000 := by omega
      clear e0 e1 e2 e3 hz
      go_wp2
      go_roundw
      case rel => exact ⟨k + 1, p0 + 1 + 1 + 1 + 1, by omega, by go_num, by first | rfl | go_num, by have := HZ.out; omega, by first | rfl | trivial⟩
      case measure => simp [intOf]; omega
    · obtain rfl : k = n := by omega
      obtain rfl : z = y := by omega
      go_wp2
      go_ret
      exact ⟨rfl, rfl⟩
set_option maxRecDepth 100000 in
set_option maxHeartbeats 1000000 in
theorem eqGraph (x : Int) (a : Option Addr) (n cap : Nat) (a' : Option Addr) (n' cap' : Nat) (l : List M.Pc) (w : World) (h : Pls w a n l) (h' : Pls w a' n' l) :
    Calls Try.prog 33 #[.agg #[.int .i64 x, .slice a n cap], .agg #[.int .i64 x, .slice a' n' cap']] w fun e w' => e = .returned (.bool true) ∧ Below w.heap.size w w' := by
  have HT : Hid (∀ W, Below w.heap.size w W → Calls Try.prog 83 #[.slice a n cap, .slice a' n' cap'] W fun e w' => e = .returned (.bool true) ∧ Below W.heap.size W w') := fun W hW => eqPlaces a n cap a' n' cap' l W (h.below hW) (h'.below hW)
  clear h h'
  go_enter Try.func33, Try.ntmps33
  go_wp2_with fail
  refine (HT.out _ (b_alloc2 _ _ _)).mono ?_
  rintro e w2 ⟨rfl, hb2⟩
  have HB := Lib.hid ((b_alloc2 w _ _).trans (hb2.mono (by simp; omega)))
  clear hb2
  go_wp2
  go_ret
  exact ⟨rfl, HB.out⟩
set_option maxRecDepth 100000 in
set_option maxHeartbeats 1000000 in
theorem markGraph (x : Int) (a : Option Addr) (n cap B : Nat) (l : List M.Pc) (m : Int) (w0 w : World) (h0 : OwnPl w0 B (.slice a n cap) l) (hb0 : Same B w0.heap.size w0 w) (hw : w0.heap.size ≤ w.heap.size) (hn : n ≤ 1048576) (h1 : 0 ≤ m) (h2 : m ≤ 40000000) :
    Calls Try.prog 35 #[.agg #[.int .i64 x, .slice a n cap], .int .i64 m] w fun e w' => ∃ y : Int, e = .returned (.int .i64 y) ∧ 0 ≤ y ∧ Hid (y = m + 4 * n) ∧ OwnPl w' B (.slice a n cap) (M.iop m n) ∧ (∀ k, k < w.heap.size → ¬ (B ≤ k ∧ k < w0.heap.size) → w'.heap[k]? = w.heap[k]?) ∧ w.heap.size ≤ w'.heap.size ∧ (B ≤ w.heap.size → Below B w w') := by
  have hs : Same B w0.heap.size w0 (w.alloc (.cells #[.int .i64 x, .slice a n cap] 26)) := fun k q1 q2 => by
    rw [Below.heap_alloc w _ _ (by omega)]; exact hb0 k q1 q2
  have HT := Lib.hid (markPlaces a n cap B l m w0 (w.alloc (.cells #[.int .i64 x, .slice a n cap] 26)) h0 hs hn h1 h2)
  clear h0 hb0 hs
  go_enter Try.func35, Try.ntmps35
  go_wp2_with fail
  refine (HT.out).mono ?_
  rintro e w2 ⟨y, rfl, hy, HY, ho, hc⟩
  have HO := Lib.hid ho
  have HCh : Hid (∀ k, k < w.heap.size → ¬ (B ≤ k ∧ k < w0.heap.size) → w2.heap[k]? = w.heap[k]?) := fun k q1 q2 => (hc.other k q2).trans (Below.heap_alloc w _ _ q1)
  have hsz : w.heap.size ≤ w2.heap.size := by have := hc.size; simp at this; omega
  have HBl : Hid (B ≤ w.heap.size → Below B w w2) := fun q => ((Below.refl B w).alloc q _).trans (hc.below fun k hk => hk.1)
  have HT := True.intro
  clear ho hc HT
  go_wp2
  go_ret
  exact ⟨y, rfl, hy, HY, HO.out, HCh.out, hsz, HBl.out⟩
set_option maxRecDepth 100000 in
set_option maxHeartbeats 1000000 in
theorem heldGraph (x : Int) (a : Option Addr) (n cap : Nat) (m : Int) (y : Int) (w : World) (h : Pls w a n (M.iop m n)) (hn : n ≤ 1048576) (h1 : 0 ≤ m) (h2 : m ≤ 40000000) (hy : y = m + 4 * n) :
    Calls Try.prog 57 #[.agg #[.int .i64 x, .slice a n cap], .int .i64 m] w fun e w' => e = .returned (.int .i64 y) ∧ Below w.heap.size w w' := by
  have HT := Lib.hid (heldPlaces a n cap m y (w.alloc (.cells #[.int .i64 x, .slice a n cap] 26)) (h.below (b_alloc w _)) hn h1 h2 hy)
  have hy0 : 0 ≤ y := by omega
  clear h hy
  go_enter Try.func57, Try.ntmps57
  go_wp2_with fail
  refine (HT.out).mono ?_
  rintro e w2 ⟨rfl, rfl⟩
  go_wp2
  go_ret
  exact ⟨rfl, b_alloc _ _⟩
end V
end Go.Proofs.Ytobdgboejbbfiaa

namespace Go.Proofs.Ytobdgboejbbfiaa
namespace M
def inB (x lo hi : Int) : Bool := decide (lo ≤ x) && decide (x ≤ hi)
/-- A place whose events are at most m. -/
def plW (m : Int) (p : Pc) : Bool := inB p.1 0 m && (inB p.2.1 0 m && (inB p.2.2.1 0 1000 && inB p.2.2.2 0 5))
def isGr (e : Int) (l : List Pc) : Bool := inB e 1 10 && (decide (l.length ≤ 30) && l.all (plW (e - 1)))
theorem all_at {p : Pc → Bool} {l : List Pc} (h : l.all p = true) {i : Nat} (hi : i < l.length) : p (l.getD i pz) = true := by
  rw [List.getD_eq_getElem?_getD, List.getElem?_eq_getElem hi]
  exact List.all_eq_true.1 h _ (List.getElem_mem hi)
theorem all_of {p : Pc → Bool} {l : List Pc} (h : ∀ i, i < l.length → p (l.getD i pz) = true) : l.all p = true := by
  rw [List.all_eq_true]
  intro x hx
  obtain ⟨i, hi, rfl⟩ := List.mem_iff_getElem.1 hx
  have := h i hi
  rw [List.getD_eq_getElem?_getD, List.getElem?_eq_getElem hi] at this
  exact this
theorem all_no {p : Pc → Bool} {l : List Pc} {i : Nat} (hi : i < l.length) (h : p (l.getD i pz) = false) : l.all p = false := by
  cases e : l.all p with
  | false => rfl
  | true => rw [all_at e hi] at h; cases h
end M
namespace V
set_option maxRecDepth 100000
open Go.RowKit
set_option maxRecDepth 100000 in
set_option maxHeartbeats 400000 in
theorem sPlace (p0 p1 p2 p3 x : Int) (w : World) :
    Calls Try.prog 105 #[.agg #[.int .i64 p0, .int .i64 p1, .int .i64 p2, .int .i64 p3], .int .i64 x] w fun e w' => e = .returned (.bool (M.plW (wrap64 (x - 1)) (p0, p1, p2, p3))) ∧ Below w.heap.size w w' := by
  obtain ⟨m, hm⟩ : ∃ m, m = wrap64 (x - 1) := ⟨_, rfl⟩
  have hm2 : wrap64 (x - 1) = m := hm.symm
  rw [hm2]
  show Calls _ _ _ _ fun e w' => e = .returned (.bool ((decide (0 ≤ p0) && decide (p0 ≤ m)) && ((decide (0 ≤ p1) && decide (p1 ≤ m)) && ((decide (0 ≤ p2) && decide (p2 ≤ 1000)) && (decide (0 ≤ p3) && decide (p3 ≤ 5)))))) ∧ Below w.heap.size w w'
  clear hm
  cases h0 : (decide (0 ≤ p0) && decide (p0 ≤ m)) with
  | false =>
    go_enter Try.func105, Try.ntmps105
    go_wp2_with (first | (go_at_call 85; refine (sIn _ _ _ _).mono ?_; rintro e w' ⟨rfl, rfl⟩))
    go_ret
    exact ⟨rfl, b_alloc _ _⟩
  | true =>
    cases h1 : (decide (0 ≤ p1) && decide (p1 ≤ m)) with
    | false =>
      go_enter Try.func105, Try.ntmps105
      go_wp2_with (first | (go_at_call 85; refine (sIn _ _ _ _).mono ?_; rintro e w' ⟨rfl, rfl⟩))
      go_ret
      exact ⟨rfl, b_alloc _ _⟩
    | true =>
      cases h2 : (decide (0 ≤ p2) && decide (p2 ≤ 1000)) with
      | false =>
        go_enter Try.func105, Try.ntmps105
        go_wp2_with (first | (go_at_call 85; refine (sIn _ _ _ _).mono ?_; rintro e w' ⟨rfl, rfl⟩))
        go_ret
        exact ⟨rfl, b_alloc _ _⟩
      | true =>
        cases h3 : (decide (0 ≤ p3) && decide (p3 ≤ 5)) with
        | false =>
          go_enter Try.func105, Try.ntmps105
          go_wp2_with (first | (go_at_call 85; refine (sIn _ _ _ _).mono ?_; rintro e w' ⟨rfl, rfl⟩))
          go_ret
          exact ⟨rfl, b_alloc _ _⟩
        | true =>
          go_enter Try.func105, Try.ntmps105
          go_wp2_with (first | (go_at_call 85; refine (sIn _ _ _ _).mono ?_; rintro e w' ⟨rfl, rfl⟩))
          go_ret
          exact ⟨rfl, b_alloc _ _⟩
set_option maxRecDepth 100000 in
set_option maxHeartbeats 400000 in
theorem isUpTo (x m : Int) (w : World) : Calls Try.prog 99 #[.int .i64 x, .int .i64 m] w fun e w' => e = .returned (.bool (M.inB x 0 m)) ∧ w = w' := by
  unfold M.inB
  by_cases h : 0 ≤ x
  · rw [decide_eq_true h, Bool.true_and]
    go_enter Try.func99, Try.ntmps99
    go_wp2
    go_ret
    exact ⟨rfl, rfl⟩
  · rw [decide_eq_false h, Bool.false_and]
    go_enter Try.func99, Try.ntmps99
    go_wp2
    go_ret
    exact ⟨rfl, rfl⟩
set_option maxRecDepth 100000 in
set_option maxHeartbeats 400000 in
theorem hasEvent (x : Int) (a : Option Addr) (n cap : Nat) (y : Int) (w : World) : Calls Try.prog 87 #[.agg #[.int .i64 x, .slice a n cap], .int .i64 y] w fun e w' => e = .returned (.bool (M.inB y 0 (wrap64 (x - 1)))) ∧ Below w.heap.size w w' := by
  obtain ⟨m, hm⟩ : ∃ m, m = wrap64 (x - 1) := ⟨_, rfl⟩
  have hm2 : wrap64 (x - 1) = m := hm.symm
  rw [hm2]
  clear hm
  go_enter Try.func87, Try.ntmps87
  go_wp2_with (go_at_call 99; refine (isUpTo y m _).mono ?_; rintro e w' ⟨rfl, rfl⟩)
  go_ret
  exact ⟨rfl, b_alloc _ _⟩
end V
end Go.Proofs.Ytobdgboejbbfiaa
