/- The heaviest path, in the program: the weights to a node, and the next node. -/
import Derived.Test.YtichbgffpflldaaMatH
import Derived.Test.YtichbgffpflldaaClo3
import Derived.Test.YtichbgffpflldaaTrans
import Derived.Test.YtichbgffpflldaaApply
import Derived.Test.YtichbgffpflldaaRepeat
import Derived.Test.YtichbgffpflldaaIBot
namespace Go.Proofs.Ytichbgffpflldaa.V
open Go.RowKit

theorem OwnM.caps {w : World} {B n cap : Nat} {a : Option Addr} {R : List (List Int)} (h : OwnM w B (.slice a n cap) R) : n ≤ cap ∧ cap ≤ maxLen := by
  obtain ⟨V, h1, h2, _⟩ := h
  obtain ⟨a', c', hv, k1, k2, _⟩ := own_form h2
  injection hv with e1 e2 e3
  subst e2 e3
  exact ⟨k1, k2⟩
/-- One row of an owned matrix, as a list of its own. -/
theorem OwnM.row {w : World} {B n cap : Nat} {a : Option Addr} {R : List (List Int)} (h : OwnM w B (.slice a n cap) R) (i : Nat) (hi : i < n) :
    ∃ g ra rc, a = some ⟨g, 0, none⟩ ∧ w.cell? ⟨g, i, none⟩ = some (.slice ra (R.getD i []).length rc) ∧ Own w B (.slice ra (R.getD i []).length rc) (R.getD i []) := by
  have hl := h.len
  obtain ⟨V, h1, h2, h3, h4, h5⟩ := h
  obtain ⟨a', c', hv, hc, hm, hg⟩ := own_form h2
  injection hv with e1 e2 e3
  subst e1 e2 e3
  obtain ⟨g, rfl, hB, hlt⟩ := hg (by omega)
  have hr := h3 i (by omega)
  obtain ⟨ra, rc, hrv, _⟩ := own_form hr
  rw [hrv] at hr
  refine ⟨g, ra, rc, rfl, ?_, hr⟩
  rw [World.ownsRow.cellAt h2 i (by omega), ← hrv]
  simp [show i < V.length by omega]
theorem ownM_lit1 (w : World) (B : Nat) (hB : B ≤ w.heap.size) {rv : Value} {l : List Int} (ho : Own w B rv l) : OwnM (w.alloc (.cells #[rv] 34)) B (.slice (some ⟨w.heap.size, 0, none⟩) 1 1) [l] := by
  refine ⟨[rv], rfl, World.ownsRow_lit w #[rv] 1 hB (by decide) rfl, fun i hi => ?_, fun i hi k hk => ?_, fun i j hi hj hne => ?_⟩
  · obtain rfl : i = 0 := by simp at hi; omega
    exact ho.below (b_alloc w _)
  · obtain rfl : i = 0 := by simp at hi; omega
    have := (own_lt ho hk).2
    intro e
    simp only [Value.ownBlock, Option.some.injEq] at e
    omega
  · simp at hi hj; omega
/-- A part of one row. -/
theorem mat_sub {w : World} {b off n : Nat} {R : List (List Int)} (h : Mat w (some ⟨b, off, none⟩) n R) (k : Nat) (hk : k < n) : Mat w (some ⟨b, off + k, none⟩) 1 [R.getD k []] := by
  obtain ⟨h1, h2, h3⟩ := h
  refine ⟨rfl, by decide, .inr ?_⟩
  rcases h3 with h3 | ⟨b', off', e, hlt, hc⟩
  · omega
  · injection e with e
    injection e with e1 e2
    subst e1 e2
    refine ⟨b, off + k, rfl, hlt, fun i hi => ?_⟩
    obtain rfl : i = 0 := by omega
    obtain ⟨ra, rc, hr, hI⟩ := hc k hk
    exact ⟨ra, rc, hr, hI⟩
/-- The weights to a node, one row for each number of arcs. -/
def M.wtM (A : Nat → Nat → Int) (n t k : Nat) : List (List Int) := M.mk k n fun s j => M.cpw A n s t j
theorem M.wt_row (A : Nat → Nat → Int) (n t k s : Nat) (h : s < k) : (M.wtM A n t k).getD s [] = (List.range n).map fun j => M.cpw A n s t j := M.mk_row _ _ _ _ h
theorem M.wt_next (R : List (List Int)) (n t s : Nat) : (M.mk 1 n (fun i j => M.dot [(List.range n).map fun j => M.cpw (M.ent R) n s t j] R i j n)).getD 0 [] = (List.range n).map fun j => M.cpw (M.ent R) n (s + 1) t j := by
  rw [M.mk_row _ _ _ _ (by omega)]
  refine List.map_congr_left fun j _ => ?_
  unfold M.dot
  refine M.sumN_congr fun u hu => ?_
  congr 1
  unfold M.ent
  simp [hu]

set_option maxRecDepth 100000 in
set_option maxHeartbeats 1000000 in
theorem weightsTo (a : Option Addr) (n cap : Nat) (R : List (List Int)) (f t m : Nat) (y : Int) (w : World) (h : Sq w a n R) (hf : f < n) (ht : t < n) (hm : m ≤ 10) (hy : M.cpw (M.ent R) n m t f = y) (hlt : ∀ s, s < m → M.cpw (M.ent R) n s t f ≠ y) :
    Calls Try.prog 95 #[.slice a n cap, .int .i64 f, .int .i64 t, .int .i64 y] w (MPost (m + 1) (M.wtM (M.ent R) n t (m + 1)) w) := by
  have HS := Lib.hid h
  obtain ⟨n1, n2⟩ := h.2.2.2
  have HSm : Hid (∀ i j, i < n → j < n → M.Sm 1000000 (M.ent R i j)) := h.2.2.1
  have HRB : Hid (∀ i j, i < n → j < n → M.Big (M.ent R i j)) := fun i j hi hj => M.big_sm (HSm.out i j hi hj) (by omega)
  have HY := Lib.hid hy
  have HLT := Lib.hid hlt
  have hti : (t : Int) < (n : Int) := by omega
  have hfi : (f : Int) < (n : Int) := by omega
  clear h hy hlt
  go_enter Try.func95, Try.ntmps95
  go_wp2_with fail
  refine (unitOf n _ n1 n2).mono ?_
  rintro e w1 ⟨a1, c1, rfl, hO, hb⟩
  obtain ⟨g1, ra, rc, rfl, hc1, hr1⟩ := hO.row t ht
  have erow : (M.unitM n).getD t [] = (List.range n).map fun j => M.cpw (M.ent R) n 0 t j := M.mk_row _ _ _ _ ht
  rw [erow] at hr1 hc1
  rw [List.length_map, List.length_range] at hr1 hc1
  have HO0 : Hid (OwnM (w1.alloc (.cells #[.slice ra n rc] 34)) w.heap.size (.slice (some ⟨w1.heap.size, 0, none⟩) 1 1) (M.wtM (M.ent R) n t 1)) := ownM_lit1 w1 _ hb.size hr1
  have HB0 : Hid (Below w.heap.size w (w1.alloc (.cells #[.slice ra n rc] 34))) := hb.alloc hb.size _
  clear hO hb hr1 erow
  go_wp2
  clear hc1
  go_loopw [9, 10] (fun o _ wr => ∃ (s : Nat) (b : Option Addr) (c : Nat), s ≤ m ∧ o = .slice b (s + 1) c ∧ OwnM wr w.heap.size (.slice b (s + 1) c) (M.wtM (M.ent R) n t (s + 1)) ∧ Below w.heap.size w wr) (fun o _ _ => match o with | .slice _ k _ => m + 1 - k | _ => 0)
  case atStart => exact ⟨0, _, _, Nat.zero_le _, rfl, HO0.out, HB0.out⟩
  case round =>
    obtain ⟨s, b, c, hs, rfl, hO, hb⟩ := hrel
    obtain ⟨wo, rfl⟩ : ∃ x, x = wr := ⟨_, rfl⟩
    have HO := Lib.hid hO
    have HB := Lib.hid hb
    have hzo : w.heap.size ≤ wo.heap.size := hb.size
    obtain ⟨g, rr, rrc, rfl, hcr, hrow⟩ := hO.row s (by omega)
    rw [M.wt_row _ _ _ _ _ (Nat.lt_succ_self s), List.length_map, List.length_range] at hcr hrow
    obtain ⟨d, od, x, hd, -, hx, cx⟩ := hrow.ints'.at f hf
    have hx2 : x = M.cpw (M.ent R) n s t f := by rw [hx]; simp [hf]
    have HX := Lib.hid hx2
    have hd2 : rr = some ⟨d, od, none⟩ := hd
    subst hd2
    have hcp := hO.caps
    obtain ⟨hcp1, hcp2⟩ := hcp
    have hcs : ¬ c = s := by omega
    unfold maxLen at hcp2
    have hi1 : ((s : Int) + 1 - 1) = (s : Int) := by omega
    clear hO hb HO0 HB0 hx hx2
    by_cases hlt : s < m
    · have hne : (x == y) = false := by
        have := HLT.out s hlt
        rw [← HX.out] at this
        simpa using this
      have HL1 : Hid (Mat wo (some ⟨g, 0 + s, none⟩) 1 [(List.range n).map fun j => M.cpw (M.ent R) n s t j]) := by
        have := mat_sub HO.out.mat s (by omega)
        rw [M.wt_row _ _ _ _ _ (Nat.lt_succ_self s)] at this
        exact this
      have HLR : Hid (Rect [(List.range n).map fun j => M.cpw (M.ent R) n s t j] 1 n) := by
        refine ⟨rfl, fun i hi => ?_⟩
        obtain rfl : i = 0 := by omega
        simp
      have HLB : Hid (∀ i k, i < 1 → k < n → M.Big (M.ent [(List.range n).map fun j => M.cpw (M.ent R) n s t j] i k)) := fun i k hi hk => by
        obtain rfl : i = 0 := by omega
        have e : M.ent [(List.range n).map fun j => M.cpw (M.ent R) n s t j] 0 k = M.cpw (M.ent R) n s t k := by simp [M.ent, hk]
        rw [e]
        exact M.big_sm (M.cpw_sm HSm.out s t k ht hk) (by omega)
      rw [Nat.zero_add] at HL1
      go_wp2_with fail
      refine (maxPlus _).mono ?_
      rintro e w2 ⟨rfl, hb2⟩
      have HBx2 := Lib.hid hb2
      have HB2 := Lib.hid (bnext HB.out hb2)
      clear hb2 hcr cx
      go_wp2_with fail
      refine (multipliedB _ _ _ n _ _ _ n R _ (HL1.out.below HBx2.out) (HS.out.1.below HB2.out) HLR.out HS.out.2.1 HLB.out HRB.out (by omega) (by omega) n1 n2 n1 n2).mono ?_
      rintro e w3 ⟨a3, c3, rfl, hP, hb3⟩
      obtain ⟨g3, r3, rc3, rfl, hc3, hr3⟩ := hP.row 0 (by omega)
      rw [M.wt_next, List.length_map, List.length_range] at hc3 hr3
      have HR3 := Lib.hid (hr3.mono HBx2.out.size)
      have HBx3 := Lib.hid (bnext HBx2.out hb3)
      clear hP hb3 hr3
      have hml : (M.wtM (M.ent R) n t (s + 1)).length = s + 1 := M.mk_length _ _ _
      have HML := Lib.hid hml
      have HAS : Hid (M.wtM (M.ent R) n t (s + 1) ++ [(List.range n).map fun j => M.cpw (M.ent R) n (s + 1) t j] = M.wtM (M.ent R) n t (s + 1 + 1)) := (M.mk_snoc _ _ _).symm
      clear hml
      go_wp2_with (at_builtin; refine appendRow wo _ rfl (.tmp 34) (.tmp 41) rfl w.heap.size _ _ _ _ (s + 1) HML.out rfl HO.out HBx3.out HR3.out rfl (by rw [HML.out]; omega) hzo ?_)
      intro b4 c4 w4 hO4 hb4 _
      rw [HAS.out] at hO4
      have HO4 := Lib.hid hO4
      have HB4 := Lib.hid ((HB.out.trans (HBx3.out.mono hzo)).trans hb4)
      clear hO4 hb4
      go_wp2
      go_roundw
      case rel => exact ⟨s + 1, _, _, by omega, rfl, HO4.out, HB4.out⟩
      case measure => simp; omega
    · obtain rfl : s = m := by omega
      have he : x = y := by rw [HX.out]; exact HY.out
      subst he
      go_wp2
      go_ret
      exact ⟨_, _, rfl, HO.out, HB.out⟩

theorem fld1 (w : World) (f g : Fn) : (Instr.field 64 (.agg #[.func f #[] #[], .func g #[] #[]]) 1).run Try.prog w = .ok (.func g #[] #[]) w := by
  simp [Instr.field, part, asAgg, go_sem]
set_option maxRecDepth 100000 in
set_option maxHeartbeats 1000000 in
theorem nextNode (a : Option Addr) (n cap : Nat) (R : List (List Int)) (x m : Nat) (a' : Option Addr) (cap' : Nat) (l : List Int) (y : Int) (w : World) (h : Sq w a n R) (h' : Ints .i64 w a' n l) (hx : x < n) (hm : m < n) (hl : ∀ k, k < n → M.Big (l.getD k 0))
    (hy : M.times (l.getD m 0) (M.ent R m x) = y) (hlt : ∀ v, v < m → M.times (l.getD v 0) (M.ent R v x) ≠ y) :
    Calls Try.prog 96 #[.slice a n cap, .int .i64 x, .slice a' n cap', .int .i64 y] w fun e w' => e = .returned (.int .i64 m) ∧ Below w.heap.size w w' := by
  have HS := Lib.hid h
  have HI := Lib.hid h'
  have HLB := Lib.hid hl
  have HY := Lib.hid hy
  have HLT := Lib.hid hlt
  obtain ⟨n1, n2⟩ := h.2.2.2
  obtain ⟨b', off', z0, rfl, -, -, -⟩ := h'.at 0 (by omega)
  obtain ⟨b, off, ra, rc, rfl, -, -⟩ := h.1.rect_first h.2.1 h.2.2.2.1
  have hxi : (x : Int) < (n : Int) := by omega
  have hfld := fld1
  clear h h' hl hy hlt
  go_enter Try.func96, Try.ntmps96
  go_wp2_with fail
  refine (maxPlus _).mono ?_
  rintro e w1 ⟨rfl, hb1⟩
  have HB1 := Lib.hid hb1
  clear hb1
  go_wp2
  clear hfld
  go_loopw [10] (fun i wr => ∃ v : Nat, v ≤ m ∧ i = .int .i64 v ∧ ∃ q, wr = w1.drewN q) (fun i _ => n - (intOf i).toNat)
  case atStart => exact ⟨0, Nat.zero_le _, rfl, 0, rfl⟩
  case round =>
    obtain ⟨v, hv, rfl, q2, rfl⟩ := hrel
    have hvn : v < n := by omega
    have hvi : (v : Int) < (n : Int) := by omega
    obtain ⟨d, od, p, hdd, -, hp, c1⟩ := (HI.out.below HB1.out).at v hvn
    injection hdd with hdd
    injection hdd with e1 e2
    subst e1 e2
    obtain ⟨d, od, rd, rdo, c4, z, hdd, hz, c41, c42⟩ := (HS.out.1.below HB1.out).rect_ent HS.out.2.1 v x hvn hx
    injection hdd with hdd
    injection hdd with e1 e2
    subst e1 e2
    have HP : Hid (M.Big p) := by show M.Big _; rw [hp]; exact HLB.out v hvn
    have HZ : Hid (M.Big z) := by show M.Big _; rw [hz]; exact M.big_sm (HS.out.2.2.1 v x hvn hx) (by omega)
    obtain ⟨u, hu⟩ : ∃ u, u = M.times p z := ⟨_, rfl⟩
    have HU : Hid (u = M.times (l.getD v 0) (M.ent R v x)) := by show _ = _; rw [hu, hp, hz]
    have HC1 : ∀ w : World, Calls Try.prog 116 #[.int .i64 p, .int .i64 z] w fun e w' => e = .returned (.int .i64 u) ∧ w = w' := by
      intro w
      rw [hu]
      exact clTimes _ _ _ HP.out HZ.out
    clear hp hz hu
    by_cases hvm : v < m
    · have hne : (u == y) = false := by
        have := HLT.out v hvm
        rw [← HU.out] at this
        simpa using this
      have hne2 : (u != y) = true := by simpa using hne
      go_wp2
      go_quiet ((go_at_call 116; exact q_more_s (HC1 _)))
      go_wp2
      go_roundw
      case rel => exact ⟨v + 1, by omega, by go_num, _, rfl⟩
      case measure => simp [intOf]; omega
    · obtain rfl : v = m := by omega
      obtain rfl : u = y := by rw [HU.out]; exact HY.out
      go_wp2
      go_quiet ((go_at_call 116; exact q_more_s (HC1 _)))
      go_wp2
      go_ret
      exact ⟨rfl, below_drewN (below_drewN HB1.out _) _⟩
end Go.Proofs.Ytichbgffpflldaa.V
