/- Texts laid together: Lvs. -/
import Derived.Test.YtobdgboejbbfiaaQa25
import Derived.Test.YtobdgboejbbfiaaQa12
set_option linter.unusedSimpArgs false
set_option linter.unusedVariables false
set_option linter.unusedSectionVars false
namespace Go.Proofs.Ytobdgboejbbfiaa
namespace M
/-- No place leads to the event. -/
def noInto (l : List Pc) (ev : Int) : Bool := l.all fun p => decide (p.2.1 ≠ ev)
def srcL (l : List Pc) (k : Nat) : List Int := ((List.range k).filter fun e : Nat => noInto l (e : Int)).map fun e : Nat => (e : Int)
def srcRes (x : Int) (l : List Pc) : List Int × Int := if isGr x l then (srcL l x.toNat, 0) else ([], 1)
theorem srcL_next (l : List Pc) (k : Nat) : srcL l (k + 1) = if noInto l (k : Int) then srcL l k ++ [(k : Int)] else srcL l k := by
  unfold srcL
  rw [List.range_succ, List.filter_append, List.map_append]
  cases h : noInto l (k : Int) with
  | true => rw [if_pos rfl, List.filter_cons_of_pos (by rw [h])]; rfl
  | false => rw [if_neg (by simp), List.filter_cons_of_neg (by rw [h]; simp)]; simp
theorem srcL_len (l : List Pc) (k : Nat) : (srcL l k).length ≤ k := by
  unfold srcL
  rw [List.length_map]
  exact Nat.le_trans (List.length_filter_le _ _) (by simp)
theorem srcRes_len (x : Int) (l : List Pc) : (srcRes x l).1.length ≤ 30 := by
  unfold srcRes
  split
  · next h =>
    have hx : x.toNat ≤ 10 := by
      unfold isGr inB at h
      simp only [Bool.and_eq_true, decide_eq_true_eq] at h
      omega
    have := srcL_len l x.toNat
    show (srcL l x.toNat).length ≤ 30
    omega
  · simp
theorem noInto_plc (l : List Pc) (ev : Int) : decide ((plcL pTo l ev l.length).length = 0) = noInto l ev := by
  unfold plcL noInto
  rw [List.length_map]
  rw [Bool.eq_iff_iff, decide_eq_true_eq, List.length_eq_zero_iff, List.filter_eq_nil_iff, List.all_eq_true]
  constructor
  · intro h p hp
    obtain ⟨i, hi, rfl⟩ := List.mem_iff_getElem.1 hp
    have := h i (List.mem_range.2 hi)
    rw [List.getD_eq_getElem?_getD, List.getElem?_eq_getElem hi] at this
    exact decide_eq_true (fun q => this (decide_eq_true q))
  · intro h i hi
    have hi := List.mem_range.1 hi
    have := h l[i] (List.getElem_mem hi)
    rw [List.getD_eq_getElem?_getD, List.getElem?_eq_getElem hi]
    exact fun q => of_decide_eq_true this (of_decide_eq_true q)
end M
namespace V
set_option maxRecDepth 100000
open Go.RowKit
set_option maxRecDepth 100000 in
set_option maxHeartbeats 400000 in
theorem intoC (E : Nat) (ev p0 p1 p2 p3 : Int) (w : World) (hE : w.cell? ⟨E, 0, none⟩ = some (.int .i64 ev)) : Calls Try.prog 74 #[.agg #[.int .i64 p0, .int .i64 p1, .int .i64 p2, .int .i64 p3], .pointer (some ⟨E, 0, none⟩)] w fun e w' => e = .returned (.bool (!(decide (p1 ≠ ev)))) ∧ Below w.heap.size w w' := by
  have hE2 : (w.alloc (.cells #[.int .i64 p0, .int .i64 p1, .int .i64 p2, .int .i64 p3] 35)).cell? ⟨E, 0, none⟩ = some (.int .i64 ev) := ((b_alloc w _).cell (cell_lt hE)).trans hE
  clear hE
  go_enter Try.func74, Try.ntmps74
  go_wp2
  go_ret
  exact ⟨retB (by by_cases q : p1 = ev <;> simp [q]), b_alloc _ _⟩
set_option maxRecDepth 100000 in
set_option maxHeartbeats 1000000 in
theorem indexInto (E : Nat) (ev : Int) (a : Option Addr) (n cap : Nat) (l : List M.Pc) (w : World) (h : Pls w a n l) (hE : w.cell? ⟨E, 0, none⟩ = some (.int .i64 ev)) :
    Calls Try.prog 123 #[.slice a n cap, .func (.func 74) #[] #[.pointer (some ⟨E, 0, none⟩)]] w fun e w' => Below w.heap.size w w' ∧
      ((e = .returned (.int .i64 (-1)) ∧ M.noInto l ev = true) ∨ ∃ j : Nat, e = .returned (.int .i64 j) ∧ M.noInto l ev = false) := by
  have HI := Lib.hid h
  have HL : Hid (l.length = n) := h.1
  have HE := Lib.hid hE
  have hm := h.2.1
  unfold maxLen at hm
  clear h hE
  go_enter Try.func123, Try.ntmps123
  go_wp2
  go_loopw [5, 8] (fun _ iv wr => ∃ k : Nat, k ≤ n ∧ iv = .int .i64 k ∧ Hid (∀ j, j < k → decide ((l.getD j M.pz).2.1 ≠ ev) = true) ∧ Hid (Below w.heap.size w wr)) (fun _ iv _ => n - (intOf iv).toNat)
  case atStart => exact ⟨0, Nat.zero_le _, rfl, fun j hj => absurd hj (Nat.not_lt_zero j), Below.refl _ _⟩
  case round =>
    obtain ⟨k, hk, rfl, HA, HW⟩ := hrel
    by_cases hkl : k < n
    · have hki : (k : Int) < (n : Int) := by omega
      obtain ⟨b, off, p0, p1, p2, p3, rfl, -, hp, c0, c1, c2, c3⟩ := (HI.out.below HW.out).at k hkl
      have hcall := intoC E ev p0 p1 p2 p3 wr ((HW.out.cell (cell_lt HE.out)).trans HE.out)
      obtain ⟨t, ht⟩ : ∃ t, t = decide (p1 ≠ ev) := ⟨_, rfl⟩
      have HT : Hid (decide ((l.getD k M.pz).2.1 ≠ ev) = t) := by show _ = _; rw [hp, ht]
      rw [← ht] at hcall
      have HS := Lib.hid HW.out.size
      clear ht hp
      cases t with
      | true =>
        have HCa := Lib.hid hcall
        clear hcall
        go_wp2_with (go_at_call 74; refine (HCa.out).mono ?_; rintro e w' ⟨rfl, hb'⟩)
        go_roundw
        case rel => exact ⟨k + 1, by omega, by go_num, fun i hi => by rcases Nat.lt_or_ge i k with q | q; exact HA.out i q; rw [show i = k by omega]; exact HT.out, HW.out.trans (hb'.mono HS.out)⟩
        case measure => simp [intOf]; omega
      | false =>
        have HCa := Lib.hid hcall
        clear hcall
        go_wp2_with (go_at_call 74; refine (HCa.out).mono ?_; rintro e w' ⟨rfl, hb'⟩)
        go_ret
        exact ⟨HW.out.trans (hb'.mono HS.out), .inr ⟨k, rfl, M.all_no (p := fun p => decide (p.2.1 ≠ ev)) (by rw [HL.out]; exact hkl) HT.out⟩⟩
    · obtain rfl : k = n := by omega
      have HF : Hid (M.noInto l ev = true) := M.all_of (p := fun p => decide (p.2.1 ≠ ev)) (fun i hi => HA.out i (by rw [← HL.out]; exact hi))
      go_wp2
      go_ret
      exact ⟨HW.out, .inl ⟨rfl, HF.out⟩⟩
set_option maxRecDepth 100000 in
set_option maxHeartbeats 1000000 in
theorem containsInto (E : Nat) (ev : Int) (a : Option Addr) (n cap : Nat) (l : List M.Pc) (w : World) (h : Pls w a n l) (hE : w.cell? ⟨E, 0, none⟩ = some (.int .i64 ev)) :
    Calls Try.prog 73 #[.slice a n cap, .func (.func 74) #[] #[.pointer (some ⟨E, 0, none⟩)]] w fun e w' => e = .returned (.bool (!(M.noInto l ev))) ∧ Below w.heap.size w w' := by
  have HC := Lib.hid (indexInto E ev a n cap l w h hE)
  obtain ⟨v, hv⟩ : ∃ v, v = M.noInto l ev := ⟨_, rfl⟩
  rw [← hv] at HC ⊢
  clear h hE hv
  go_enter Try.func73, Try.ntmps73
  go_wp2_with fail
  refine (HC.out).mono ?_
  rintro e w1 ⟨hb, ⟨rfl, hall⟩ | ⟨j, rfl, hall⟩⟩
  · subst hall
    have HB := Lib.hid hb
    clear hb
    go_wp2
    go_ret
    exact ⟨rfl, HB.out⟩
  · subst hall
    have hj0 : (0 : Int) ≤ (j : Int) := by omega
    have HB := Lib.hid hb
    clear hb
    go_wp2
    go_ret
    exact ⟨rfl, HB.out⟩
set_option maxRecDepth 100000 in
set_option maxHeartbeats 4000000 in
theorem sourcesOf (x : Int) (a : Option Addr) (n cap : Nat) (l : List M.Pc) (w : World) (h : Pls w a n l) :
    Calls Try.prog 24 #[.agg #[.int .i64 x, .slice a n cap]] w (VRes (M.srcRes x l) w) := by
  have HI := Lib.hid h
  have hb0 := b_alloc w (.cells #[.int .i64 x, .slice a n cap] 26)
  have hG := gBox_new w x a n cap 26
  obtain ⟨wb, hwb⟩ : ∃ z, z = w.alloc (.cells #[.int .i64 x, .slice a n cap] 26) := ⟨_, rfl⟩
  rw [← hwb] at hb0 hG
  obtain ⟨r, hr⟩ : ∃ r, r = M.isGr x l := ⟨_, rfl⟩
  have HS : Hid (Calls Try.prog 62 #[.agg #[.int .i64 x, .slice a n cap]] wb fun e w' => e = .returned (.bool r) ∧ Below wb.heap.size wb w') := by rw [hr]; exact isEventGraph x a n cap l wb (h.below hb0)
  have HG := Lib.hid hG
  have HB0 := Lib.hid hb0
  have HRr := Lib.hid hr
  clear h hG hb0 hr
  cases r with
  | false =>
    have HR : Hid (M.srcRes x l = ([], 1)) := by show _ = _; unfold M.srcRes; rw [← HRr.out]; rfl
    go_enter Try.func24, Try.ntmps24
    go_wp2_with fail
    rw [← hwb]
    clear hwb
    refine (HS.out).mono ?_
    rintro e w1 ⟨rfl, hb1⟩
    have HB1 := Lib.hid (HB0.out.trans (hb1.mono HB0.out.size))
    obtain ⟨g0, g1⟩ := HG.out.below hb1
    clear hb1
    go_wp2
    go_ret2
    exact VRes.nil HR.out HB1.out
  | true =>
    obtain ⟨N, hN, n1, n2⟩ := gr_nat HRr.out.symm
    replace hN := hN.symm
    subst hN
    have HR : Hid (M.srcRes (N : Int) l = (M.srcL l N, 0)) := by show _ = _; unfold M.srcRes; rw [← HRr.out]; rfl
    go_enter Try.func24, Try.ntmps24
    go_wp2_with fail
    rw [← hwb]
    clear hwb
    refine (HS.out).mono ?_
    rintro e w1 ⟨rfl, hb1⟩
    have HB1 := Lib.hid (HB0.out.trans (hb1.mono HB0.out.size))
    have HG1 := Lib.hid (HG.out.below hb1)
    obtain ⟨g0, g1⟩ := HG1.out
    have HO0 : Hid (Own w1 w1.heap.size (.slice none 0 0) (M.srcL l 0)) := own_nil _ _
    clear hb1
    go_wp2
    clear g0 g1
    go_loopw [4, 11] (fun o i wr => ∃ (t : Nat) (ob : Option Addr) (oc : Nat), t ≤ N ∧ i = .int .i64 t ∧ o = .slice ob (M.srcL l t).length oc ∧ Hid (Own wr w1.heap.size o (M.srcL l t)) ∧ Hid (Below w1.heap.size w1 wr)) (fun _ i _ => N - (intOf i).toNat)
    case atStart => exact ⟨0, _, _, Nat.zero_le _, rfl, rfl, HO0, Below.refl _ _⟩
    case round =>
      obtain ⟨t, ob, oc, ht, rfl, rfl, HO, HB⟩ := hrel
      obtain ⟨wo, rfl⟩ : ∃ x, x = wr := ⟨_, rfl⟩
      clear HO0
      by_cases htN : t < N
      · have hti : (t : Int) < (N : Int) := by omega
        have hbe : Below wo.heap.size wo (wo.alloc (.cells #[.int .i64 t] 2)) := b_alloc wo _
        obtain ⟨g0, g1⟩ := (HG1.out.below HB.out).below hbe
        have HBe : Hid (Below w1.heap.size w1 (wo.alloc (.cells #[.int .i64 t] 2))) := HB.out.trans (hbe.mono HB.out.size)
        have hce : (wo.alloc (.cells #[.int .i64 t] 2)).cell? ⟨wo.heap.size, 0, none⟩ = some (.int .i64 t) := by simp [go_sem]
        have HC := Lib.hid (containsInto wo.heap.size (t : Int) a n cap l (wo.alloc (.cells #[.int .i64 t] 2)) (HI.out.below (HB1.out.trans (HBe.out.mono HB1.out.size))) hce)
        have HOe := Lib.hid (HO.out.below hbe)
        have hNx := M.srcL_next l t
        have hl30 : (M.srcL l t).length ≤ 30 := by have := M.srcL_len l t; omega
        obtain ⟨L, hL⟩ : ∃ L, L = (M.srcL l t).length := ⟨_, rfl⟩
        rw [← hL] at HO HOe hl30 ⊢
        have HLl := Lib.hid hL.symm
        obtain ⟨we, hwe⟩ : ∃ z, z = wo.alloc (.cells #[.int .i64 t] 2) := ⟨_, rfl⟩
        have HWe := Lib.hid hwe.symm
        rw [← hwe] at HBe HC HOe hce
        have HCe := Lib.hid hce
        obtain ⟨v, hv⟩ : ∃ v, v = M.noInto l (t : Int) := ⟨_, rfl⟩
        rw [← hv] at HC hNx
        have HNx := Lib.hid hNx
        clear hbe hce hL hwe hv hNx
        go_wp2_with fail
        rw [HWe.out]
        refine (HC.out).mono ?_
        rintro e w2 ⟨rfl, hb2⟩
        have HO2 := Lib.hid (HOe.out.below hb2)
        have HB2 := Lib.hid (HBe.out.trans (hb2.mono HBe.out.size))
        have c2 := (hb2.cell (cell_lt HCe.out)).trans HCe.out
        clear g0 g1 hb2
        cases v with
        | true =>
          have HNe : Hid (M.srcL l (t + 1) = M.srcL l t ++ [(t : Int)]) := by show _ = _; rw [HNx.out, if_pos rfl]
          have HNl : Hid ((M.srcL l (t + 1)).length = L + 1) := by show _ = _; rw [HNe.out, List.length_append, HLl.out]; rfl
          have hsz := HB2.out.size
          go_wp2_with (at_builtin; refine append1 _ rfl (.tmp 19) (.tmp 21) rfl w1.heap.size _ _ _ L HLl.out rfl HO2.out rfl (by rw [HLl.out]; omega) hsz ?_)
          intro b3 c3 w3 hO3 hb3 _
          rw [← HNe.out] at hO3
          have HO3 := Lib.hid hO3
          have HB3 := Lib.hid (HB2.out.trans hb3)
          clear hO3 hb3 c2
          go_wp2
          go_roundw
          case rel => exact ⟨t + 1, _, _, by omega, by go_num, by rw [HNl.out], HO3, HB3⟩
          case measure => simp [intOf]; omega
        | false =>
          have HNe : Hid (M.srcL l (t + 1) = M.srcL l t) := by show _ = _; rw [HNx.out, if_neg (by simp)]
          clear c2
          go_wp2
          go_roundw
          case rel => exact ⟨t + 1, _, _, by omega, by go_num, by rw [HNe.out, HLl.out], by rw [HNe.out]; exact HO2, HB2⟩
          case measure => simp [intOf]; omega
      · obtain rfl : t = N := by omega
        go_wp2
        go_ret2
        rw [HR.out]
        exact ⟨_, _, _, rfl, HO.out.mono HB1.out.size, HB1.out.trans (HB.out.mono HB1.out.size)⟩
set_option maxRecDepth 100000 in
set_option maxHeartbeats 4000000 in
theorem sSourcesOf (x : Int) (a : Option Addr) (n cap : Nat) (l : List M.Pc) (w : World) (h : Pls w a n l) :
    Calls Try.prog 25 #[.agg #[.int .i64 x, .slice a n cap]] w (VRes (M.srcRes x l) w) := by
  have HI := Lib.hid h
  have HLn : Hid (l.length = n) := h.1
  have hb0 := b_alloc w (.cells #[.int .i64 x, .slice a n cap] 26)
  have hG := gBox_new w x a n cap 26
  obtain ⟨wb, hwb⟩ : ∃ z, z = w.alloc (.cells #[.int .i64 x, .slice a n cap] 26) := ⟨_, rfl⟩
  rw [← hwb] at hb0 hG
  obtain ⟨r, hr⟩ : ∃ r, r = M.isGr x l := ⟨_, rfl⟩
  have HS : Hid (Calls Try.prog 68 #[.agg #[.int .i64 x, .slice a n cap]] wb fun e w' => e = .returned (.bool r) ∧ Below wb.heap.size wb w') := by rw [hr]; exact sIsEventGraph x a n cap l wb (h.below hb0)
  have HG := Lib.hid hG
  have HB0 := Lib.hid hb0
  have HRr := Lib.hid hr
  clear h hG hb0 hr
  cases r with
  | false =>
    have HR : Hid (M.srcRes x l = ([], 1)) := by show _ = _; unfold M.srcRes; rw [← HRr.out]; rfl
    go_enter Try.func25, Try.ntmps25
    go_wp2_with fail
    rw [← hwb]
    clear hwb
    refine (HS.out).mono ?_
    rintro e w1 ⟨rfl, hb1⟩
    have HB1 := Lib.hid (HB0.out.trans (hb1.mono HB0.out.size))
    obtain ⟨g0, g1⟩ := HG.out.below hb1
    clear hb1
    go_wp2
    go_ret2
    exact VRes.nil HR.out HB1.out
  | true =>
    have hn30 : n ≤ 30 := by have := (M.isGr_in HRr.out.symm).2; rw [HLn.out] at this; exact this
    obtain ⟨N, hN, n1, n2⟩ := gr_nat HRr.out.symm
    replace hN := hN.symm
    subst hN
    have HR : Hid (M.srcRes (N : Int) l = (M.srcL l N, 0)) := by show _ = _; unfold M.srcRes; rw [← HRr.out]; rfl
    go_enter Try.func25, Try.ntmps25
    go_wp2_with fail
    rw [← hwb]
    clear hwb
    refine (HS.out).mono ?_
    rintro e w1 ⟨rfl, hb1⟩
    have HB1 := Lib.hid (HB0.out.trans (hb1.mono HB0.out.size))
    have HG1 := Lib.hid (HG.out.below hb1)
    obtain ⟨g0, g1⟩ := HG1.out
    have HO0 : Hid (Own (w1.alloc (.cells #[] 2)) w1.heap.size (.slice (some ⟨w1.heap.size, 0, none⟩) 0 0) (M.srcL l 0)) := own_lit0 w1 _ (Nat.le_refl _)
    have HB10 : Hid (Below w1.heap.size w1 (w1.alloc (.cells #[] 2))) := b_alloc w1 _
    clear hb1
    go_wp2
    clear g0 g1
    go_loopw [4, 5] (fun o i wr => ∃ (t : Nat) (ob : Option Addr) (oc : Nat), t ≤ N ∧ i = .int .i64 t ∧ o = .slice ob (M.srcL l t).length oc ∧ Hid (Own wr w1.heap.size o (M.srcL l t)) ∧ Hid (Below w1.heap.size w1 wr)) (fun _ i _ => N - (intOf i).toNat)
    case atStart => exact ⟨0, _, _, Nat.zero_le _, rfl, rfl, HO0, HB10⟩
    case round =>
      obtain ⟨t, ob, oc, ht, rfl, rfl, HO, HB⟩ := hrel
      obtain ⟨wo, rfl⟩ : ∃ x, x = wr := ⟨_, rfl⟩
      clear HO0 HB10
      obtain ⟨g0, g1⟩ := HG1.out.below HB.out
      by_cases htN : t < N
      · have hti : (t : Int) < (N : Int) := by omega
        have HC := Lib.hid (sPlacesInto N a n cap l (t : Int) wo (HI.out.below (HB1.out.trans (HB.out.mono HB1.out.size))) hn30)
        have hNx := M.srcL_next l t
        have hNo := M.noInto_plc l (t : Int)
        rw [HLn.out] at hNo
        have hl30 : (M.srcL l t).length ≤ 30 := by have := M.srcL_len l t; omega
        obtain ⟨L, hL⟩ : ∃ L, L = (M.srcL l t).length := ⟨_, rfl⟩
        rw [← hL] at HO hl30 ⊢
        have HLl := Lib.hid hL.symm
        obtain ⟨m, hm⟩ : ∃ m, m = (M.plcL M.pTo l (t : Int) n).length := ⟨_, rfl⟩
        rw [← hm] at HC hNo
        have HNx := Lib.hid hNx
        have HNo := Lib.hid hNo
        clear hL hm hNx hNo
        go_wp2_with fail
        refine (HC.out).mono ?_
        rintro e w2 ⟨b2, c2, rfl, -, hb2⟩
        have HO2 := Lib.hid (HO.out.below hb2)
        have HB2 := Lib.hid (HB.out.trans (hb2.mono HB.out.size))
        clear g0 g1 hb2
        by_cases h0 : m = 0
        · subst h0
          have HNe : Hid (M.srcL l (t + 1) = M.srcL l t ++ [(t : Int)]) := by show _ = _; rw [HNx.out, ← HNo.out]; rfl
          have HNl : Hid ((M.srcL l (t + 1)).length = L + 1) := by show _ = _; rw [HNe.out, List.length_append, HLl.out]; rfl
          have hsz := HB2.out.size
          go_wp2_with (at_builtin; refine append1 _ rfl (.tmp 21) (.tmp 23) rfl w1.heap.size _ _ _ L HLl.out rfl HO2.out rfl (by rw [HLl.out]; omega) hsz ?_)
          intro b3 c3 w3 hO3 hb3 _
          rw [← HNe.out] at hO3
          have HO3 := Lib.hid hO3
          have HB3 := Lib.hid (HB2.out.trans hb3)
          clear hO3 hb3
          go_wp2
          go_roundw
          case rel => exact ⟨t + 1, _, _, by omega, by go_num, by rw [HNl.out], HO3, HB3⟩
          case measure => simp [intOf]; omega
        · have hm : ((m : Int) == 0) = false := by simpa using h0
          have HNe : Hid (M.srcL l (t + 1) = M.srcL l t) := by show _ = _; rw [HNx.out, ← HNo.out, decide_eq_false h0]; rfl
          go_wp2
          go_roundw
          case rel => exact ⟨t + 1, _, _, by omega, by go_num, by rw [HNe.out, HLl.out], by rw [HNe.out]; exact HO2, HB2⟩
          case measure => simp [intOf]; omega
      · obtain rfl : t = N := by omega
        go_wp2
        go_ret2
        rw [HR.out]
        exact ⟨_, _, _, rfl, HO.out.mono HB1.out.size, HB1.out.trans (HB.out.mono HB1.out.size)⟩
end V
end Go.Proofs.Ytobdgboejbbfiaa
