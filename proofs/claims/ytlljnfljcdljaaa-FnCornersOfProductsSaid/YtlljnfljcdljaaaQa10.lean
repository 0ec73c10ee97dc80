/- Texts laid together: Plb. -/
import Derived.Test.YtlljnfljcdljaaaQa7
set_option linter.unusedSimpArgs false
set_option linter.unusedVariables false
set_option linter.unusedSectionVars false
namespace Go.Proofs.Ytlljnfljcdljaaa
namespace M
def Low (s : List Int) : Prop := ∀ i, i < s.length → -1000000000000000 ≤ s.getD i 0
theorem low_gB {s : List Int} (h : Low s) (i : Nat) : -1000000000000000 ≤ gB s i := by
  unfold gB
  split
  · next k => exact h i k
  · omega
/-- A sum of which the first k elements of the second list have been added. -/
def addK (s l : List Int) (k : Nat) : List Int := (List.range (max s.length l.length)).map fun i => max (gB s i) (if i < k then gB l i else -1000000000000000)
theorem addK_len (s l : List Int) (k : Nat) : (addK s l k).length = max s.length l.length := by simp [addK]
theorem addK_get {s l : List Int} {k i : Nat} (hi : i < max s.length l.length) : (addK s l k).getD i 0 = max (gB s i) (if i < k then gB l i else -1000000000000000) := by simp [addK, hi]
theorem addK_zero {s l : List Int} (h : Low s) {d : Nat} (hd : d = l.length - s.length) : addK s l 0 = s ++ (List.range d).map fun _ => -1000000000000000 := by
  refine list_ext2 (by rw [addK_len]; simp; omega) fun i hi => ?_
  rw [addK_len] at hi
  rw [addK_get hi, if_neg (Nat.not_lt_zero i)]
  have := low_gB h i
  rw [Int.max_eq_left this]
  unfold gB
  by_cases e : i < s.length
  · rw [if_pos e, List.getD_eq_getElem?_getD, List.getD_eq_getElem?_getD, List.getElem?_append_left e]
  · rw [if_neg e, List.getD_eq_getElem?_getD, List.getElem?_append_right (by omega)]
    simp [show i - s.length < d by omega]
theorem addK_end {s l : List Int} {k : Nat} (hk : l.length ≤ k) : addK s l k = addL s l := by
  unfold addK addL
  refine List.map_congr_left fun i _ => ?_
  by_cases e : i < k
  · rw [if_pos e]
  · rw [if_neg e, gB, gB, if_neg (show ¬ i < l.length by omega)]
theorem addK_set {s l : List Int} {k : Nat} (hs : Low s) (hk : k < l.length) : (addK s l k).set k (max ((addK s l k).getD k 0) (l.getD k 0)) = addK s l (k + 1) := by
  rw [addK_get (by omega), if_neg (Nat.lt_irrefl k), Int.max_eq_left (low_gB hs k)]
  unfold addK
  rw [map_set]
  refine List.map_congr_left fun i hi => ?_
  by_cases e : i = k
  · subst e; rw [if_pos rfl, if_pos (Nat.lt_succ_self i), gB, gB, if_pos hk]
  · rw [if_neg e]
    by_cases e2 : i < k
    · rw [if_pos e2, if_pos (by omega)]
    · rw [if_neg e2, if_neg (by omega)]
theorem addL_low {s l : List Int} (hs : Low s) : Low (addL s l) := fun i hi => by
  rw [addL_len] at hi
  rw [addL_get hi]
  have := low_gB hs i
  omega
/-- What the lists ask of each other: none is longer by more than 12 than the sum of those before it, and none is very long. -/
def Steps (R : List (List Int)) : Prop := ∀ k, k < R.length → (R.getD k []).length ≤ ((R.take k).foldl addL []).length + 12 ∧ (R.getD k []).length ≤ 60
theorem fold_take {R : List (List Int)} {k : Nat} (hk : k < R.length) : (R.take (k + 1)).foldl addL [] = addL ((R.take k).foldl addL []) (R.getD k []) := by
  rw [List.take_succ_eq_append_getElem hk, List.foldl_append]
  simp [hk]
end M
namespace V
set_option maxRecDepth 100000
open Go.RowKit
/-- An owned list of integers is appended to another one. -/
theorem appendOwnI (w : World) {ops : Array Oper} {rest : List Oper} {o : Oper} {a : Act} {Q : Exit → Act → World → Prop} (hgd : o.guard = none) (s x : Operand)
    (ho : o.op = .call { callee := .builtin .append, args := #[s, x], argTypes := #[24, 24] }) (B : Nat) (v : Value) (l l2 : List Int) (hs : a.eval s = v) (hown : Own w B v l)
    {g n2 c2 m : Nat} {B2 : Nat} (hx : a.eval x = .slice (some ⟨g, 0, none⟩) n2 c2) (hI : Own w B2 (.slice (some ⟨g, 0, none⟩) n2 c2) l2) (hm : l.length + n2 = m) (hlen : m ≤ 2000000) (hB : B ≤ w.heap.size)
    (h : ∀ b' c' w', Own w' B (.slice b' m c') (l ++ l2) → Below B w w' → wpList Try.prog ops Q rest (a.put o.dst (.slice b' m c')) w') :
    wpList Try.prog ops Q (o :: rest) a w := by
  subst hm
  obtain ⟨i0, hi, hz0, hz1, hz2⟩ := info_parts info64
  have e1 : n2 = l2.length := hI.len
  have hc : ∀ j u, (l2.map (Value.int .i64))[j]? = some u → w.cell? ((⟨g, 0, none⟩ : Addr).add j) = some u := by
    intro j u hj
    have hjn : j < l2.length := by
      by_cases e : j < l2.length
      · exact e
      · rw [List.getElem?_eq_none (by simp; omega)] at hj; cases hj
    rw [Go.WideShapes.add_plain, Nat.zero_add, hI.cellAt j (by omega), ← hj]
    simp [hjn]
  refine wpList_append_own_at (w := w) hgd s x 24 ho B 2 i0 (.int .i64 0) 1 8 Try.underlying24 hi hz0 hz1 hz2 rfl (by decide) v _ _ hs hown ⟨g, 0, none⟩ n2 c2 (l2.map (Value.int .i64)) hx (by simp [e1]) hc ?c2 ?c3 ?c4 hB ?_
  case c2 => intro u hu; obtain ⟨x, _, rfl⟩ := List.mem_map.1 hu; rfl
  case c3 => unfold maxLen; omega
  case c4 => omega
  · intro v' w' hown' hgrow hz hvb
    have ho' : Own w' B v' (l ++ l2) := by
      show w'.ownsRow B _ 1 v' (l ++ l2).length ((l ++ l2).map (Value.int .i64))
      rw [List.length_append, ← e1, List.map_append]
      exact hown'
    obtain ⟨b', c', hv', _⟩ := own_form ho'
    rw [show (l ++ l2).length = l.length + n2 by rw [List.length_append, e1]] at hv'
    subst hv'
    exact h b' c' w' ho' ((Below.refl B w).grown hgrow hB (fun k hk => (own_lt hown hk).1))
theorem own_addr {w : World} {B n c : Nat} {a : Option Addr} {l : List Int} (h : Own w B (.slice a n c) l) (hn : 0 < n) : ∃ g, a = some ⟨g, 0, none⟩ ∧ B ≤ g ∧ g < w.heap.size := by
  obtain ⟨a', c', hv, _, _, hg⟩ := own_form h
  have e := h.len
  injection hv with e1 e2 e3
  subst e1
  exact hg (by omega)
set_option maxRecDepth 100000 in
set_option maxHeartbeats 4000000 in
theorem addedLists (a : Option Addr) (n cap : Nat) (R : List (List Int)) (w : World) (h : Mat w a n R) (hn : n ≤ 12) (hst : M.Steps R) :
    Calls Try.prog 50 #[.slice a n cap] w fun e w' => ∃ b m c, e = .returned (.slice b m c) ∧ Own w' w.heap.size (.slice b m c) (R.foldl M.addL []) ∧ Below w.heap.size w w' := by
  have HA := Lib.hid h
  have HL := Lib.hid h.1
  have HST := Lib.hid hst
  have hfld := fld0
  clear h hst
  go_enter Try.func50, Try.ntmps50
  go_wp2_with fail
  refine (maxPlus _).mono ?_
  rintro e w1 ⟨rfl, hb1⟩
  have HB1 := Lib.hid hb1
  have hz1 : w.heap.size ≤ w1.heap.size := hb1.size
  clear hb1
  go_wp2
  clear hfld
  go_loopw [4, 13] (fun sv i wr => ∃ (k : Nat) (b : Option Addr) (m c : Nat), k ≤ n ∧ i = .int .i64 k ∧ sv = .slice b m c ∧ m ≤ 60 ∧ Hid (Own wr w.heap.size (.slice b m c) ((R.take k).foldl M.addL [])) ∧ Hid (M.Low ((R.take k).foldl M.addL [])) ∧ Hid (Below w.heap.size w wr)) (fun _ i _ => n - (intOf i).toNat)
  case atStart => exact ⟨0, none, 0, 0, Nat.zero_le _, rfl, rfl, by omega, World.ownsRow_nil _ _ _ _, fun i hi => absurd hi (Nat.not_lt_zero i), HB1.out⟩
  case round =>
    obtain ⟨k, b, m, c, hk, rfl, rfl, hm60, HO, HLow, HB⟩ := hrel
    obtain ⟨wo, rfl⟩ : ∃ x, x = wr := ⟨_, rfl⟩
    by_cases hlt : k < n
    · have hki : (k : Int) < (n : Int) := by omega
      obtain ⟨b2, off2, ra, rc, N, l, rfl, hbl, hl2, hc1, hI2⟩ := HA.out.at k hlt
      have hc2 := (HB.out.cell (p := ⟨b2, off2 + k, none⟩) hbl).trans hc1
      have HI := Lib.hid hI2
      clear hc1 hbl
      have hkR : k < R.length := by have := HL.out; omega
      have hs1 := HST.out k hkR
      have HF := Lib.hid (M.fold_take hkR)
      rw [← hl2] at hs1
      have HF2 : Hid ((R.take (k + 1)).foldl M.addL [] = M.addL ((R.take k).foldl M.addL []) l) := by show _ = _; rw [HF.out, hl2]
      clear hl2 HF
      generalize (R.take k).foldl M.addL [] = S at *
      have hSl : S.length = m := by have := HO.out.len; omega
      have hll : l.length = N := hI2.1
      clear hI2
      obtain ⟨d, hd⟩ : ∃ d, d = N - m := ⟨_, rfl⟩
      have hd12 : d ≤ 12 := by omega
      have hN60 : N ≤ 60 := by omega
      have HD : Hid (M.addK S l 0 = S ++ (List.range d).map fun _ => -1000000000000000) := M.addK_zero HLow.out (by omega)
      have HSl := Lib.hid hSl
      have HLl := Lib.hid hll
      have HEnd : Hid (M.addK S l N = M.addL S l) := M.addK_end (by omega)
      have HSet : Hid (∀ j, j < N → (M.addK S l j).set j (max ((M.addK S l j).getD j 0) (l.getD j 0)) = M.addK S l (j + 1)) := fun j hj => M.addK_set HLow.out (by omega)
      have HKl : Hid (∀ j, (M.addK S l j).length = m + d) := fun j => by rw [M.addK_len]; omega
      have hmd : N ≤ m + d := by omega
      have hmd60 : m + d ≤ 60 := by omega
      have HDd := Lib.hid hd
      clear hSl hll hs1 hd
      have MS : Hid (∀ (w : World) (x : Int), x = d → Calls Try.prog 53 #[.int .i64 x] w fun e w' => ∃ g, w.heap.size ≤ g ∧ e = .returned (.slice (some ⟨g, 0, none⟩) d d) ∧ Own w' w.heap.size (.slice (some ⟨g, 0, none⟩) d d) ((List.range d).map fun _ => -1000000000000000) ∧ Below w.heap.size w w') := fun w x hx => missing d x hx hd12 w
      have hcase : (0 : Int) < (N : Int) - m ∨ (N : Int) - m = 0 ∨ (N : Int) - m < 0 := by omega
      rcases hcase with hpos | hzero | hneg
      all_goals
        go_wp2_with fail
        refine (MS.out _ _ (by have := HDd.out; omega)).mono ?_
        rintro e w2 ⟨g2, -, rfl, ho2, hb2⟩
        have HO2 := Lib.hid ho2
        have HOb := Lib.hid (HO.out.below hb2)
        have HB2 := Lib.hid (bnext HB.out hb2)
        clear ho2 hb2
        go_wp2_with (at_builtin; refine appendOwnI _ rfl (.tmp 17) (.tmp 24) rfl w.heap.size _ S ((List.range d).map fun _ => -1000000000000000) rfl HOb.out (m := m + d) rfl HO2.out (by have := HSl.out; omega) (by omega) HB2.out.size ?_)
        intro b3 c3 w3 ho3 hb3
        have HO3 : Hid (Own w3 w.heap.size (.slice b3 (m + d) c3) (M.addK S l 0)) := by show Own _ _ _ _; rw [HD.out]; exact ho3
        have HB3 := Lib.hid (HB2.out.trans hb3)
        clear ho3 hb3 HO2 HOb HB2
        go_wp2
        clear hc2
        go_loopw [28] (fun i wr => ∃ j : Nat, j ≤ N ∧ i = .int .i64 j ∧ Hid (Own wr w.heap.size (.slice b3 (m + d) c3) (M.addK S l j)) ∧ Hid (Below w.heap.size w wr)) (fun i _ => N - (intOf i).toNat)
        case atStart => exact ⟨0, Nat.zero_le _, rfl, HO3, HB3⟩
        case round =>
          obtain ⟨j, hj, rfl, HOj, HBj⟩ := hrel
          clear HO3 HB3
          by_cases hjl : j < N
          · have hji : (j : Int) < (N : Int) := by omega
            have hjm : j < m + d := by omega
            have hjmi : (j : Int) < ((m + d : Nat) : Int) := by omega
            obtain ⟨ib, io, y, rfl, -, hy, hcy⟩ := (HI.out.below HBj.out).at j hjl
            obtain ⟨g, rfl, hg1, hg2⟩ := own_addr HOj.out (by omega)
            obtain ⟨z, hz⟩ : ∃ z, z = (M.addK S l j).getD j 0 := ⟨_, rfl⟩
            have hcz := HOj.out.cellAt j hjm
            rw [← hz] at hcz
            have hfz := HOj.out.frozenAt j
            have hN2 := Own.set HOj.out j (max z y)
            have hS2 := HSet.out j hjl
            rw [← hz, ← hy] at hS2
            rw [hS2] at hN2
            have HN := Lib.hid hN2
            have HBn := Lib.hid (HBj.out.setCell (p := ⟨g, j, none⟩) hg1 (.int .i64 (max z y)))
            clear hz hy hN2 hS2 hg1 hg2
            go_wp2_with (go_at_call 100; refine (clPlus _ _ _).mono ?_; rintro e w' ⟨rfl, rfl⟩)
            go_roundw
            case rel => exact ⟨j + 1, by omega, by go_num, HN, HBn⟩
            case measure => simp [intOf]; omega
          · obtain rfl : j = N := by omega
            have HOe : Hid (Own wr w.heap.size (.slice b3 (m + d) c3) (M.addL S l)) := by show Own _ _ _ _; rw [← HEnd.out]; exact HOj.out
            go_wp2
            go_roundw
            case rel => exact ⟨k + 1, b3, m + d, c3, by omega, by go_num, rfl, by omega, by show Own _ _ _ _; rw [HF2.out]; exact HOe.out, by show M.Low _; rw [HF2.out]; exact M.addL_low HLow.out, HBj⟩
            case measure => simp [intOf]; omega
    · obtain rfl : k = n := by omega
      have HT : Hid (R.take k = R) := List.take_of_length_le (by have := HL.out; omega)
      go_wp2
      go_ret
      exact ⟨_, _, _, rfl, by have := HO.out; rw [HT.out] at this; exact this, HB.out⟩
end V
end Go.Proofs.Ytlljnfljcdljaaa
