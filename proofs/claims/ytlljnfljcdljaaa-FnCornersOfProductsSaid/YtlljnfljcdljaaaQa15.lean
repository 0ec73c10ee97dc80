/- Texts laid together: Ple. -/
import Derived.Test.YtlljnfljcdljaaaQa14
import Derived.Test.YtlljnfljcdljaaaQa7
import Derived.ArgAppend
set_option linter.unusedSimpArgs false
set_option linter.unusedVariables false
set_option linter.unusedSectionVars false
namespace Go.Proofs.Ytlljnfljcdljaaa
namespace M
theorem cmpZ_lt (u v : Int) : cmpZ u v < 0 ↔ u < v := by
  unfold cmpZ
  by_cases h : u < v
  · rw [if_pos h]; omega
  · rw [if_neg h]; by_cases h2 : v < u
    · rw [if_pos h2]; omega
    · rw [if_neg h2]; omega
/-- Comparing two corners is comparing three terms. -/
theorem cmp_crit (c : Nat → Int) {i j k : Nat} (hij : i < j) (hjk : j < k) :
    cmpZ (ratN (c i - c j) ((j : Int) - i) * ratD (c j - c k) ((k : Int) - j)) (ratN (c j - c k) ((k : Int) - j) * ratD (c i - c j) ((j : Int) - i)) < 0 ↔ crit c i j k := by
  rw [cmpZ_lt]
  have e1 := rat_back (n := c i - c j) (d := (j : Int) - i) (by omega)
  have e2 := rat_back (n := c j - c k) (d := (k : Int) - j) (by omega)
  have p1 := rat_pos (n := c i - c j) (d := (j : Int) - i) (by omega)
  have p2 := rat_pos (n := c j - c k) (d := (k : Int) - j) (by omega)
  have hd1 : (0 : Int) < (j : Int) - i := by omega
  have hd2 : (0 : Int) < (k : Int) - j := by omega
  have hn : crit c i j k ↔ (c i - c j) * ((k : Int) - j) < (c j - c k) * ((j : Int) - i) := by
    unfold crit
    have q1 : (c k - c j) * ((j : Int) - i) = -((c j - c k) * ((j : Int) - i)) := by rw [← Int.neg_mul]; congr 1; omega
    have q2 : (c j - c i) * ((k : Int) - j) = -((c i - c j) * ((k : Int) - j)) := by rw [← Int.neg_mul]; congr 1; omega
    rw [q1, q2]; omega
  rw [hn]
  generalize ratN (c i - c j) ((j : Int) - i) = N1 at *
  generalize ratD (c i - c j) ((j : Int) - i) = D1 at *
  generalize ratN (c j - c k) ((k : Int) - j) = N2 at *
  generalize ratD (c j - c k) ((k : Int) - j) = D2 at *
  generalize c i - c j = n1 at *
  generalize c j - c k = n2 at *
  generalize (j : Int) - i = d1 at *
  generalize (k : Int) - j = d2 at *
  have A : (N1 * D2) * (d1 * d2) = (n1 * d2) * (D1 * D2) := by
    have : (N1 * D2) * (d1 * d2) = (N1 * d1) * (D2 * d2) := by ac_rfl
    rw [this, e1]; ac_rfl
  have B : (N2 * D1) * (d1 * d2) = (n2 * d1) * (D1 * D2) := by
    have : (N2 * D1) * (d1 * d2) = (N2 * d2) * (D1 * d1) := by ac_rfl
    rw [this, e2]; ac_rfl
  have hD : 0 < D1 * D2 := Int.mul_pos (by omega) (by omega)
  have hd : 0 < d1 * d2 := Int.mul_pos hd1 hd2
  constructor
  · intro h
    have := Int.mul_lt_mul_of_pos_right h hd
    rw [A, B] at this
    exact Int.lt_of_mul_lt_mul_right this (Int.le_of_lt hD)
  · intro h
    have := Int.mul_lt_mul_of_pos_right h hD
    rw [← A, ← B] at this
    exact Int.lt_of_mul_lt_mul_right this (Int.le_of_lt hd)
theorem iL_take (T : List Nat) (K k : Nat) : (iL T).take K ++ [(k : Int)] = iL (T.take K ++ [k]) := by unfold iL; simp [List.map_take]
theorem tdiv_up {n g L : Int} (h : 0 ≤ n) (hL : n ≤ L) : n.tdiv g ≤ L := by
  have := tdiv_bdL n g L (by omega) hL
  exact this.2
end M
namespace V
set_option maxRecDepth 100000
open Go.RowKit
theorem M.corner_rb {x y : Int} {i j : Nat} (hij : i < j) (hj : j ≤ 12) (x1 : -1000000 ≤ x) (x2 : x ≤ 1000000) (y1 : -1000000 ≤ y) (y2 : y ≤ 1000000) : M.Rb (M.ratN (x - y) ((j : Int) - i), M.ratD (x - y) ((j : Int) - i)) := by
  have hp := M.rat_pos (n := x - y) (d := (j : Int) - i) (by omega)
  have hd : ¬ ((j : Int) - i < 0) := by omega
  have e1 := M.tdiv_bdL (x - y) (Int.gcd (x - y) ((j : Int) - i)) 2000000 (by omega) (by omega)
  have e2 := M.tdiv_bdL ((j : Int) - i) (Int.gcd (x - y) ((j : Int) - i)) 12 (by omega) (by omega)
  rw [M.ratN_pos hd] at e1
  rw [M.ratD_pos hd] at e2
  exact ⟨by show _ ≤ M.ratN _ _; omega, by show M.ratN _ _ ≤ _; omega, hp, by show M.ratD _ _ ≤ _; omega⟩
/-- One integer is appended to the first K elements of a list, all of whose room is taken. -/
theorem appendCut (w : World) {ops : Array Oper} {rest : List Oper} {o : Oper} {a : Act} {Q : Exit → Act → World → Prop} (hgd : o.guard = none) (s x : Operand)
    (ho : o.op = .call { callee := .builtin .append, args := #[s, x], argTypes := #[24, 24] }) (b : Option Addr) (L c B0 K : Nat) (l : List Int) (y : Int) (hO : Own w B0 (.slice b L c) l) (hK : K ≤ L) (hK0 : b = none → K = 0) (hs : a.eval s = .slice b K K)
    (hx : a.eval x = .slice (some ⟨w.heap.size, 0, none⟩) 1 1) (hlen : K ≤ 2000000)
    (h : ∀ b' c' w', Own w' w.heap.size (.slice b' (K + 1) c') (l.take K ++ [y]) → Below w.heap.size w w' → wpList Try.prog ops Q rest (a.put o.dst (.slice b' (K + 1) c')) w') :
    wpList Try.prog ops Q (o :: rest) a (w.alloc (.cells #[.int .i64 y] 2)) := by
  obtain ⟨i0, hi, hz0, hz1, hz2⟩ := info_parts info64
  have hL : L = l.length := hO.len
  refine wpList_append_grows (w := w.alloc (.cells #[.int .i64 y] 2)) hgd s x 24 ho 2 i0 (.int .i64 0) 1 8 Try.underlying24 hi hz0 hz1 hz2 rfl (by decide) b K K ((l.take K).map (Value.int .i64)) hs (fun e => ⟨hK0 e, hK0 e⟩) (by simp; omega) ?c0 ⟨w.heap.size, 0, none⟩ 1 1 [.int .i64 y] hx rfl (cell_one_new _ _ _) ?c2 (by omega) ?c3 (by omega) ?_
  case c0 =>
    rintro ad rfl j u hj
    have hjK : j < K := by
      by_cases e : j < K
      · exact e
      · rw [List.getElem?_eq_none (by simp; omega)] at hj; cases hj
    obtain ⟨g, hg, -, hgl⟩ := own_addr hO (by omega)
    injection hg with hg
    subst hg
    rw [Go.WideShapes.add_plain, Nat.zero_add]
    have hc := ((b_alloc w (.cells #[.int .i64 y] 2)).cell (p := ⟨g, j, none⟩) hgl).trans (hO.cellAt j (by omega))
    rw [hc, ← hj]
    simp [hjK, show j < l.length by omega]
  case c2 => intro u hu; simp at hu; subst hu; rfl
  case c3 => unfold maxLen; omega
  · intro v' w' hown' hgrow
    have ho' : Own w' w.heap.size v' (l.take K ++ [y]) := by
      show w'.ownsRow _ _ 1 v' (l.take K ++ [y]).length ((l.take K ++ [y]).map (Value.int .i64))
      have e : (l.take K ++ [y]).length = K + 1 := by simp; omega
      rw [e, List.map_append]
      exact World.ownsRow.mono hown' (by simp)
    obtain ⟨b', c', hv', _⟩ := own_form ho'
    rw [show (l.take K ++ [y]).length = K + 1 by simp; omega] at hv'
    subst hv'
    exact h b' c' w' ho' ((b_alloc w _).grown hgrow (by simp) (fun k hk => by cases hk))
set_option maxRecDepth 100000 in
set_option maxHeartbeats 4000000 in
theorem withTerm (a : Option Addr) (n cap : Nat) (l : List Int) (b : Option Addr) (L c B0 : Nat) (T : List Nat) (k K : Nat) (w : World) (h : Ints .i64 w a n l) (hn : n ≤ 12) (hO : Own w B0 (.slice b L c) (M.iL T)) (hk : k < n)
    (hinc : ∀ i j, i < j → j < L → T.getD i 0 < T.getD j 0) (hTk : ∀ j, j < L → T.getD j 0 < k) (hfin : ∀ j, j < L → -1000000 ≤ l.getD (T.getD j 0) 0 ∧ l.getD (T.getD j 0) 0 ≤ 1000000) (hfk : -1000000 ≤ l.getD k 0 ∧ l.getD k 0 ≤ 1000000)
    (hK : K = M.popN (M.cf l) (fun i => T.getD i 0) k L) :
    Calls Try.prog 92 #[.slice a n cap, .slice b L c, .int .i64 k] w fun e w' => ∃ b' c', e = .returned (.slice b' (K + 1) c') ∧ Own w' w.heap.size (.slice b' (K + 1) c') (M.iL (T.take K ++ [k])) ∧ Below w.heap.size w w' := by
  have HI := Lib.hid h
  have HO := Lib.hid hO
  have HInc := Lib.hid hinc
  have HTk := Lib.hid hTk
  have HFin := Lib.hid hfin
  have HTL : Hid (L = T.length) := by have := hO.len; rw [M.iL_len] at this; exact this
  have HKp : Hid (M.popN (M.cf l) (fun i => T.getD i 0) k L = K) := hK.symm
  obtain ⟨hf1, hf2⟩ := hfk
  have hLc : L ≤ c := by
    obtain ⟨a', c', hv, h1, -⟩ := own_form hO
    injection hv with e1 e2 e3
    rw [M.iL_len] at h1 e2
    omega
  have hL12 : L ≤ 12 := by
    rcases Nat.lt_or_ge 12 L with e | e
    · exfalso
      have key : ∀ j, j < L → j ≤ T.getD j 0 := by
        intro j
        induction j with
        | zero => intro _; exact Nat.zero_le _
        | succ j ih => intro hj; have := ih (by omega); have := hinc j (j + 1) (by omega) hj; omega
      have := key 12 e
      have := hTk 12 e
      omega
    · exact e
  clear h hO hinc hTk hfin hK
  go_enter Try.func92, Try.ntmps92
  go_wp2
  go_loopw [7] (fun lv wr => ∃ (m : Nat) (x : Int), m ≤ L ∧ lv = .int .i64 x ∧ Hid (x = m) ∧ Hid (M.popN (M.cf l) (fun i => T.getD i 0) k m = K) ∧ Hid (Below w.heap.size w wr)) (fun lv _ => (intOf lv).toNat)
  case atStart => exact ⟨L, L, Nat.le_refl _, rfl, rfl, HKp, Below.refl _ _⟩
  case round =>
    obtain ⟨m, x, hm, rfl, HX, HP, HB⟩ := hrel
    by_cases hm2 : m ≤ 1
    · have hx1 : ¬ x > 1 := by have := HX.out; omega
      have hKm : Hid (K = m) := by
        show _ = _
        rw [← HP.out]
        have : m = 0 ∨ m = 1 := by omega
        rcases this with rfl | rfl <;> rfl
      have hxt : x.toNat ≤ L := by have := HX.out; omega
      have hb0 : b = none → x.toNat = 0 := by
        intro e
        subst e
        rcases Nat.eq_zero_or_pos L with e | e
        · omega
        · obtain ⟨g, hg, -⟩ := own_addr HO.out e
          cases hg
      have HO5 := Lib.hid (HO.out.below HB.out)
      have hxc : x ≤ c := by have := HX.out; omega
      have hx0 : 0 ≤ x := by have := HX.out; omega
      go_wp2_with (at_builtin; refine appendCut _ rfl (.tmp 45) (.tmp 47) rfl b L c B0 x.toNat (M.iL T) k HO5.out hxt hb0 rfl rfl (by omega) ?_)
      intro b6 c6 w6 ho6 hb6
      have HO6 := Lib.hid (ho6.mono HB.out.size)
      have HB6 := Lib.hid (bnext HB.out hb6)
      clear ho6 hb6
      go_wp2
      go_ret
      have hxK : x.toNat = K := by have := HX.out; have := hKm.out; omega
      rw [hxK] at HO6 ⊢
      exact ⟨_, _, rfl, by have := HO6.out; rw [M.iL_take] at this; exact this, HB6.out⟩
    · obtain ⟨r, rfl⟩ : ∃ r, m = r + 2 := ⟨m - 2, by omega⟩
      obtain ⟨r1, hr1⟩ : ∃ r1, r1 = r + 1 := ⟨_, rfl⟩
      have hx1 : x > 1 := by have := HX.out; omega
      have hxr : x ≤ 12 := by have := HX.out; omega
      have ew2 : IntKind.i64.wrap (x - 2) = ((r : Nat) : Int) := by rw [IntWalk.i64_in _ (by have := HX.out; omega)]; have := HX.out; omega
      have ew1 : IntKind.i64.wrap (x - 1) = (r1 : Int) := by rw [IntWalk.i64_in _ (by have := HX.out; omega)]; have := HX.out; omega
      have HEx1 : Hid (x - 1 = (r1 : Int)) := by show _ = _; have := HX.out; omega
      obtain ⟨g, rfl, hg1, hg2⟩ := own_addr HO.out (by omega)
      have hrL : (r : Int) < (L : Int) := by omega
      have hrL1 : (r1 : Int) < (L : Int) := by omega
      obtain ⟨i, hi⟩ : ∃ i, i = T.getD r 0 := ⟨_, rfl⟩
      obtain ⟨j, hj⟩ : ∃ j, j = T.getD r1 0 := ⟨_, rfl⟩
      have hij : i < j := by rw [hi, hj]; exact HInc.out r r1 (by omega) (by omega)
      have hjk : j < k := by rw [hj]; exact HTk.out r1 (by omega)
      have hfi := HFin.out r (by omega)
      have hfj := HFin.out r1 (by omega)
      rw [← hi] at hfi
      rw [← hj] at hfj
      obtain ⟨hfi1, hfi2⟩ := hfi
      obtain ⟨hfj1, hfj2⟩ := hfj
      have hci : w.cell? ⟨g, r, none⟩ = some (.int .i64 i) := by
        have := HO.out.cellAt r (by omega)
        rw [M.iL_get (by have := HTL.out; omega), ← hi] at this; exact this
      have hcj : w.cell? ⟨g, r1, none⟩ = some (.int .i64 j) := by
        have := HO.out.cellAt r1 (by omega)
        rw [M.iL_get (by have := HTL.out; omega), ← hj] at this; exact this
      have HKeep : Hid (∀ W, Below w.heap.size w W → W.cell? ⟨g, r, none⟩ = some (.int .i64 i) ∧ W.cell? ⟨g, r1, none⟩ = some (.int .i64 j) ∧ Below w.heap.size w W) := fun W hW => ⟨(hW.cell (p := ⟨g, r, none⟩) hg2).trans hci, (hW.cell (p := ⟨g, r1, none⟩) hg2).trans hcj, hW⟩
      have HCr : Hid (M.popN (M.cf l) (fun i => T.getD i 0) k (r + 2) = if M.crit (M.cf l) i j k then r + 2 else M.popN (M.cf l) (fun i => T.getD i 0) k r1) := by rw [hi, hj, hr1]; rfl
      have HCB : Hid (∀ W, Below w.heap.size w W → Calls Try.prog 71 #[.slice a n cap, .int .i64 i, .int .i64 j] W fun e w' => e = .returned (cV (M.ratN (l.getD i 0 - l.getD j 0) ((j : Int) - i)) (M.ratD (l.getD i 0 - l.getD j 0) ((j : Int) - i)) ((j : Int) - i)) ∧ Below W.heap.size W w') := fun W hW => cornerBetween a n cap l i j W (HI.out.below hW) hn hij (by omega) hfi1 hfi2 hfj1 hfj2
      have HCB2 : Hid (∀ W, Below w.heap.size w W → Calls Try.prog 71 #[.slice a n cap, .int .i64 j, .int .i64 k] W fun e w' => e = .returned (cV (M.ratN (l.getD j 0 - l.getD k 0) ((k : Int) - j)) (M.ratD (l.getD j 0 - l.getD k 0) ((k : Int) - j)) ((k : Int) - j)) ∧ Below W.heap.size W w') := fun W hW => cornerBetween a n cap l j k W (HI.out.below hW) hn hjk hk hfj1 hfj2 hf1 hf2
      have hR1 := M.corner_rb hij (by omega) hfi1 hfi2 hfj1 hfj2
      have hR2 := M.corner_rb hjk (by omega) hfj1 hfj2 hf1 hf2
      have hcmp := M.cmp_crit (M.cf l) hij hjk
      unfold M.cf at hcmp
      have HR1 := Lib.hid hR1
      have HR2 := Lib.hid hR2
      have HCmp := Lib.hid hcmp
      have HR11 := Lib.hid hr1
      clear hr1 hi hj hR1 hR2 hcmp hci hcj hfi1 hfi2 hfj1 hfj2
      generalize M.ratN (l.getD i 0 - l.getD j 0) ((j : Int) - i) = N1 at *
      generalize M.ratD (l.getD i 0 - l.getD j 0) ((j : Int) - i) = D1 at *
      generalize M.ratN (l.getD j 0 - l.getD k 0) ((k : Int) - j) = N2 at *
      generalize M.ratD (l.getD j 0 - l.getD k 0) ((k : Int) - j) = D2 at *
      obtain ⟨wo, rfl⟩ : ∃ y, y = wr := ⟨_, rfl⟩
      go_wp2
      go_region_held3 (fun w' => w'.cell? ⟨g, r, none⟩ = some (.int .i64 i) ∧ w'.cell? ⟨g, r1, none⟩ = some (.int .i64 j) ∧ Below w.heap.size w w')
        (first | exact HKeep.out _ HB.out.drew | exact HKeep.out _ (HB.out.drew.alloc HB.out.size _) | exact HKeep.out _ (HB.out.alloc HB.out.size _).drew | exact HKeep.out _ HB2.out | exact HKeep.out _ (HB2.out.alloc HB2.out.size _) | exact HKeep.out _ (b3set HB2.out HB.out.size _ _ _))
        (first | (go_at_call 71; refine (HCB.out _ ‹_ ∧ _ ∧ Below _ _ _›.2.2).mono ?_; rintro e w2 ⟨rfl, hb2⟩; have HB2 : Hid (Below w.heap.size w w2) := bnext ‹_ ∧ _ ∧ Below _ _ _›.2.2 hb2; have hh : wo.heap.size < w2.heap.size ∧ w2.cell? ⟨wo.heap.size, 0, none⟩ = some (.int .i64 0) ∧ w2.cell? ⟨wo.heap.size, 1, none⟩ = some (.int .i64 0) ∧ w2.cell? ⟨wo.heap.size, 2, none⟩ = some (.int .i64 0) ∧ w2.frozen? ⟨wo.heap.size, 0, none⟩ = false ∧ w2.frozen? ⟨wo.heap.size, 1, none⟩ = false ∧ w2.frozen? ⟨wo.heap.size, 2, none⟩ = false := (by first | exact cnew wo.drew 0 0 0 _ hb2 | exact cnew wo 0 0 0 _ (bnext (Below.refl _ _).drew hb2)); obtain ⟨z0, e0, e1, e2, f0, f1, f2⟩ := hh; clear hb2) | (go_at_call 71; refine (HCB.out _ ‹_ ∧ _ ∧ Below _ _ _›.2.2).mono ?_; rintro e w2 ⟨rfl, hb2⟩; have HB2 : Hid (Below w.heap.size w w2) := bnext ‹_ ∧ _ ∧ Below _ _ _›.2.2 hb2; clear hb2))
      all_goals first
        | (generalize hwz : World.alloc w2 _ = w3
           have HB3 : Hid (Below w.heap.size w w3) := by show Below _ _ _; rw [← hwz]; exact HB2.out.alloc HB2.out.size _
           have b0 : w3.cell? ⟨w2.heap.size, 0, none⟩ = some (.int .i64 N1) := by rw [← hwz]; simp [go_sem]
           have b1 : w3.cell? ⟨w2.heap.size, 1, none⟩ = some (.int .i64 D1) := by rw [← hwz]; simp [go_sem]
           clear hwz
           generalize w2.heap.size = bx at *)
        | (generalize hwz : World.setCell (World.setCell (World.setCell w2 _ _) _ _) _ _ = w3
           have HB3 : Hid (Below w.heap.size w w3) := by show Below _ _ _; rw [← hwz]; exact b3set HB2.out HB.out.size _ _ _
           have b0 : w3.cell? ⟨wo.heap.size, 0, none⟩ = some (.int .i64 N1) := by rw [← hwz]; simp [go_sem, e0, e1, e2]
           have b1 : w3.cell? ⟨wo.heap.size, 1, none⟩ = some (.int .i64 D1) := by rw [← hwz]; simp [go_sem, e0, e1, e2]
           clear hwz e0 e1 e2 f0 f1 f2 z0
           generalize wo.heap.size = bx at *)
      all_goals
        clear ‹_ ∧ _ ∧ Below _ _ _› HB2
        have hcj3 := (HKeep.out _ HB3.out).2.1
        have ex1 := HEx1.out
        obtain ⟨yv, hyv⟩ : ∃ yv, yv = M.cmpZ (N1 * D2) (N2 * D1) := ⟨_, rfl⟩
        have HY := Lib.hid hyv.symm
        have hcm := HCmp.out
        rw [← hyv] at hcm
        have hcr := HCr.out
        have hpp := HP.out
        by_cases hc : M.crit (M.cf l) i j k
        · have hneg : yv < 0 := hcm.2 hc
          have HKr : Hid (K = r + 2) := by show _ = _; rw [← hpp, hcr, if_pos hc]
          have hKL : Hid (x = K) := by show _ = _; rw [HKr.out]; exact HX.out
          clear hc hcm hcr hpp hyv
          go_wp2_with fail
          refine (HCB2.out _ HB3.out).mono ?_
          rintro e w4 ⟨rfl, hb4⟩
          have HB4 := Lib.hid (HB3.out.trans (hb4.mono HB3.out.size))
          have hbx4 : bx < w4.heap.size := cell_lt (ck b0 hb4)
          have b05 : ∀ o, (w4.alloc o).cell? ⟨bx, 0, none⟩ = some (.int .i64 N1) := fun o => (World.cell?_alloc_old _ _ _ (Nat.ne_of_lt hbx4)).trans (ck b0 hb4)
          have b15 : ∀ o, (w4.alloc o).cell? ⟨bx, 1, none⟩ = some (.int .i64 D1) := fun o => (World.cell?_alloc_old _ _ _ (Nat.ne_of_lt hbx4)).trans (ck b1 hb4)
          clear hb4 b0 b1
          go_wp2_with fail
          refine (compareRb (N1, D1) (N2, D2) yv _ HR1.out HR2.out HY.out).mono ?_
          rintro e w5 ⟨rfl, hb5⟩
          have HB5 := Lib.hid ((HB4.out.alloc HB4.out.size _).trans (hb5.mono (HB4.out.alloc HB4.out.size _).size))
          clear hb5
          have HO5 := Lib.hid (HO.out.below HB5.out)
          have hxt : x.toNat ≤ L := by have := HX.out; omega
          go_wp2_with (at_builtin; refine appendCut _ rfl (.tmp 45) (.tmp 47) rfl (some ⟨g, 0, none⟩) L c B0 x.toNat (M.iL T) k HO5.out hxt (fun e => by cases e) rfl rfl (by omega) ?_)
          intro b6 c6 w6 ho6 hb6
          have HO6 := Lib.hid (ho6.mono HB5.out.size)
          have HB6 := Lib.hid (bnext HB5.out hb6)
          clear ho6 hb6
          go_wp2
          go_ret
          have hxK : x.toNat = K := by have := hKL.out; omega
          rw [hxK] at HO6 ⊢
          exact ⟨_, _, rfl, by have := HO6.out; rw [M.iL_take] at this; exact this, HB6.out⟩
        · have hnneg : ¬ yv < 0 := fun q => hc (hcm.1 q)
          have HKr : Hid (M.popN (M.cf l) (fun i => T.getD i 0) k r1 = K) := by show _ = _; rw [← hpp, hcr, if_neg hc]
          clear hc hcm hcr hpp hyv
          go_wp2_with fail
          refine (HCB2.out _ HB3.out).mono ?_
          rintro e w4 ⟨rfl, hb4⟩
          have HB4 := Lib.hid (HB3.out.trans (hb4.mono HB3.out.size))
          have hbx4 : bx < w4.heap.size := cell_lt (ck b0 hb4)
          have b05 : ∀ o, (w4.alloc o).cell? ⟨bx, 0, none⟩ = some (.int .i64 N1) := fun o => (World.cell?_alloc_old _ _ _ (Nat.ne_of_lt hbx4)).trans (ck b0 hb4)
          have b15 : ∀ o, (w4.alloc o).cell? ⟨bx, 1, none⟩ = some (.int .i64 D1) := fun o => (World.cell?_alloc_old _ _ _ (Nat.ne_of_lt hbx4)).trans (ck b1 hb4)
          clear hb4 b0 b1
          go_wp2_with fail
          refine (compareRb (N1, D1) (N2, D2) yv _ HR1.out HR2.out HY.out).mono ?_
          rintro e w5 ⟨rfl, hb5⟩
          have HB5 := Lib.hid ((HB4.out.alloc HB4.out.size _).trans (hb5.mono (HB4.out.alloc HB4.out.size _).size))
          clear hb5
          go_wp2
          go_roundw
          case rel => exact ⟨r1, _, by have := HR11.out; omega, rfl, by show _ = _; have := HX.out; have := HR11.out; omega, HKr, HB5⟩
          case measure => simp [intOf]; omega
end V
end Go.Proofs.Ytlljnfljcdljaaa
