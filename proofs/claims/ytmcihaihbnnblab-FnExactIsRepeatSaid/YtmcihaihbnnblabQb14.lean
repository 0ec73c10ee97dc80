/- Texts laid together: Ser, Sat, Sqr. -/
import Derived.Test.YtmcihaihbnnblabQb2
import Derived.Test.YtmcihaihbnnblabQb10
import Derived.Test.YtmcihaihbnnblabQb13
import Derived.Test.YtmcihaihbnnblabQb4
import Derived.Test.YtmcihaihbnnblabQb11
import Derived.Deep.RegionLaw
import Derived.Test.YtmcihaihbnnblabQb5
set_option linter.unusedSimpArgs false
set_option linter.unusedVariables false
set_option linter.unusedSectionVars false
namespace Go.Proofs.Ytmcihaihbnnblab
namespace M
theorem flat_take {X : List (List Int)} {k : Nat} (hk : k < X.length) : (X.take (k + 1)).flatten = (X.take k).flatten ++ X.getD k [] := by
  rw [List.take_succ_eq_append_getElem hk, List.flatten_append]
  simp [hk]
theorem flat_small {X : List (List Int)} {n L : Nat} (h1 : X.length = n) (h2 : ∀ i, i < n → (X.getD i []).length = L) : ∀ k, k ≤ n → (X.take k).flatten.length = k * L := by
  intro k
  induction k with
  | zero => intro _; simp
  | succ k ih =>
    intro hk
    rw [flat_take (by omega), List.length_append, ih (by omega), h2 k (by omega), Nat.succ_mul]
end M
namespace V
set_option maxRecDepth 100000
open Go.RowKit
/-- A list of integers is appended to an owned list of integers. -/
theorem appendInts (w : World) {ops : Array Oper} {rest : List Oper} {o : Oper} {a : Act} {Q : Exit → Act → World → Prop} (hgd : o.guard = none) (s x : Operand)
    (ho : o.op = .call { callee := .builtin .append, args := #[s, x], argTypes := #[29, 29] }) (B : Nat) (v : Value) (l l2 : List Int) (hs : a.eval s = v) (hown : Own w B v l)
    {ad : Option Addr} {n2 c2 : Nat} (hx : a.eval x = .slice ad n2 c2) (hI : Ints .i64 w ad n2 l2) (h0 : 0 < n2) (hlen : l.length + n2 ≤ 2000000) (hB : B ≤ w.heap.size)
    (h : ∀ b' c' w', Own w' B (.slice b' (l.length + n2) c') (l ++ l2) → Below B w w' → wpList Try.prog ops Q rest (a.put o.dst (.slice b' (l.length + n2) c')) w') :
    wpList Try.prog ops Q (o :: rest) a w := by
  obtain ⟨i0, hi, hz0, hz1, hz2⟩ := info_parts info64
  obtain ⟨e1, e2, e3⟩ := hI
  rcases e3 with e3 | ⟨b, off, rfl, hlt, hc⟩
  · omega
  refine wpList_append_own_at (w := w) hgd s x 29 ho B 2 i0 (.int .i64 0) 1 8 Try.underlying29 hi hz0 hz1 hz2 rfl (by decide) v _ _ hs hown ⟨b, off, none⟩ n2 c2 (l2.map (Value.int .i64)) hx (by simp [e1]) (ints_cells hc e1) ?c2 ?c3 ?c4 hB ?_
  case c2 => intro u hu; obtain ⟨x, _, rfl⟩ := List.mem_map.1 hu; rfl
  case c3 => unfold maxLen; omega
  case c4 => omega
  · intro v' w' hown' hgrow hz hvb
    have ho' : Own w' B v' (l ++ l2) := by
      show w'.ownsRow B _ 1 v' (l ++ l2).length ((l ++ l2).map (Value.int .i64))
      rw [List.length_append, e1, List.map_append]
      exact hown'
    obtain ⟨b', c', hv', _⟩ := own_form ho'
    rw [show (l ++ l2).length = l.length + n2 by rw [List.length_append, e1]] at hv'
    subst hv'
    exact h b' c' w' ho' ((Below.refl B w).grown hgrow hB (fun k hk => (own_lt hown hk).1))
set_option maxRecDepth 100000 in
set_option maxHeartbeats 1000000 in
theorem sFlat7 (a : Option Addr) (n cap L : Nat) (X : List (List Int)) (w : World) (h : Mat w a n X) (hr : Rect X n L) (n2 : n ≤ 10) (l1 : 1 ≤ L) (l2 : L ≤ 10) :
    Calls Try.prog 86 #[.slice a n cap] w fun e w' => ∃ b m c, e = .returned (.slice b m c) ∧ Own w' w.heap.size (.slice b m c) X.flatten ∧ Below w.heap.size w w' := by
  have HA := Lib.hid h
  have HR := Lib.hid hr
  have HLn := Lib.hid (M.flat_small h.1 hr.2)
  have HT : Hid (∀ k, k < n → (X.take (k + 1)).flatten = (X.take k).flatten ++ X.getD k []) := fun k hk => M.flat_take (by rw [h.1]; exact hk)
  have HXl := Lib.hid h.1
  clear h hr
  go_enter Try.func86, Try.ntmps86
  go_wp2
  go_loopw [3, 4] (fun ov kv wr => ∃ (k m : Nat) (b : Option Addr) (c : Nat), k ≤ n ∧ kv = .int .i64 k ∧ ov = .slice b m c ∧ Hid (Own wr w.heap.size (.slice b m c) (X.take k).flatten) ∧ Hid (Below w.heap.size w wr)) (fun _ kv _ => n - (intOf kv).toNat)
  case atStart => exact ⟨0, 0, _, _, Nat.zero_le _, rfl, rfl, own_lit0 w _ (Nat.le_refl _), b_alloc _ _⟩
  case round =>
    obtain ⟨k, m, b, c, hk, rfl, rfl, HO, HB⟩ := hrel
    by_cases hlt : k < n
    · have hki : (k : Int) < (n : Int) := by omega
      obtain ⟨ab, ao, ra, rc, rfl, -, hcr, hIr⟩ := (HA.out.below HB.out).rect_at HR.out k hlt
      have HIr := Lib.hid hIr
      have HTk := Lib.hid (HT.out k hlt)
      have hlk := HLn.out k (by omega)
      have hkL : k * L ≤ 10 * 10 := Nat.mul_le_mul (by omega) l2
      have HLk : Hid ((X.take k).flatten.length ≤ 100) := by show _ ≤ _; omega
      clear hIr hlk hkL
      generalize (X.take k).flatten = Xk at *
      go_wp2_with (at_builtin; refine appendInts _ rfl (.tmp 12) (.tmp 16) rfl w.heap.size _ Xk (X.getD k []) rfl HO.out rfl HIr.out (by omega) (by have := HLk.out; omega) HB.out.size ?_)
      intro b4 c4 w4 hO4 hb4
      have HO4 := Lib.hid hO4
      have HB4 := Lib.hid (HB.out.trans hb4)
      clear hO4 hb4
      go_wp2
      go_roundw
      case rel => exact ⟨k + 1, _, b4, c4, by omega, by go_num, rfl, by show Own _ _ _ _; rw [HTk.out]; exact HO4.out, HB4⟩
      case measure => simp [intOf]; omega
    · obtain rfl : k = n := by omega
      have HTa : Hid (X.take k = X) := List.take_of_length_le (by have := HXl.out; omega)
      go_wp2
      go_ret
      exact ⟨_, _, _, rfl, by have := HO.out; rw [HTa.out] at this; exact this, HB.out⟩
def serF (a0 v1 v2 : Value) (i : Nat) : Value := if i = 0 then a0 else if i = 1 then v1 else v2
/-- A series that has been looked at up to its element k. -/
def IsSer (w0 w : World) (p : Nat) (a : Option Addr) (n cap : Nat) (R F : List (List Int)) (k : Nat) : Prop :=
  Below w0.heap.size w0 w ∧ w0.heap.size ≤ p ∧ ∃ b1 c1 b2 c2, w.rowIs p 77 3 (serF (.slice a n cap) (.slice b1 n c1) (.slice b2 (k + 1) c2)) ∧
    OwnP w w0.heap.size (fun q => q ≠ p) (.slice b1 n c1) (M.sq7 R F k) ∧ OwnP w w0.heap.size (fun q => q ≠ p) (.slice b2 (k + 1) c2) (M.sqL R F (k + 1))
theorem IsSer.keep {w0 w w' : World} {p n cap k : Nat} {a : Option Addr} {R F : List (List Int)} (h : IsSer w0 w p a n cap R F k) (hb : Below w.heap.size w w') : IsSer w0 w' p a n cap R F k := by
  obtain ⟨h1, h2, b1, c1, b2, c2, h3, h4, h5⟩ := h
  exact ⟨h1.trans (hb.mono h1.size), h2, b1, c1, b2, c2, World.rowIs.of_block h3 (hb.block p (World.rowIs.lt h3)), h4.below hb, h5.below hb⟩
theorem serF_set1 (a0 v1 v2 v : Value) : ∀ i, i < 3 → (if i = 1 then v else serF a0 v1 v2 i) = serF a0 v v2 i := fun i hi => by
  unfold serF
  by_cases e : i = 0
  · subst e; rfl
  · by_cases e1 : i = 1
    · simp [e, e1]
    · simp [e, e1]
theorem serF_set2 (a0 v1 v2 v : Value) : ∀ i, i < 3 → (if i = 2 then v else serF a0 v1 v2 i) = serF a0 v1 v i := fun i hi => by
  unfold serF
  by_cases e : i = 0
  · subst e; rfl
  · by_cases e1 : i = 1
    · subst e1; rfl
    · have : i = 2 := by omega
      subst this; rfl
set_option maxRecDepth 100000 in
set_option maxHeartbeats 1000000 in
theorem sStart7 (w0 : World) (a : Option Addr) (n cap L : Nat) (R F : List (List Int)) (b : Option Addr) (c : Nat) (w : World) (hb0 : Below w0.heap.size w0 w) (hF : OwnM w w0.heap.size (.slice b n c) F) (hr : Rect F n L) (n2 : n ≤ 10) (l1 : 1 ≤ L) (l2 : L ≤ 10) :
    Calls Try.prog 42 #[.slice a n cap, .slice b n c] w fun e w' => ∃ p, e = .returned (.pointer (some ⟨p, 0, none⟩)) ∧ IsSer w0 w' p a n cap R F 0 := by
  have HB0 := Lib.hid hb0
  have HF := Lib.hid hF
  have hz0 := hb0.size
  have HR := Lib.hid hr
  clear hb0 hF hr
  go_enter Try.func42, Try.ntmps42
  go_wp2_with fail
  refine (sFlat7 _ _ _ L F _ HF.out.mat HR.out n2 l1 l2).mono ?_
  rintro e w1 ⟨b1, m1, c1, rfl, ho, hb⟩
  have HO1 := Lib.hid ho
  have HF1 := Lib.hid (HF.out.below hb)
  have HB1 := Lib.hid (HB0.out.trans (hb.mono hz0))
  have hz1 := hb.size
  clear ho hb HF
  go_wp2
  go_ret
  refine ⟨w1.heap.size + 1, by simp, ?_⟩
  have hA : Below w1.heap.size w1 (w1.alloc (.cells #[.slice b1 m1 c1] 29)) := b_alloc _ _
  have hz : (w1.alloc (.cells #[.slice b1 m1 c1] 29)).heap.size = w1.heap.size + 1 := by simp
  have hLi : OwnM (w1.alloc (.cells #[.slice b1 m1 c1] 29)) w.heap.size (.slice (some ⟨w1.heap.size, 0, none⟩) 1 1) [F.flatten] := ownM_lit1 w1 _ hz1 HO1.out
  have hFi := HF1.out.below hA
  have hBi := HB1.out.trans (hA.mono (Nat.le_trans hz0 hz1))
  generalize w1.alloc (.cells #[.slice b1 m1 c1] 29) = wa at *
  have hA2 : ∀ o, Below wa.heap.size wa (wa.alloc o) := fun o => b_alloc _ _
  refine ⟨hBi.trans ((hA2 _).mono (by omega)), by omega, b, c, _, _, ?_, OwnP.below (hFi.toP fun k _ hk => by omega) (hA2 _), OwnP.below ((hLi.mono (by omega)).toP fun k _ hk => by omega) (hA2 _)⟩
  have := World.rowIs_alloc wa #[.slice a n cap, .slice b n c, .slice (some ⟨w1.heap.size, 0, none⟩) 1 1] 77 (serF (.slice a n cap) (.slice b n c) (.slice (some ⟨w1.heap.size, 0, none⟩) 1 1)) (fun i hi => by
    have hi : i < 3 := hi
    match i, hi with
    | 0, _ => rfl
    | 1, _ => rfl
    | 2, _ => rfl)
  rw [hz] at this
  exact this
end V
end Go.Proofs.Ytmcihaihbnnblab

namespace Go.Proofs.Ytmcihaihbnnblab.V
set_option maxRecDepth 100000
open Go.RowKit
def lenOf : Option Value → Nat
  | some (.slice _ n _) => n
  | _ => 0
/-- What a series stands on. -/
structure SerB (w0 : World) (a : Option Addr) (n L : Nat) (R F : List (List Int)) : Prop where
  mat : Mat w0 a n R
  rect : Rect R n n
  n1 : 1 ≤ n
  n2 : n ≤ 10
  sm : ∀ i j, i < n → j < n → M.Sm 1000000 (M.ent R i j)
  len : F.length = n
  wid : M.wid F = L
  l1 : 1 ≤ L
  l2 : L ≤ 10
theorem SerB.rlen {w0 : World} {a : Option Addr} {n L : Nat} {R F : List (List Int)} (h : SerB w0 a n L R F) : R.length = n := h.mat.1
theorem SerB.sq {w0 : World} {a : Option Addr} {n L : Nat} {R F : List (List Int)} (h : SerB w0 a n L R F) {k : Nat} (hk : M.okQ R F k = true) : Rect (M.sq7 R F k) n L ∧ ∀ i j, i < n → j < L → M.isVal (M.ent (M.sq7 R F k) i j) = true := by
  have hl := M.sq7_len (R := R) (F := F) (by rw [h.len, h.rlen]) k
  have hw := M.sq7_wid (R := R) (F := F) (by rw [h.rlen]; exact h.n1) k
  have hr := rect_mat hk
  rw [hl, hw, h.rlen, h.wid] at hr
  exact ⟨hr, fun i j hi hj => (M.isMat_t hk).2.2.2.2.2 i (by rw [hl, h.rlen]; exact hi) j (by rw [hw, h.wid]; exact hj)⟩
theorem SerB.next {w0 : World} {a : Option Addr} {n L : Nat} {R F : List (List Int)} (h : SerB w0 a n L R F) (k : Nat) : M.sq7 R F (k + 1) = M.mk n L fun i j => M.dot R (M.sq7 R F k) i j n := by
  show M.mulM R _ = _
  unfold M.mulM
  rw [M.sq7_wid (R := R) (F := F) (by rw [h.rlen]; exact h.n1) k, M.sq7_len (R := R) (F := F) (by rw [h.len, h.rlen]) k, h.rlen, h.wid]
theorem serL (w : World) {p n cap k : Nat} {w0 : World} {a : Option Addr} {R F : List (List Int)} (h : IsSer w0 w p a n cap R F k) : lenOf (w.cell? ⟨p, 2, none⟩) = k + 1 := by
  obtain ⟨-, -, b1, c1, b2, c2, h3, -⟩ := h
  have := World.rowIs.cell h3 (i := 2) (by omega)
  rw [this]
  rfl
set_option maxRecDepth 100000 in
set_option maxHeartbeats 4000000 in
theorem sAt7 (w0 : World) (a : Option Addr) (n cap L : Nat) (R F : List (List Int)) (p k0 q : Nat) (w : World) (hS : SerB w0 a n L R F) (h : IsSer w0 w p a n cap R F k0) (hok : M.okTo R F k0) (hq : q ≤ 200) :
    Calls Try.prog 52 #[.pointer (some ⟨p, 0, none⟩), .int .i64 q] w fun e w' =>
      (∃ k1, q ≤ k1 ∧ k0 ≤ k1 ∧ (k1 = k0 ∨ k1 = q) ∧ M.okTo R F k1 ∧ IsSer w0 w' p a n cap R F k1 ∧ ∃ ra m rc, e = .returned (.tuple #[.slice ra m rc, .bool true]) ∧ Ints .i64 w' ra m (M.sq7 R F q).flatten) ∨
      (∃ j, k0 < j ∧ j ≤ q ∧ M.okTo R F (j - 1) ∧ M.okQ R F j = false ∧ e = .returned (.tuple #[.slice none 0 0, .bool false]) ∧ Below w0.heap.size w0 w') := by
  have HS := Lib.hid hS
  have H0 := Lib.hid h
  have HOk := Lib.hid hok
  have n1 := hS.n1
  have n2 := hS.n2
  have l1 := hS.l1
  have l2 := hS.l2
  have HRB : Hid (∀ i j, i < n → j < n → M.Big (M.ent R i j)) := fun i j hi hj => M.big_sm (hS.sm i j hi hj) (by omega)
  clear hS h hok
  go_enter Try.func52, Try.ntmps52
  go_wp2
  go_loopw [6] (fun _ wr => ∃ k : Nat, k0 ≤ k ∧ (k = k0 ∨ k ≤ q) ∧ Hid (M.okTo R F k) ∧ Hid (IsSer w0 wr p a n cap R F k)) (fun _ wr => q + 1 - lenOf (wr.cell? ⟨p, 2, none⟩))
  case atStart => exact ⟨k0, Nat.le_refl _, .inl rfl, HOk, H0⟩
  case round =>
    obtain ⟨k, hk1, hk2, HOkk, HI⟩ := hrel
    obtain ⟨wo, rfl⟩ : ∃ x, x = wr := ⟨_, rfl⟩
    obtain ⟨hb0, hp, b1, c1, b2, c2, hrow, ho1, ho2⟩ := HI.out
    have HB := Lib.hid hb0
    have HRow := Lib.hid hrow
    have HO1 := Lib.hid ho1
    have HO2 := Lib.hid ho2
    have hpl := World.rowIs.lt hrow
    have s0 : wo.cell? ⟨p, 0, none⟩ = some (.slice a n cap) := World.rowIs.cell hrow (i := 0) (by omega)
    have s1 : wo.cell? ⟨p, 1, none⟩ = some (.slice b1 n c1) := World.rowIs.cell hrow (i := 1) (by omega)
    have s2 : wo.cell? ⟨p, 2, none⟩ = some (.slice b2 (k + 1) c2) := World.rowIs.cell hrow (i := 2) (by omega)
    clear hb0 hrow ho1 ho2
    by_cases hlt : k < q
    · have hle : (k : Int) + 1 ≤ (q : Int) := by omega
      obtain ⟨hrk, hvk⟩ := HS.out.sq (HOkk.out k (Nat.le_refl _))
      have HRk := Lib.hid hrk
      have HVk : Hid (∀ i j, i < n → j < L → M.Big (M.ent (M.sq7 R F k) i j)) := fun i j hi hj => M.big_val (hvk i j hi hj)
      have HNx := Lib.hid (HS.out.next k)
      clear hrk hvk
      go_wp2
      go_region_law (go_simp; go_at_call 91; refine (sMultiplyB a n cap n R b1 c1 L (M.sq7 R F k) _ ?ha ?hb1 HS.out.rect HRk.out HRB.out HVk.out n1 n2 n1 n2 l1 l2).mono ?_; (case ha => exact (HS.out.mat.below HB.out).below (Below.refl _ _).drew); (case hb1 => exact HO1.out.toM.mat.below (Below.refl _ _).drew); rintro e w1 ⟨b3, c3, rfl, ho3, hb3⟩; rw [← HNx.out] at ho3; have HO3 := Lib.hid ho3; have HB3 := Lib.hid hb3; have HR3 := Lib.hid (World.rowIs.of_block (w' := w1) HRow.out (hb3.block p hpl)); have t1 := World.rowIs.cell HR3.out (i := 1) (by omega); have t2 := World.rowIs.frozen HR3.out 1; clear ho3 hb3)
      all_goals
        have HRs := Lib.hid ((World.rowIs.set HR3.out 1 (.slice b3 n c3)).congr (serF_set1 _ _ _ _))
        have HO2s : Hid (OwnP (w1.setCell ⟨p, 1, none⟩ (.slice b3 n c3)) w0.heap.size (fun q => q ≠ p) (.slice b2 (k + 1) c2) (M.sqL R F (k + 1))) := (HO2.out.keep (w' := w1) fun j _ _ hj => HB3.out.block j hj).keep fun j hj _ _ => Below.heap_setCell _ _ _ _ hj
        have HO3s : Hid (OwnP (w1.setCell ⟨p, 1, none⟩ (.slice b3 n c3)) w0.heap.size (fun q => wo.heap.size ≤ q) (.slice b3 n c3) (M.sq7 R F (k + 1))) := ((HO3.out.toP (P := fun q => wo.heap.size ≤ q) fun j h1 _ => h1).mono (HB.out.size)).keep fun j hj _ _ => Below.heap_setCell _ _ _ _ (by show j ≠ p; omega)
        have HLb : Hid (∀ j, (Value.slice b2 (k + 1) c2).ownBlock = some j → j ≠ p ∧ j < wo.heap.size) := fun j hj => by
          obtain ⟨V, q0, q1, -⟩ := HO2.out
          exact ⟨q1 j hj, (own_lt q0.2.1 hj).2⟩
        have HBs : Hid (Below w0.heap.size w0 (w1.setCell ⟨p, 1, none⟩ (.slice b3 n c3))) := (HB.out.trans (((Below.refl _ wo).drew.trans (HB3.out.mono (Nat.le_refl _))).mono HB.out.size)).setCell hp _
        have HI0 := HI
        clear HR3 HO2 HO3 HB3 HRow HO1 HB HI t1 t2 s0 s1 s2
        generalize w1.setCell ⟨p, 1, none⟩ (.slice b3 n c3) = ws at *
        have u1 : ws.cell? ⟨p, 1, none⟩ = some (.slice b3 n c3) := World.rowIs.cell HRs.out (i := 1) (by omega)
        obtain ⟨bv, hbv⟩ : ∃ b, b = M.isMat (M.sq7 R F (k + 1)) := ⟨_, rfl⟩
        have HBv := Lib.hid hbv.symm
        clear hbv
        cases bv with
        | false =>
          go_wp2_with fail
          refine (sIsMatrixB_b _ _ _ (M.sq7 R F (k + 1)) _ false HBv.out HO3s.out.toM.mat).mono ?_
          rintro e w' ⟨rfl, hb⟩
          have HBe := Lib.hid (HBs.out.trans (hb.mono HBs.out.size))
          clear hb u1
          go_wp2
          go_ret2
          exact .inr ⟨k + 1, by omega, by omega, HOkk.out, HBv.out, rfl, HBe.out⟩
        | true =>
          have HOk2 : Hid (M.okTo R F (k + 1)) := fun j hj => by
            by_cases e : j = k + 1
            · subst e; exact HBv.out
            · exact HOkk.out j (by omega)
          have HRk2 := Lib.hid (HS.out.sq (k := k + 1) HBv.out).1
          go_wp2_with fail
          refine (sIsMatrixB_b _ _ _ (M.sq7 R F (k + 1)) _ true HBv.out HO3s.out.toM.mat).mono ?_
          rintro e w2 ⟨rfl, hb⟩
          have HR2 := Lib.hid (World.rowIs.of_block (w' := w2) HRs.out (hb.block p (World.rowIs.lt HRs.out)))
          have HL2 := Lib.hid (HO2s.out.below hb)
          have HM2 := Lib.hid (HO3s.out.below hb)
          have HB2 := Lib.hid (HBs.out.trans (hb.mono HBs.out.size))
          clear hb u1 HRs HO2s HO3s HBs
          have hp2 := World.rowIs.lt HR2.out
          have v1 : w2.cell? ⟨p, 1, none⟩ = some (.slice b3 n c3) := World.rowIs.cell HR2.out (i := 1) (by omega)
          have v2 : w2.cell? ⟨p, 2, none⟩ = some (.slice b2 (k + 1) c2) := World.rowIs.cell HR2.out (i := 2) (by omega)
          have HSl : Hid ((M.sqL R F (k + 1)).length = k + 1) := M.sqL_len _ _ _
          have HSn : Hid (M.sqL R F (k + 1) ++ [(M.sq7 R F (k + 1)).flatten] = M.sqL R F (k + 1 + 1)) := (M.sqL_next _ _ _).symm
          have hz2 : w0.heap.size ≤ w2.heap.size := HB2.out.size
          go_wp2
          go_region_law (first
            | (refine step_appendRowP w2.drew _ rfl _ _ rfl w0.heap.size (fun q => q ≠ p) _ (.slice b4 m4 c4) (M.sqL R F (k + 1)) (M.sq7 R F (k + 1)).flatten (k + 1) _ HSl.out rfl ?hown ?hb ?hro rfl ?hy (by omega) hz2 ?hP ?_; (case hown => exact HL2.out.below (Below.refl _ _).drew); (case hb => exact HB4.out.trans ((b_alloc _ _).mono HB4.out.size)); (case hro => exact HO4.out.below (b_alloc _ _)); (case hy => simp); (case hP => intro j hj; have : w2.heap.size ≤ j := hj; omega); intro b5 c5 w5 ho5 hb5 hk5; rw [HSn.out] at ho5; have HO5 := Lib.hid ho5; have HB5 := Lib.hid hb5; have HR5 := Lib.hid (World.rowIs.of_block (w' := w5) HR4.out ((hk5 p (by simp; have := HB4.out.size; have e : w2.drew.heap.size = w2.heap.size := rfl; omega) (fun e => (HLb.out p e).1 rfl)).trans (Below.heap_alloc _ _ _ (World.rowIs.lt HR4.out)))); have HK5 := Lib.hid hk5; have t2 := World.rowIs.cell HR5.out (i := 2) (by omega); have t3 := World.rowIs.frozen HR5.out 2; clear ho5 hb5 hk5)
            | (go_simp; go_at_call 86; refine (sFlat7 b3 n c3 L (M.sq7 R F (k + 1)) _ ?hm HRk2.out n2 l1 l2).mono ?_; (case hm => exact HM2.out.toM.mat.below (Below.refl _ _).drew); rintro e w4 ⟨b4, m4, c4, rfl, ho4, hb4⟩; have HO4 := Lib.hid ho4; have HB4 := Lib.hid hb4; have HR4 := Lib.hid (World.rowIs.of_block (w' := w4) HR2.out (hb4.block p hp2)); have t4 := World.rowIs.cell HR4.out (i := 2) (by omega); have t5 : ∀ o, (w4.alloc o).cell? ⟨p, 2, none⟩ = some (.slice b2 (k + 1) c2) := (fun o => (World.cell?_alloc_old _ _ _ (Nat.ne_of_lt (World.rowIs.lt HR4.out))).trans t4); clear ho4 hb4))
          all_goals
            have HIn : Hid (IsSer w0 (w5.setCell ⟨p, 2, none⟩ (.slice b5 (k + 1 + 1) c5)) p a n cap R F (k + 1)) := by
              refine ⟨?_, hp, b3, c3, b5, c5, (World.rowIs.set HR5.out 2 (.slice b5 (k + 1 + 1) c5)).congr (serF_set2 _ _ _ _), ?_, ?_⟩
              · have q1 : Below w0.heap.size w0 w4 := HB2.out.trans (((Below.refl _ w2).drew.trans (HB4.out.mono (Nat.le_refl _))).mono hz2)
                have q2 := (q1.trans ((b_alloc w4 (.cells #[.slice b4 m4 c4] 29)).mono q1.size)).trans HB5.out
                exact q2.setCell hp _
              · refine OwnP.imp (P := fun q => wo.heap.size ≤ q) (OwnP.keep (w := w5) (OwnP.keep (w := w2) HM2.out fun j hj h1 h2 => ?_) fun j hj _ _ => Below.heap_setCell _ _ _ _ (by show j ≠ p; omega)) fun j hj => by omega
                have hj4 : j < w4.heap.size := by have := HB4.out.size; have e : w2.drew.heap.size = w2.heap.size := rfl; omega
                exact ((HK5.out j (by simp; omega) (fun e => by have := (HLb.out j e).2; omega)).trans (Below.heap_alloc _ _ _ hj4)).trans (HB4.out.block j h2)
              · exact HO5.out.keep fun j hj _ _ => Below.heap_setCell _ _ _ _ hj
            go_wp2
            go_roundw
            case rel => exact ⟨k + 1, by omega, .inr (by omega), HOk2, HIn⟩
            case measure => rw [serL _ HIn.out, serL _ HI0.out]; omega
    · have hgt : ¬ ((k : Int) + 1 ≤ (q : Int)) := by omega
      have hqk : (q : Int) < (k : Int) + 1 := by omega
      obtain ⟨g2, ra, rc, rfl, hcr, hro⟩ := HO2.out.toM.row q (by omega)
      rw [M.sqL_get (show q < k + 1 by omega)] at hcr hro
      obtain ⟨mm, hmm⟩ : ∃ mm, mm = (M.sq7 R F q).flatten.length := ⟨_, rfl⟩
      rw [← hmm] at hcr hro
      have HRo := Lib.hid hro.ints'
      clear hro hmm
      go_wp2
      go_ret2
      refine .inl ⟨k, by omega, hk1, by omega, HOkk.out, HI.out, ?_⟩
      first
        | exact ⟨ra, mm, rc, rfl, HRo.out⟩
        | exact ⟨ra, mm, ⟨rc, rfl⟩, HRo.out⟩
end Go.Proofs.Ytmcihaihbnnblab.V

namespace Go.Proofs.Ytmcihaihbnnblab.V
set_option maxRecDepth 100000
open Go.RowKit
/-- The cells of the first k elements. -/
def elvs (R F : List (List Int)) (k : Nat) : List Value := ((List.range k).map fun i => elV (M.sq7 R F i)).flatten
theorem elvs_next (R F : List (List Int)) (k : Nat) : elvs R F (k + 1) = elvs R F k ++ elV (M.sq7 R F k) := by simp [elvs, List.range_succ]
theorem elvs_one (R F : List (List Int)) : elvs R F 1 = elV F := by simp [elvs, M.sq7]
theorem elvs_len (R F : List (List Int)) : ∀ k, (elvs R F k).length = k * 101
  | 0 => rfl
  | k + 1 => by rw [elvs_next, List.length_append, elvs_len R F k, elV_len]; omega
theorem elvs_at (R F : List (List Int)) (i t : Nat) (ht : t < 101) : ∀ k, i < k → (elvs R F k)[i * 101 + t]? = (elV (M.sq7 R F i))[t]?
  | 0, h => by omega
  | k + 1, h => by
    rw [elvs_next]
    by_cases e : i < k
    · rw [List.getElem?_append_left (by rw [elvs_len]; omega)]
      exact elvs_at R F i t ht k e
    · obtain rfl : i = k := by omega
      rw [List.getElem?_append_right (by rw [elvs_len]; omega), elvs_len]
      congr 1
      omega
theorem heap_lt {w : World} {r : Nat} {o : Obj} (h : w.heap[r]? = some o) : r < w.heap.size := (Array.getElem?_eq_some_iff.1 h).1
theorem ownE_keep {w w' : World} {B : Nat} {T : TypeId} {s : Nat} {v : Value} {n : Nat} {xs : List Value} (h : w.ownsRow B T s v n xs) (hk : ∀ k, v.ownBlock = some k → w'.heap[k]? = w.heap[k]?) : w'.ownsRow B T s v n xs := by
  obtain ⟨h1, h2⟩ := h
  refine ⟨h1, ?_⟩
  rcases h2 with h2 | ⟨g, cap, cur, hv, hg, hh, r⟩
  · exact .inl h2
  · exact .inr ⟨g, cap, cur, hv, hg, by rw [hk g (by rw [hv]; rfl)]; exact hh, r⟩
/-- A sequence that has been looked at up to its element k. -/
def IsSeq (w0 w : World) (p : Nat) (a : Option Addr) (n cap : Nat) (R F : List (List Int)) (k : Nat) (G : Option (Nat × Obj)) : Prop :=
  Below w0.heap.size w0 w ∧ w0.heap.size ≤ p ∧ ∃ b1 c1 g2 c2, w.rowIs p 88 3 (serF (.slice a n cap) (.slice b1 n c1) (.slice (some ⟨g2, 0, none⟩) (k + 1) c2)) ∧
    OwnP w w0.heap.size (fun q => q ≠ p) (.slice b1 n c1) (M.sq7 R F k) ∧ g2 ≠ p ∧ w.ownsRow w0.heap.size 85 101 (.slice (some ⟨g2, 0, none⟩) (k + 1) c2) (k + 1) (elvs R F (k + 1)) ∧ ∀ r o, G = some (r, o) → r ≠ g2 ∧ r ≠ p ∧ w.heap[r]? = some o
theorem IsSeq.keep {w0 w w' : World} {p n cap k : Nat} {a : Option Addr} {R F : List (List Int)} {G : Option (Nat × Obj)} (h : IsSeq w0 w p a n cap R F k G) (hb : Below w.heap.size w w') : IsSeq w0 w' p a n cap R F k G := by
  obtain ⟨h1, h2, b1, c1, b2, c2, h3, h4, h5, h6, h7⟩ := h
  exact ⟨h1.trans (hb.mono h1.size), h2, b1, c1, b2, c2, World.rowIs.of_block h3 (hb.block p (World.rowIs.lt h3)), h4.below hb, h5, ownE_keep h6 fun j hj => hb.block j (World.ownsRow.lt h6 j hj).2, fun r o e => ⟨(h7 r o e).1, (h7 r o e).2.1, (hb.block r (heap_lt (h7 r o e).2.2)).trans (h7 r o e).2.2⟩⟩
theorem infoEb : (Try.prog.info? 85).map (fun i => (i.zero, i.size, i.bytes)) = some (some (.agg zE), 101, 808) := by kernel_rfl
/-- A guest comes. -/
theorem IsSeq.guest {w0 w w' : World} {p n cap k : Nat} {a : Option Addr} {R F : List (List Int)} {o : Obj} (h : IsSeq w0 w p a n cap R F k none) : IsSeq w0 (w.alloc o) p a n cap R F k (some (w.heap.size, o)) := by
  have hb : Below w.heap.size w (w.alloc o) := b_alloc _ _
  obtain ⟨h1, h2, b1, c1, b2, c2, h3, h4, h5, h6, h7⟩ := h.keep hb
  obtain ⟨-, -, b1', c1', b2', c2', k3, -, -, k6, -⟩ := h
  refine ⟨h1, h2, b1, c1, b2, c2, h3, h4, h5, h6, fun r o' e => ?_⟩
  have er : r = w.heap.size := by cases e; rfl
  have eo : o' = o := by cases e; rfl
  subst er
  clear e
  have e1 := World.rowIs.cell h3 (i := 2) (by omega)
  have e2 := World.rowIs.cell (World.rowIs.of_block (w' := w.alloc o) k3 (hb.block p (World.rowIs.lt k3))) (i := 2) (by omega)
  rw [e1] at e2
  have e3 : b2 = b2' := by
    have : (Value.slice (some ⟨b2, 0, none⟩) (k + 1) c2) = (Value.slice (some ⟨b2', 0, none⟩) (k + 1) c2') := Option.some.inj e2
    simpa using (Value.slice.inj this).1
  have := (World.ownsRow.lt k6 b2' rfl).2
  have := World.rowIs.lt k3
  exact ⟨by omega, by omega, by rw [eo]; exact heap_alloc_last _ _⟩
/-- An element is appended, at a step of a region. -/
theorem step_appendE (w : World) {ops : Array Oper} {o : Oper} {a : Act} {K : Act → World → Prop} {Q : Exit → Act → World → Prop} {E : Prop} (hgd : o.guard = none) (s x : Operand)
    (ho : o.op = .call { callee := .builtin .append, args := #[s, x], argTypes := #[86, 86] }) (B : Nat) (v : Value) (xs ys : List Value) (n g : Nat) (hs : a.eval s = v) (hown : w.ownsRow B 85 101 v n xs)
    (hx : a.eval x = .slice (some ⟨g, 0, none⟩) 1 1) (hy : w.heap[g]? = some (.cells ys.toArray 85 (0, 0))) (hyl : ys.length = 101) (hy1 : ∀ u ∈ ys, u.oneCell' = true) (hlen : n ≤ 1000) (hB : B ≤ w.heap.size)
    (h : ∀ g' c' w', w'.ownsRow B 85 101 (.slice (some ⟨g', 0, none⟩) (n + 1) c') (n + 1) (xs ++ ys) → Below B w w' → (∀ k, k < w.heap.size → v.ownBlock ≠ some k → w'.heap[k]? = w.heap[k]?) → (v.ownBlock = some g' ∨ g' = w.heap.size) → K (a.put o.dst (.slice (some ⟨g', 0, none⟩) (n + 1) c')) w') :
    if Region.wanted o (yielded ops a.tmps) = true then Oper.wp Try.prog o a w K Q else E := by
  obtain ⟨i0, hi, hz0, hz1, hz2⟩ := info_parts infoEb
  refine step_append_lies w hgd s x 86 ho B 85 i0 (.agg zE) 101 808 Try.underlying86 hi hz0 hz1 hz2 zE_size (by decide) v n xs hs hown ⟨g, 0, none⟩ 1 1 ys hx (by rw [hyl]) ?c1 hy1 (by decide) ?c3 ?c4 hB w.heap.size rfl ?_
  case c1 =>
    intro j u hu
    exact World.news_of_block hy j u (by simpa using hu)
  case c3 => unfold maxLen; omega
  case c4 => omega
  · intro g' cap' w' hown' hgrow hat hlt
    have hg : ∀ k, k < w.heap.size → v.ownBlock ≠ some k → w'.heap[k]? = w.heap[k]? := fun k hk hne => by
      obtain ⟨_, _, _, _, g5⟩ := hgrow
      exact g5 k hk (fun e => hne e.symm)
    exact h g' cap' w' hown' ((Below.refl B w).grown hgrow hB (fun k hk => (World.ownsRow.lt hown k hk).1)) hg hat
theorem elV_one {X : List (List Int)} : ∀ v ∈ elV X, v.oneCell' = true := fun v hv => by
  unfold elV at hv
  rcases List.mem_append.1 hv with h | h
  · obtain ⟨t, -, rfl⟩ := List.mem_map.1 h; rfl
  · rw [List.mem_singleton.1 h]; rfl
theorem fold_zip_at (i : Nat) : ∀ (l : List Value) (k : Nat) (A : Array Value), A.size = k + l.length → ((l.zipIdx k).foldl (fun cs x => cs.setIfInBounds x.2 x.1) A)[i]? = if i < k then A[i]? else l[i - k]?
  | [], k, A, h => by
    show A[i]? = _
    by_cases e : i < k
    · rw [if_pos e]
    · rw [if_neg e, Array.getElem?_eq_none (by simp at h; omega)]; rfl
  | x :: l, k, A, h => by
    simp only [List.length_cons] at h
    rw [List.zipIdx_cons, List.foldl_cons, fold_zip_at i l (k + 1) _ (by rw [Array.size_setIfInBounds]; omega), Array.getElem?_setIfInBounds]
    by_cases e : i < k
    · rw [if_pos e, if_pos (by omega), if_neg (by show ¬ k = i; omega)]
    · rw [if_neg e]
      by_cases q : i = k
      · subst q
        rw [if_pos (by omega), if_pos rfl, if_pos (by show i < A.size; omega)]
        simp
      · rw [if_neg (by omega), show i - k = (i - (k + 1)) + 1 by omega, List.getElem?_cons_succ]
theorem fold_zip (l : List Value) (A : Array Value) (h : A.size = l.length) : (l.zipIdx).foldl (fun cs x => cs.setIfInBounds x.2 x.1) A = l.toArray := by
  apply Array.ext_getElem?
  intro i
  rw [fold_zip_at i l 0 A (by omega), if_neg (by omega)]
  simp
theorem size_lit101 {A : Array Value} {F : List (List Int)} (h : A.size = 101) : A.size = (elV F).length := by rw [h, elV_len]
set_option maxRecDepth 100000 in
set_option maxHeartbeats 1000000 in
theorem sequenceFrom (w0 : World) (a : Option Addr) (n cap L : Nat) (R F : List (List Int)) (b : Option Addr) (c : Nat) (w : World) (hb0 : Below w0.heap.size w0 w) (hF : OwnM w w0.heap.size (.slice b n c) F) (hr : Rect F n L) (n1 : 1 ≤ n) (n2 : n ≤ 10) (l1 : 1 ≤ L) (l2 : L ≤ 10) (hv : ∀ i j, i < n → j < L → M.isVal (M.ent F i j) = true) :
    Calls Try.prog 88 #[.slice a n cap, .slice b n c] w fun e w' => ∃ p, e = .returned (.pointer (some ⟨p, 0, none⟩)) ∧ IsSeq w0 w' p a n cap R F 0 none := by
  have HB0 := Lib.hid hb0
  have HF := Lib.hid hF
  have hz0 := hb0.size
  have HR := Lib.hid hr
  have HV := Lib.hid hv
  clear hb0 hF hr hv
  go_enter Try.func88, Try.ntmps88
  go_wp2_with fail
  refine (elementOf _ _ _ L F _ HF.out.mat HR.out n1 n2 l1 l2 HV.out).mono ?_
  rintro e w1 ⟨rfl, hb⟩
  have HF1 := Lib.hid (HF.out.below hb)
  have HB1 := Lib.hid (HB0.out.trans (hb.mono hz0))
  have hz1 := hb.size
  clear hb HF
  obtain ⟨hz, hs⟩ := zero_of_info infoE
  have hel : (elV F).length = 101 := elV_len F
  go_wp2
  rw [fold_zip _ _ (size_lit101 rfl)]
  go_ret
  refine ⟨w1.heap.size + 1, by simp, ?_⟩
  have hA : Below w1.heap.size w1 (w1.alloc (.cells (elV F).toArray 85)) := b_alloc _ _
  have hz : (w1.alloc (.cells (elV F).toArray 85)).heap.size = w1.heap.size + 1 := by simp
  have hLi : (w1.alloc (.cells (elV F).toArray 85)).ownsRow w0.heap.size 85 101 (.slice (some ⟨w1.heap.size, 0, none⟩) 1 1) 1 (elvs R F 1) := by
    rw [elvs_one]
    refine ⟨by rw [elV_len], .inr ⟨w1.heap.size, 1, (elV F).toArray, rfl, by omega, heap_alloc_last _ _, Nat.le_refl _, by unfold maxLen; omega, by simp [elV_len], ?_⟩⟩
    exact List.take_of_length_le (by simp [elV_len])
  have hFi := HF1.out.below hA
  have hBi := HB1.out.trans (hA.mono (Nat.le_trans hz0 hz1))
  generalize w1.alloc (.cells (elV F).toArray 85) = wa at *
  have hA2 : ∀ o, Below wa.heap.size wa (wa.alloc o) := fun o => b_alloc _ _
  refine ⟨hBi.trans ((hA2 _).mono (by omega)), by omega, b, c, w1.heap.size, 1, ?_, OwnP.below (hFi.toP fun k _ hk => by omega) (hA2 _), by omega, World.ownsRow.alloc hLi _, fun r o e => by cases e⟩
  have := World.rowIs_alloc wa #[.slice a n cap, .slice b n c, .slice (some ⟨w1.heap.size, 0, none⟩) 1 1] 88 (serF (.slice a n cap) (.slice b n c) (.slice (some ⟨w1.heap.size, 0, none⟩) 1 1)) (fun i hi => by
    have hi : i < 3 := hi
    match i, hi with
    | 0, _ => rfl
    | 1, _ => rfl
    | 2, _ => rfl)
  rw [hz] at this
  exact this
end Go.Proofs.Ytmcihaihbnnblab.V
