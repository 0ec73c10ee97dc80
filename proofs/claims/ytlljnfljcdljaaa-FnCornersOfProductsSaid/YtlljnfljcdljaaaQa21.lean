/- Texts laid together: Plk. -/
import Derived.Test.YtlljnfljcdljaaaQa17
import Derived.Test.YtlljnfljcdljaaaQa7
set_option linter.unusedSimpArgs false
set_option linter.unusedVariables false
set_option linter.unusedSectionVars false
namespace Go.Proofs.Ytlljnfljcdljaaa
namespace M
theorem cornK_len (c : List Int) (k : Nat) : (cornK c k).length = k := by simp [cornK]
theorem cornK_succ (c : List Int) (k : Nat) : cornK c (k + 1) = cornK c k ++ [cornAt c k] := by simp [cornK, List.range_succ]
theorem cornOk_t {c : List Int} (h : cornOk c = true) {j : Nat} (hj : j + 1 < (tL c).length) : isRat (cornAt c j).1 (cornAt c j).2.1 = true := by
  unfold cornOk at h
  rw [List.all_eq_true] at h
  exact h j (by simp; omega)
theorem cornOk_f {c : List Int} {j : Nat} (hj : j + 1 < (tL c).length) (h : isRat (cornAt c j).1 (cornAt c j).2.1 = false) : cornOk c = false := by
  rcases e : cornOk c with _ | _
  · rfl
  · rw [cornOk_t e hj] at h; cases h
theorem cornOk_all {c : List Int} (h : ∀ j, j + 1 < (tL c).length → isRat (cornAt c j).1 (cornAt c j).2.1 = true) : cornOk c = true := by
  unfold cornOk
  rw [List.all_eq_true]
  intro j hj
  exact h j (by simp at hj; omega)
theorem cornRes_len (c : List Int) : (cornRes c).1.length ≤ 12 := by
  unfold cornRes
  cases h : isPoly c with
  | false => simp
  | true =>
    have := (isPoly_t h).2.1
    have := tL_len c
    cases h2 : cornOk c with
    | false => simp
    | true => simp [cornK_len]; omega
end M
namespace V
set_option maxRecDepth 100000
open Go.RowKit
/-- Three cells a corner. -/
def ccells (l : List (Int × Int × Int)) : List Value := l.flatMap fun p => [.int .i64 p.1, .int .i64 p.2.1, .int .i64 p.2.2]
theorem ccells_len (l : List (Int × Int × Int)) : (ccells l).length = l.length * 3 := by
  induction l with
  | nil => rfl
  | cons p l ih => show (Value.int .i64 p.1 :: Value.int .i64 p.2.1 :: Value.int .i64 p.2.2 :: ccells l).length = _; simp [ih]; omega
theorem ccells_snoc (l : List (Int × Int × Int)) (p : Int × Int × Int) : ccells (l ++ [p]) = ccells l ++ [.int .i64 p.1, .int .i64 p.2.1, .int .i64 p.2.2] := by
  unfold ccells; rw [List.flatMap_append, List.flatMap_singleton]
theorem ccells_at (l : List (Int × Int × Int)) : ∀ i, i < l.length → (ccells l)[3 * i]? = some (.int .i64 (l.getD i (0, 0, 0)).1) ∧ (ccells l)[3 * i + 1]? = some (.int .i64 (l.getD i (0, 0, 0)).2.1) ∧ (ccells l)[3 * i + 2]? = some (.int .i64 (l.getD i (0, 0, 0)).2.2) := by
  induction l with
  | nil => intro i hi; exact absurd hi (by simp)
  | cons p l ih =>
    intro i hi
    have e : ccells (p :: l) = .int .i64 p.1 :: .int .i64 p.2.1 :: .int .i64 p.2.2 :: ccells l := rfl
    cases i with
    | zero => rw [e]; exact ⟨rfl, rfl, rfl⟩
    | succ i =>
      obtain ⟨h1, h2, h3⟩ := ih i (by simpa using hi)
      rw [e, show 3 * (i + 1) = 3 * i + 1 + 1 + 1 by omega]
      simp only [List.getElem?_cons_succ, List.getD_cons_succ]
      exact ⟨h1, h2, h3⟩
/-- A slice that the call owns, in blocks from B on, holding the corners l. -/
def OwnC (w : World) (B : Nat) (v : Value) (l : List (Int × Int × Int)) : Prop := w.ownsRow B 45 3 v l.length (ccells l)
theorem OwnC.lt {w : World} {B : Nat} {v : Value} {l : List (Int × Int × Int)} (h : OwnC w B v l) {k : Nat} (hk : v.ownBlock = some k) : B ≤ k ∧ k < w.heap.size := World.ownsRow.lt h k hk
theorem OwnC.keep {w w' : World} {B : Nat} {v : Value} {l : List (Int × Int × Int)} (h : OwnC w B v l) (hk : ∀ k, B ≤ k → k < w.heap.size → w'.heap[k]? = w.heap[k]?) : OwnC w' B v l := by
  have h' := h
  obtain ⟨h1, h2⟩ := h
  refine ⟨h1, ?_⟩
  rcases h2 with h2 | ⟨g, cap, cur, hv, hg, hh, r⟩
  · exact .inl h2
  · obtain ⟨q1, q2⟩ := OwnC.lt h' (k := g) (by subst hv; rfl)
    exact .inr ⟨g, cap, cur, hv, hg, by rw [hk g q1 q2]; exact hh, r⟩
theorem OwnC.below {w w' : World} {B : Nat} {v : Value} {l : List (Int × Int × Int)} (h : OwnC w B v l) (hb : Below w.heap.size w w') : OwnC w' B v l :=
  h.keep (fun k _ h2 => hb.block k h2)
theorem OwnC.mono {w : World} {B B' : Nat} {v : Value} {l : List (Int × Int × Int)} (h : OwnC w B v l) (hb : B' ≤ B) : OwnC w B' v l := World.ownsRow.mono h hb
theorem OwnC.form {w : World} {B : Nat} {v : Value} {l : List (Int × Int × Int)} (h : OwnC w B v l) : ∃ a cap, v = .slice a l.length cap ∧ l.length ≤ cap ∧ cap ≤ maxLen ∧ (0 < l.length → ∃ g, a = some ⟨g, 0, none⟩ ∧ B ≤ g ∧ g < w.heap.size) := by
  have h' := h
  obtain ⟨h1, h2⟩ := h
  rcases h2 with ⟨hv, h0⟩ | ⟨g, cap, cur, hv, hg, hh, hn, hc, r⟩
  · rw [h0]; exact ⟨none, 0, hv, Nat.le_refl _, Nat.zero_le _, fun h => by omega⟩
  · subst hv
    exact ⟨_, cap, rfl, hn, hc, fun _ => ⟨g, rfl, hg, (OwnC.lt h' rfl).2⟩⟩
theorem OwnC.len {w : World} {B n cap : Nat} {a : Option Addr} {l : List (Int × Int × Int)} (h : OwnC w B (.slice a n cap) l) : n = l.length := by
  obtain ⟨a', c, hv, _⟩ := h.form
  injection hv
theorem ownC_nil (w : World) (B : Nat) : OwnC w B (.slice none 0 0) [] := World.ownsRow_nil w B _ 3
theorem OwnC.at {w : World} {B n cap : Nat} {a : Option Addr} {l : List (Int × Int × Int)} (h : OwnC w B (.slice a n cap) l) (hn : 0 < n) : ∃ g, a = some ⟨g, 0, none⟩ ∧ B ≤ g ∧ g < w.heap.size ∧ ∀ i, i < n → w.cell? ⟨g, 3 * i, none⟩ = some (.int .i64 (l.getD i (0, 0, 0)).1) ∧ w.cell? ⟨g, 3 * i + 1, none⟩ = some (.int .i64 (l.getD i (0, 0, 0)).2.1) ∧ w.cell? ⟨g, 3 * i + 2, none⟩ = some (.int .i64 (l.getD i (0, 0, 0)).2.2) := by
  have e := h.len
  obtain ⟨a', c', hv, _, _, hg⟩ := h.form
  injection hv with e1 e2 e3
  subst e1
  obtain ⟨g, rfl, g1, g2⟩ := hg (by omega)
  refine ⟨g, rfl, g1, g2, fun i hi => ?_⟩
  have hc := World.ownsRow.cells h (g := g) rfl
  obtain ⟨r1, r2, r3⟩ := ccells_at l i (by omega)
  have c1 := hc _ _ r1
  have c2 := hc _ _ r2
  have c3 := hc _ _ r3
  have a1 : (⟨g, 0, none⟩ : Addr).add (3 * i) = ⟨g, 3 * i, none⟩ := by unfold Addr.add; split <;> simp_all
  have a2 : (⟨g, 0, none⟩ : Addr).add (3 * i + 1) = ⟨g, 3 * i + 1, none⟩ := by unfold Addr.add; split <;> simp_all
  have a3 : (⟨g, 0, none⟩ : Addr).add (3 * i + 2) = ⟨g, 3 * i + 2, none⟩ := by unfold Addr.add; split <;> simp_all
  rw [a1] at c1
  rw [a2] at c2
  rw [a3] at c3
  exact ⟨c1, c2, c3⟩
theorem ownC_lit0 (w : World) (B : Nat) (hB : B ≤ w.heap.size) : OwnC (w.alloc (.cells #[] 45)) B (.slice (some ⟨w.heap.size, 0, none⟩) 0 0) [] :=
  World.ownsRow_lit w #[] 0 hB (by decide) rfl
theorem appendC (w : World) {ops : Array Oper} {rest : List Oper} {o : Oper} {a : Act} {Q : Exit → Act → World → Prop} (hgd : o.guard = none) (s x : Operand)
    (ho : o.op = .call { callee := .builtin .append, args := #[s, x], argTypes := #[39, 39] }) (B : Nat) (v : Value) (l : List (Int × Int × Int)) (p : Int × Int × Int) (n g : Nat) (hn : l.length = n) (hs : a.eval s = v) (hown : OwnC w B v l)
    (hx : a.eval x = .slice (some ⟨g, 0, none⟩) 1 1) (hy1 : w.cell? ⟨g, 0, none⟩ = some (.int .i64 p.1)) (hy2 : w.cell? ⟨g, 1, none⟩ = some (.int .i64 p.2.1)) (hy3 : w.cell? ⟨g, 2, none⟩ = some (.int .i64 p.2.2)) (hlen : l.length ≤ 2000000) (hB : B ≤ w.heap.size)
    (h : ∀ b' c' w', OwnC w' B (.slice b' (n + 1) c') (l ++ [p]) → Below B w w' → wpList Try.prog ops Q rest (a.put o.dst (.slice b' (n + 1) c')) w') :
    wpList Try.prog ops Q (o :: rest) a w := by
  subst hn
  obtain ⟨i0, hi, hz0, hz1, hz2⟩ := info_parts infoC
  refine wpList_append_own_at (w := w) hgd s x 39 ho B 45 i0 (cV 0 0 0) 3 24 Try.underlying39 hi hz0 hz1 hz2 rfl (by decide) v _ _ hs hown ⟨g, 0, none⟩ 1 1 [.int .i64 p.1, .int .i64 p.2.1, .int .i64 p.2.2] hx rfl ?c1 ?c2 ?c3 ?c4 hB ?_
  case c1 =>
    intro j u hj
    match j, hj with
    | 0, hj => simp at hj; subst hj; exact hy1
    | 1, hj => simp at hj; subst hj; exact hy2
    | 2, hj => simp at hj; subst hj; exact hy3
    | j + 3, hj => simp at hj
  case c2 => intro u hu; simp at hu; rcases hu with rfl | rfl | rfl <;> rfl
  case c3 => unfold maxLen; omega
  case c4 => omega
  · intro v' w' hown' hgrow hz hvb
    have ho' : OwnC w' B v' (l ++ [p]) := by
      show w'.ownsRow B _ 3 v' (l ++ [p]).length (ccells (l ++ [p]))
      rw [ccells_snoc]
      simpa using hown'
    obtain ⟨b', c', hv', _⟩ := ho'.form
    rw [show (l ++ [p]).length = l.length + 1 by simp] at hv'
    subst hv'
    exact h b' c' w' ho' ((Below.refl B w).grown hgrow hB (fun k hk => (OwnC.lt hown hk).1))
/-- What the corners' functions answer. -/
def CRes (r : List (Int × Int × Int) × Int) (w : World) (e : Ending) (w' : World) : Prop :=
  ∃ a n cap, e = .returned (.tuple #[.slice a n cap, .int .i64 r.2]) ∧ OwnC w' w.heap.size (.slice a n cap) r.1 ∧ Below w.heap.size w w'
theorem CRes.nil {r : List (Int × Int × Int) × Int} {c : Int} {w w' : World} (hr : r = ([], c)) (hb : Below w.heap.size w w') : CRes r w (.returned (.tuple #[.slice none 0 0, .int .i64 c])) w' := by
  subst hr
  exact ⟨none, 0, 0, rfl, ownC_nil _ _, hb⟩
/-- The part behind the first element. -/
theorem tailInts {w : World} {B g L c : Nat} {T : List Nat} (h : Own w B (.slice (some ⟨g, 0, none⟩) L c) (M.iL T)) : ∀ j, j < L → w.cell? ⟨g, j, none⟩ = some (.int .i64 (T.getD j 0 : Nat)) := by
  intro j hj
  have hl := h.len
  rw [M.iL_len] at hl
  have := h.cellAt j hj
  rw [M.iL_get (by omega)] at this
  exact this
set_option maxRecDepth 100000 in
set_option maxHeartbeats 4000000 in
theorem cornersOf (a : Option Addr) (n cap : Nat) (l : List Int) (w : World) (h : Ints .i64 w a n l) :
    Calls Try.prog 30 #[.slice a n cap] w (CRes (M.cornRes l) w) := by
  have HI := Lib.hid h
  obtain ⟨v1, hv1⟩ : ∃ v, v = M.isPoly l := ⟨_, rfl⟩
  have HV1 := Lib.hid hv1.symm
  cases v1 with
  | false =>
    have HE : Hid (M.cornRes l = ([], 1)) := by show _ = _; unfold M.cornRes; rw [← hv1]; rfl
    clear h hv1
    go_enter Try.func30, Try.ntmps30
    go_wp2_with fail
    refine (isPolynomial_b _ _ _ l _ false HV1.out HI.out).mono ?_
    rintro e w' ⟨rfl, rfl⟩
    go_wp2
    go_ret2
    exact CRes.nil HE.out (Below.refl _ _)
  | true =>
    have HE1 : Hid (M.cornOk l = true → M.cornRes l = (M.cornK l ((M.tL l).length - 1), 0)) := fun e => by unfold M.cornRes; rw [← hv1, e]; rfl
    have HE2 : Hid (M.cornOk l = false → M.cornRes l = ([], 3)) := fun e => by unfold M.cornRes; rw [← hv1, e]; rfl
    obtain ⟨-, p2, p3, -⟩ := M.isPoly_t hv1.symm
    rw [h.1] at p2
    have HV : Hid (∀ i, i < n → M.isVal (l.getD i 0) = true) := fun i hi => p3 i (by rw [h.1]; exact hi)
    have HP := Lib.hid (M.tL_pos hv1.symm)
    have HF : Hid (∀ j, j < (M.tL l).length → -1000000 ≤ l.getD ((M.tL l).getD j 0) 0 ∧ l.getD ((M.tL l).getD j 0) 0 ≤ 1000000) := fun j hj => M.tL_fin hv1.symm hj
    have HTlt : Hid (∀ j, j < (M.tL l).length → (M.tL l).getD j 0 < n) := fun j hj => by have := M.tL_lt (c := l) hj; rw [h.1] at this; exact this
    have HL12 : Hid ((M.tL l).length ≤ 12) := by show _ ≤ _; have := M.tL_len l; rw [h.1] at this; omega
    have HIn : Hid (∀ i j, i < j → j < (M.tL l).length → (M.tL l).getD i 0 < (M.tL l).getD j 0) := fun i j hij hj => M.tL_inc hij hj
    have HCA : Hid (∀ j, M.cornAt l j = (M.ratN (l.getD ((M.tL l).getD j 0) 0 - l.getD ((M.tL l).getD (j + 1) 0) 0) (((M.tL l).getD (j + 1) 0 : Int) - ((M.tL l).getD j 0 : Int)), M.ratD (l.getD ((M.tL l).getD j 0) 0 - l.getD ((M.tL l).getD (j + 1) 0) 0) (((M.tL l).getD (j + 1) 0 : Int) - ((M.tL l).getD j 0 : Int)), ((M.tL l).getD (j + 1) 0 : Int) - ((M.tL l).getD j 0 : Int))) := fun j => rfl
    have HOkA : Hid ((∀ j, j + 1 < (M.tL l).length → M.isRat (M.cornAt l j).1 (M.cornAt l j).2.1 = true) → M.cornOk l = true) := M.cornOk_all
    have HOkF : Hid (∀ j, j + 1 < (M.tL l).length → M.isRat (M.cornAt l j).1 (M.cornAt l j).2.1 = false → M.cornOk l = false) := fun j hj e => M.cornOk_f hj e
    clear h hv1 p3
    go_enter Try.func30, Try.ntmps30
    go_wp2_with fail
    refine (isPolynomial_b _ _ _ l _ true HV1.out HI.out).mono ?_
    rintro e w' ⟨rfl, rfl⟩
    go_wp2_with fail
    refine (essentialTerms _ _ _ l _ HI.out p2 HV.out).mono ?_
    rintro e w1 ⟨b1, c1, rfl, ho, hb⟩
    have HO := Lib.hid ho
    have HB := Lib.hid hb
    clear ho hb
    generalize M.tL l = T at *
    obtain ⟨L, hL⟩ : ∃ L, T.length = L + 1 := ⟨T.length - 1, by have := HP.out; omega⟩
    rw [hL] at HO HF HTlt HL12 HIn HE1 HOkA HOkF ⊢
    have hLc : L + 1 ≤ c1 := by
      obtain ⟨a', c', hv, h1, -⟩ := own_form HO.out
      injection hv with e1 e2 e3
      rw [M.iL_len, hL] at h1
      omega
    obtain ⟨g, rfl, hg1, hg2⟩ := own_addr HO.out (by omega)
    have HTc := Lib.hid (tailInts HO.out)
    have hx1 : (1 : Int) ≤ ((L + 1 : Nat) : Int) := by omega
    have hx2 : (((L + 1 : Nat) : Int) - 1) = (L : Int) := by omega
    have hx3 : L + 1 - 1 = L := by omega
    clear HP
    by_cases hc1 : c1 = 1
    · obtain rfl : L = 0 := by omega
      subst hc1
      have HE : Hid (M.cornRes l = ([], 0)) := HE1.out (HOkA.out (fun j hj => by omega))
      go_wp2
      go_loopw [4, 17] (fun ov iv wr => iv = .int .i64 0 ∧ ov = .slice none 0 0 ∧ Hid (Below w.heap.size w wr)) (fun _ _ _ => 0)
      case atStart => exact ⟨rfl, rfl, HB.out⟩
      case round =>
        obtain ⟨rfl, rfl, HBk⟩ := hrel
        go_wp2
        go_ret2
        exact CRes.nil HE.out HBk.out
    have HT0 : Hid (∀ W, Below w1.heap.size w1 W → ∀ j, j < L + 1 → W.cell? ⟨g, j, none⟩ = some (.int .i64 (T.getD j 0 : Nat))) := fun W hW j hj => ck (HTc.out j hj) hW
    clear HTc HO
    go_wp2
    go_loopw [4, 17] (fun ov iv wr => ∃ (k : Nat) (b : Option Addr) (c : Nat), k ≤ L ∧ iv = .int .i64 k ∧ ov = .slice b k c ∧ Hid (∀ j, j < k → M.isRat (M.cornAt l j).1 (M.cornAt l j).2.1 = true) ∧ Hid (OwnC wr w1.heap.size (.slice b k c) (M.cornK l k)) ∧ Hid (Below w1.heap.size w1 wr)) (fun _ iv _ => L - (intOf iv).toNat)
    case atStart => exact ⟨0, none, 0, Nat.zero_le _, rfl, rfl, fun j hj => absurd hj (Nat.not_lt_zero _), ownC_nil _ _, Below.refl _ _⟩
    case round =>
      obtain ⟨k, b, c, hk, rfl, rfl, HRk, HOC, HBk⟩ := hrel
      obtain ⟨wo, rfl⟩ : ∃ y, y = wr := ⟨_, rfl⟩
      by_cases hlt : k < L
      · have hki : (k : Int) < (L : Int) := by omega
        have hki1 : (k : Int) < ((L + 1 : Nat) : Int) := by omega
        obtain ⟨i, hi⟩ : ∃ i, i = T.getD k 0 := ⟨_, rfl⟩
        obtain ⟨j, hj⟩ : ∃ j, j = T.getD (k + 1) 0 := ⟨_, rfl⟩
        have HCk := HCA.out k
        rw [← hi, ← hj] at HCk
        have hij : i < j := by rw [hi, hj]; exact HIn.out k (k + 1) (by omega) (by omega)
        have hjn : j < n := by rw [hj]; exact HTlt.out (k + 1) (by omega)
        have hfi := HF.out k (by omega)
        have hfj := HF.out (k + 1) (by omega)
        rw [← hi] at hfi
        rw [← hj] at hfj
        obtain ⟨hfi1, hfi2⟩ := hfi
        obtain ⟨hfj1, hfj2⟩ := hfj
        have hci : wo.cell? ⟨g, k, none⟩ = some (.int .i64 i) := by rw [hi]; exact HT0.out _ HBk.out k (by omega)
        have hcj : wo.cell? ⟨g, 1 + k, none⟩ = some (.int .i64 j) := by rw [hj, Nat.add_comm]; exact HT0.out _ HBk.out (k + 1) (by omega)
        have HCB : Hid (∀ W, Below w1.heap.size w1 W → Calls Try.prog 71 #[.slice a n cap, .int .i64 i, .int .i64 j] W fun e w' => e = .returned (cV (M.ratN (l.getD i 0 - l.getD j 0) ((j : Int) - i)) (M.ratD (l.getD i 0 - l.getD j 0) ((j : Int) - i)) ((j : Int) - i)) ∧ Below W.heap.size W w') := fun W hW => cornerBetween a n cap l i j W (HI.out.below (bnext HB.out hW)) p2 hij hjn hfi1 hfi2 hfj1 hfj2
        have HIJ : Hid (M.cornAt l k = (M.ratN (l.getD i 0 - l.getD j 0) ((j : Int) - i), M.ratD (l.getD i 0 - l.getD j 0) ((j : Int) - i), (j : Int) - i)) := HCk
        clear hi hj HCk hfi1 hfi2 hfj1 hfj2
        generalize M.ratN (l.getD i 0 - l.getD j 0) ((j : Int) - i) = N1 at *
        generalize M.ratD (l.getD i 0 - l.getD j 0) ((j : Int) - i) = D1 at *
        generalize hT1 : (j : Int) - i = T1 at *
        clear hT1
        go_wp2_with fail
        refine (HCB.out _ HBk.out).mono ?_
        rintro e w2 ⟨rfl, hb2⟩
        have HB2 := Lib.hid (bnext HBk.out hb2)
        obtain ⟨rk, hrk⟩ : ∃ r, r = M.isRat N1 D1 := ⟨_, rfl⟩
        have HRt := Lib.hid hrk.symm
        have HOC2 := Lib.hid (HOC.out.below hb2)
        clear hb2 hrk hci hcj
        cases rk with
        | false =>
          have HE : Hid (M.cornRes l = ([], 3)) := HE2.out (HOkF.out k (by omega) (by rw [HIJ.out]; exact HRt.out))
          go_wp2_with fail
          refine (isRatio_b _ _ false HRt.out _).mono ?_
          rintro e w3 ⟨rfl, hb3⟩
          go_wp2
          go_ret2
          exact CRes.nil HE.out (bnext HB.out (bnext ((HB2.out.alloc HB2.out.size _)) hb3))
        | true =>
          go_wp2_with fail
          refine (isRatio_b _ _ true HRt.out _).mono ?_
          rintro e w3 ⟨rfl, hb3⟩
          obtain ⟨z3, e0, e1, e2, -, -, -⟩ := cnew w2 N1 D1 T1 w3 hb3
          have HB3 : Hid (Below w1.heap.size w1 w3) := bnext ((HB2.out.alloc HB2.out.size _)) hb3
          have HO3 := Lib.hid (HOC2.out.below (bnext (b_alloc _ _) hb3))
          have hkl : (M.cornK l k).length = k := M.cornK_len l k
          have hk12 : k ≤ 12 := by have := HL12.out; omega
          clear hb3 HB2 HOC2 HOC
          generalize w2.heap.size = bx at *
          go_wp2_with (at_builtin; refine appendC (w3.alloc (cObj N1 D1 T1)) rfl (.tmp 33) (.tmp 35) rfl w1.heap.size _ (M.cornK l k) (N1, D1, T1) k w3.heap.size hkl rfl (HO3.out.below (b_alloc _ _)) rfl (by simp [go_sem]) (by simp [go_sem]) (by simp [go_sem]) (by omega) (HB3.out.alloc HB3.out.size _).size ?_)
          intro b4 c4 w4 hO4 hb4
          have HO4 : Hid (OwnC w4 w1.heap.size (.slice b4 (k + 1) c4) (M.cornK l (k + 1))) := by show OwnC _ _ _ _; rw [M.cornK_succ, HIJ.out]; exact hO4
          have HB4 := Lib.hid ((HB3.out.alloc HB3.out.size _).trans hb4)
          have HR4 : Hid (∀ j, j < k + 1 → M.isRat (M.cornAt l j).1 (M.cornAt l j).2.1 = true) := fun j hj => by
            by_cases e : j < k
            · exact HRk.out j e
            · obtain rfl : j = k := by omega
              rw [HIJ.out]; exact HRt.out
          clear hO4 hb4 e0 e1 e2 hkl
          go_wp2
          go_roundw
          case rel => exact ⟨k + 1, b4, c4, by omega, by go_num, rfl, HR4, HO4, HB4⟩
          case measure => simp [intOf]; omega
      · obtain rfl : k = L := by omega
        have HE : Hid (M.cornRes l = (M.cornK l k, 0)) := by
          have := HE1.out (HOkA.out (fun j hj => HRk.out j (by omega)))
          rw [hx3] at this; exact this
        go_wp2
        go_ret2
        rw [HE.out]
        exact ⟨_, _, _, rfl, HOC.out.mono HB.out.size, bnext HB.out HBk.out⟩
theorem freshA9 {w w2 : World} (hb : Below (w.alloc (.cells #[.int .i64 0, .int .i64 0] 43)).drew.heap.size (w.alloc (.cells #[.int .i64 0, .int .i64 0] 43)).drew w2) : w.heap.size < w2.heap.size ∧ w2.cell? ⟨w.heap.size, 0, none⟩ = some (.int .i64 0) ∧ w2.cell? ⟨w.heap.size, 1, none⟩ = some (.int .i64 0) ∧ w2.frozen? ⟨w.heap.size, 0, none⟩ = false ∧ w2.frozen? ⟨w.heap.size, 1, none⟩ = false := by
  have hs := hb.size
  simp at hs
  refine ⟨by omega, ?_, ?_, ?_, ?_⟩
  · rw [hb.cell (p := ⟨w.heap.size, 0, none⟩) (by simp)]; simp [go_sem]
  · rw [hb.cell (p := ⟨w.heap.size, 1, none⟩) (by simp)]; simp [go_sem]
  · rw [hb.frozen (p := ⟨w.heap.size, 0, none⟩) (by simp)]; simp [go_sem]
  · rw [hb.frozen (p := ⟨w.heap.size, 1, none⟩) (by simp)]; simp [go_sem]
theorem freshB9 {w w2 : World} (hb : Below (w.drew.alloc (.cells #[.int .i64 0, .int .i64 0] 43)).heap.size (w.drew.alloc (.cells #[.int .i64 0, .int .i64 0] 43)) w2) : w.heap.size < w2.heap.size ∧ w2.cell? ⟨w.heap.size, 0, none⟩ = some (.int .i64 0) ∧ w2.cell? ⟨w.heap.size, 1, none⟩ = some (.int .i64 0) ∧ w2.frozen? ⟨w.heap.size, 0, none⟩ = false ∧ w2.frozen? ⟨w.heap.size, 1, none⟩ = false := by
  have hs := hb.size
  simp at hs
  refine ⟨by omega, ?_, ?_, ?_, ?_⟩
  · rw [hb.cell (p := ⟨w.heap.size, 0, none⟩) (by simp)]; simp [go_sem]
  · rw [hb.cell (p := ⟨w.heap.size, 1, none⟩) (by simp)]; simp [go_sem]
  · rw [hb.frozen (p := ⟨w.heap.size, 0, none⟩) (by simp)]; simp [go_sem]
  · rw [hb.frozen (p := ⟨w.heap.size, 1, none⟩) (by simp)]; simp [go_sem]
set_option maxRecDepth 100000 in
set_option maxHeartbeats 8000000 in
theorem sCornersOf (a : Option Addr) (n cap : Nat) (l : List Int) (w : World) (h : Ints .i64 w a n l) :
    Calls Try.prog 31 #[.slice a n cap] w (CRes (M.cornRes l) w) := by
  have HI := Lib.hid h
  obtain ⟨v1, hv1⟩ : ∃ v, v = M.isPoly l := ⟨_, rfl⟩
  have HV1 := Lib.hid hv1.symm
  cases v1 with
  | false =>
    have HE : Hid (M.cornRes l = ([], 1)) := by show _ = _; unfold M.cornRes; rw [← hv1]; rfl
    clear h hv1
    go_enter Try.func31, Try.ntmps31
    go_wp2_with fail
    refine (sIsPolynomial_b _ _ _ l _ false HV1.out HI.out).mono ?_
    rintro e w' ⟨rfl, rfl⟩
    go_wp2
    go_ret2
    exact CRes.nil HE.out (Below.refl _ _)
  | true =>
    have HE1 : Hid (M.cornOk l = true → M.cornRes l = (M.cornK l ((M.tL l).length - 1), 0)) := fun e => by unfold M.cornRes; rw [← hv1, e]; rfl
    have HE2 : Hid (M.cornOk l = false → M.cornRes l = ([], 3)) := fun e => by unfold M.cornRes; rw [← hv1, e]; rfl
    obtain ⟨-, p2, p3, -⟩ := M.isPoly_t hv1.symm
    rw [h.1] at p2
    have HV : Hid (∀ i, i < n → M.isVal (l.getD i 0) = true) := fun i hi => p3 i (by rw [h.1]; exact hi)
    have HP := Lib.hid (M.tL_pos hv1.symm)
    have HF : Hid (∀ j, j < (M.tL l).length → -1000000 ≤ l.getD ((M.tL l).getD j 0) 0 ∧ l.getD ((M.tL l).getD j 0) 0 ≤ 1000000) := fun j hj => M.tL_fin hv1.symm hj
    have HTlt : Hid (∀ j, j < (M.tL l).length → (M.tL l).getD j 0 < n) := fun j hj => by have := M.tL_lt (c := l) hj; rw [h.1] at this; exact this
    have HL12 : Hid ((M.tL l).length ≤ 12) := by show _ ≤ _; have := M.tL_len l; rw [h.1] at this; omega
    have HIn : Hid (∀ i j, i < j → j < (M.tL l).length → (M.tL l).getD i 0 < (M.tL l).getD j 0) := fun i j hij hj => M.tL_inc hij hj
    have HCA : Hid (∀ j, M.cornAt l j = (M.ratN (l.getD ((M.tL l).getD j 0) 0 - l.getD ((M.tL l).getD (j + 1) 0) 0) (((M.tL l).getD (j + 1) 0 : Int) - ((M.tL l).getD j 0 : Int)), M.ratD (l.getD ((M.tL l).getD j 0) 0 - l.getD ((M.tL l).getD (j + 1) 0) 0) (((M.tL l).getD (j + 1) 0 : Int) - ((M.tL l).getD j 0 : Int)), ((M.tL l).getD (j + 1) 0 : Int) - ((M.tL l).getD j 0 : Int))) := fun j => rfl
    have HOkA : Hid ((∀ j, j + 1 < (M.tL l).length → M.isRat (M.cornAt l j).1 (M.cornAt l j).2.1 = true) → M.cornOk l = true) := M.cornOk_all
    have HOkF : Hid (∀ j, j + 1 < (M.tL l).length → M.isRat (M.cornAt l j).1 (M.cornAt l j).2.1 = false → M.cornOk l = false) := fun j hj e => M.cornOk_f hj e
    clear h hv1 p3
    go_enter Try.func31, Try.ntmps31
    go_wp2_with fail
    refine (sIsPolynomial_b _ _ _ l _ true HV1.out HI.out).mono ?_
    rintro e w' ⟨rfl, rfl⟩
    go_wp2_with fail
    refine (sTerms9 _ _ _ l _ HI.out p2 HV.out).mono ?_
    rintro e w1 ⟨b1, c1, rfl, ho, hb⟩
    have HO := Lib.hid ho
    have HI2 := Lib.hid (HI.out.below hb)
    have HB := Lib.hid hb
    clear ho hb
    generalize M.tL l = T at *
    obtain ⟨L, hL⟩ : ∃ L, T.length = L + 1 := ⟨T.length - 1, by have := HP.out; omega⟩
    rw [hL] at HO HF HTlt HL12 HIn HE1 HOkA HOkF ⊢
    obtain ⟨g, rfl, hg1, hg2⟩ := own_addr HO.out (by omega)
    have HTc := Lib.hid (tailInts HO.out)
    have hx3 : L + 1 - 1 = L := by omega
    have HT0 : Hid (∀ W, Below w1.heap.size w1 W → ∀ j, j < L + 1 → W.cell? ⟨g, j, none⟩ = some (.int .i64 (T.getD j 0 : Nat))) := fun W hW j hj => ck (HTc.out j hj) hW
    clear HP HTc HO
    go_wp2
    go_loopw [5, 6] (fun ov iv wr => ∃ (k q : Nat) (b : Option Addr) (c : Nat), k ≤ L ∧ iv = .int .i64 q ∧ Hid (q = k + 1) ∧ ov = .slice b k c ∧ Hid (∀ j, j < k → M.isRat (M.cornAt l j).1 (M.cornAt l j).2.1 = true) ∧ Hid (OwnC wr w1.heap.size (.slice b k c) (M.cornK l k)) ∧ Hid (Below w1.heap.size w1 wr)) (fun _ iv _ => L + 1 - (intOf iv).toNat)
    case atStart => exact ⟨0, 1, _, 0, Nat.zero_le _, rfl, rfl, rfl, fun j hj => absurd hj (Nat.not_lt_zero _), ownC_lit0 _ _ (Nat.le_refl _), b_alloc _ _⟩
    case round =>
      obtain ⟨k, q, b, c, hk, rfl, HQ, rfl, HRk, HOC, HBk⟩ := hrel
      obtain ⟨wo, rfl⟩ : ∃ y, y = wr := ⟨_, rfl⟩
      by_cases hlt : k < L
      · have hqL : (q : Int) < ((L + 1 : Nat) : Int) := by have := HQ.out; omega
        have hq12 : q ≤ 12 := by have := HQ.out; have := HL12.out; omega
        have ewq : IntKind.i64.wrap ((q : Int) - 1) = (k : Int) := by rw [IntWalk.i64_in _ (by have := HQ.out; omega)]; have := HQ.out; omega
        have HEq : Hid ((q : Int) - 1 = (k : Int)) := by show _ = _; have := HQ.out; omega
        have hkL : (k : Int) < ((L + 1 : Nat) : Int) := by omega
        obtain ⟨i, hi⟩ : ∃ i, i = T.getD k 0 := ⟨_, rfl⟩
        obtain ⟨j, hj⟩ : ∃ j, j = T.getD (k + 1) 0 := ⟨_, rfl⟩
        have HCk := HCA.out k
        rw [← hi, ← hj] at HCk
        have hij : i < j := by rw [hi, hj]; exact HIn.out k (k + 1) (by omega) (by omega)
        have hjn : j < n := by rw [hj]; exact HTlt.out (k + 1) (by omega)
        have hfi := HF.out k (by omega)
        have hfj := HF.out (k + 1) (by omega)
        rw [← hi] at hfi
        rw [← hj] at hfj
        have hci : wo.cell? ⟨g, k, none⟩ = some (.int .i64 i) := by rw [hi]; exact HT0.out _ HBk.out k (by omega)
        have hcj : wo.cell? ⟨g, q, none⟩ = some (.int .i64 j) := by rw [hj, HQ.out]; exact HT0.out _ HBk.out (k + 1) (by omega)
        obtain ⟨ab, ao, x, rfl, -, hx, hcx⟩ := (HI2.out.below HBk.out).at i (by omega)
        obtain ⟨ab', ao', y, hbb, -, hy, hcy⟩ := (HI2.out.below HBk.out).at j hjn
        injection hbb with hbb
        injection hbb with e1 e2
        subst e1 e2
        rw [← hx] at hfi HCk
        rw [← hy] at hfj HCk
        obtain ⟨hfi1, hfi2⟩ := hfi
        obtain ⟨hfj1, hfj2⟩ := hfj
        have HIJ : Hid (M.cornAt l k = (M.ratN (x - y) ((j : Int) - i), M.ratD (x - y) ((j : Int) - i), (j : Int) - i)) := HCk
        have hin : (i : Int) < (n : Int) := by omega
        have hjn' : (j : Int) < (n : Int) := by omega
        have ew : IntKind.i64.wrap (x - y) = x - y := IntWalk.i64_in _ (by omega)
        have ew2 : IntKind.i64.wrap ((j : Int) - i) = (j : Int) - i := IntWalk.i64_in _ (by omega)
        have HKp : Hid (∀ W, Below wo.heap.size wo W → W.cell? ⟨ab, ao + i, none⟩ = some (.int .i64 x) ∧ W.cell? ⟨ab, ao + j, none⟩ = some (.int .i64 y) ∧ Below wo.heap.size wo W) := fun W hW => ⟨ck hcx hW, ck hcy hW, hW⟩
        clear hi hj HCk hx hy hcx hcy
        go_wp2
        go_quiet (fail)
        generalize hW0 : World.drewN wo _ = W0
        have hd0 : Below wo.heap.size wo W0 := by rw [← hW0]; exact b_draws _ _
        have HBd := Lib.hid (bnext HBk.out hd0)
        have HOd := Lib.hid (HOC.out.below hd0)
        have HKd : Hid (∀ W, Below W0.heap.size W0 W → W.cell? ⟨ab, ao + i, none⟩ = some (.int .i64 x) ∧ W.cell? ⟨ab, ao + j, none⟩ = some (.int .i64 y) ∧ Below W0.heap.size W0 W) := fun W hW => by
          obtain ⟨q1, q2, -⟩ := HKp.out W (bnext hd0 hW)
          exact ⟨q1, q2, hW⟩
        clear hW0 hd0 HKp HOC HBk hci hcj
        go_wp2
        go_region_held3 (fun w' => w'.cell? ⟨ab, ao + i, none⟩ = some (.int .i64 x) ∧ w'.cell? ⟨ab, ao + j, none⟩ = some (.int .i64 y) ∧ Below W0.heap.size W0 w')
          (first | exact HKd.out _ (Below.refl _ _).drew | exact HKd.out _ (b_alloc _ _).drew | exact HKd.out _ ((Below.refl _ _).drew.alloc (Nat.le_refl _) _) | exact HKd.out _ (bnext (Below.refl _ _).drew hb2) | exact HKd.out _ (bnext (b_alloc _ _).drew hb2) | exact HKd.out _ (bnext ((Below.refl _ _).drew.alloc (Nat.le_refl _) _) hb2) | exact HKd.out _ ((bnext (Below.refl _ _).drew hb2).alloc (bnext (Below.refl _ _).drew hb2).size _) | exact HKd.out _ ((bnext (b_alloc _ _).drew hb2).alloc (bnext (b_alloc _ _).drew hb2).size _) | exact HKd.out _ ((bnext ((Below.refl _ _).drew.alloc (Nat.le_refl _) _) hb2).alloc (bnext ((Below.refl _ _).drew.alloc (Nat.le_refl _) _) hb2).size _) | exact HKd.out _ (((bnext (Below.refl _ _).drew hb2).setCell (Nat.le_refl _) _).setCell (Nat.le_refl _) _) | exact HKd.out _ (((bnext (b_alloc _ _).drew hb2).setCell (Nat.le_refl _) _).setCell (Nat.le_refl _) _) | exact HKd.out _ (((bnext ((Below.refl _ _).drew.alloc (Nat.le_refl _) _) hb2).setCell (Nat.le_refl _) _).setCell (Nat.le_refl _) _))
          (first | (go_at_call 74; refine (sRatio _ _ _ (by omega) (by omega) (by omega) (by omega) (by omega)).mono ?_; rintro e w2 ⟨rfl, hb2⟩; first | (have hh := freshA9 hb2; obtain ⟨ez, e0, e1, f0, f1⟩ := hh) | (have hh := freshB9 hb2; obtain ⟨ez, e0, e1, f0, f1⟩ := hh) | skip))
        all_goals first
          | (generalize hwz : World.alloc w2 _ = w3
             have HB3 : Hid (Below W0.heap.size W0 w3) := by
               show Below _ _ _
               rw [← hwz]
               first
                 | exact (bnext (Below.refl _ _).drew hb2).alloc (bnext (Below.refl _ _).drew hb2).size _
                 | exact (bnext (b_alloc _ _).drew hb2).alloc (bnext (b_alloc _ _).drew hb2).size _
             have b0 : w3.cell? ⟨w2.heap.size, 0, none⟩ = some (.int .i64 (M.ratN (x - y) ((j : Int) - i))) := by rw [← hwz]; simp [go_sem]
             have b1 : w3.cell? ⟨w2.heap.size, 1, none⟩ = some (.int .i64 (M.ratD (x - y) ((j : Int) - i))) := by rw [← hwz]; simp [go_sem]
             clear hwz hb2 ‹_ ∧ _ ∧ Below _ _ _›
             generalize w2.heap.size = bx at *)
          | (generalize hwz : World.setCell (World.setCell w2 _ _) _ _ = w3
             have HB3 : Hid (Below W0.heap.size W0 w3) := by
               show Below _ _ _
               rw [← hwz]
               first
                 | exact ((bnext (b_alloc _ _).drew hb2).setCell (Nat.le_refl _) _).setCell (Nat.le_refl _) _
                 | exact ((bnext ((Below.refl _ _).drew.alloc (Nat.le_refl _) _) hb2).setCell (Nat.le_refl _) _).setCell (Nat.le_refl _) _
             have b0 : w3.cell? ⟨W0.heap.size, 0, none⟩ = some (.int .i64 (M.ratN (x - y) ((j : Int) - i))) := by rw [← hwz]; simp [go_sem, e0, e1]
             have b1 : w3.cell? ⟨W0.heap.size, 1, none⟩ = some (.int .i64 (M.ratD (x - y) ((j : Int) - i))) := by rw [← hwz]; simp [go_sem, e0, e1]
             clear hwz hb2 e0 e1 f0 f1 ez ‹_ ∧ _ ∧ Below _ _ _›
             generalize W0.heap.size = bx at b0 b1 ⊢)
        all_goals
          have HO3 := Lib.hid (HOd.out.below HB3.out)
          have HB4 := Lib.hid (bnext HBd.out HB3.out)
          clear HB3 HOd HBd HKd
          generalize M.ratN (x - y) ((j : Int) - i) = N1 at *
          generalize M.ratD (x - y) ((j : Int) - i) = D1 at *
          obtain ⟨rk, hrk⟩ : ∃ r, r = M.isRat N1 D1 := ⟨_, rfl⟩
          have HRt := Lib.hid hrk.symm
          clear hrk
          cases rk with
          | false =>
            have HE : Hid (M.cornRes l = ([], 3)) := HE2.out (HOkF.out k (by omega) (by rw [HIJ.out]; exact HRt.out))
            go_wp2_with fail
            refine (sIsRatio_b _ _ false HRt.out _).mono ?_
            rintro e w4 ⟨rfl, hb4⟩
            go_wp2
            go_ret2
            exact CRes.nil HE.out (bnext HB.out (bnext HB4.out hb4))
          | true =>
            go_wp2_with fail
            refine (sIsRatio_b _ _ true HRt.out _).mono ?_
            rintro e w4 ⟨rfl, hb4⟩
            have b04 := ck b0 hb4
            have b14 := ck b1 hb4
            have HO4 := Lib.hid (HO3.out.below hb4)
            have HB5 := Lib.hid (bnext HB4.out hb4)
            have hkl : (M.cornK l k).length = k := M.cornK_len l k
            have hk12 : k ≤ 12 := by have := HL12.out; omega
            clear hb4 b0 b1 HO3 HB4
            go_wp2_with (at_builtin; refine appendC (w4.alloc (cObj N1 D1 ((j : Int) - i))) rfl (.tmp 47) (.tmp 53) rfl w1.heap.size _ (M.cornK l k) (N1, D1, (j : Int) - i) k w4.heap.size hkl rfl (HO4.out.below (b_alloc _ _)) rfl (by simp [go_sem]) (by simp [go_sem]) (by simp [go_sem]) (by omega) (HB5.out.alloc HB5.out.size _).size ?_)
            intro b6 c6 w6 hO6 hb6
            have HO6 : Hid (OwnC w6 w1.heap.size (.slice b6 (k + 1) c6) (M.cornK l (k + 1))) := by show OwnC _ _ _ _; rw [M.cornK_succ, HIJ.out]; exact hO6
            have HB6 := Lib.hid ((HB5.out.alloc HB5.out.size _).trans hb6)
            have HR6 : Hid (∀ j, j < k + 1 → M.isRat (M.cornAt l j).1 (M.cornAt l j).2.1 = true) := fun j hj => by
              by_cases e : j < k
              · exact HRk.out j e
              · obtain rfl : j = k := by omega
                rw [HIJ.out]; exact HRt.out
            clear hO6 hb6 b04 b14 hkl HO4 HB5
            go_wp2
            go_roundw
            case rel => exact ⟨k + 1, q + 1, b6, c6, by omega, by go_num, by show _ = _; rw [HQ.out], rfl, HR6, HO6, HB6⟩
            case measure => have := HQ.out; simp [intOf]; omega
      · obtain rfl : k = L := by omega
        have hqL : ¬ (q : Int) < ((k + 1 : Nat) : Int) := by have := HQ.out; omega
        have HE : Hid (M.cornRes l = (M.cornK l k, 0)) := by
          have := HE1.out (HOkA.out (fun j hj => HRk.out j (by omega)))
          rw [hx3] at this; exact this
        go_wp2
        go_ret2
        rw [HE.out]
        exact ⟨_, _, _, rfl, HOC.out.mono HB.out.size, bnext HB.out HBk.out⟩
end V
end Go.Proofs.Ytlljnfljcdljaaa
