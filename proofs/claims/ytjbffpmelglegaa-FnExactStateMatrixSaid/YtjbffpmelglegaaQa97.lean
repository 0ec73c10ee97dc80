/- Texts laid together: Sma. -/
import Derived.Test.YtjbffpmelglegaaQa47
import Derived.Test.YtjbffpmelglegaaQa21
import Derived.Laws.IdiomCopy
import Derived.Laws.CopyOwn
set_option linter.unusedSimpArgs false
set_option linter.unusedVariables false
set_option linter.unusedSectionVars false
namespace Go.Proofs.Ytjbffpmelglegaa
namespace M
/-- The most tokens of the first k places, at least 1. -/
def tokK (l : List Pc) : Nat → Nat
  | 0 => 1
  | k + 1 => max (tokK l k) (l.getD k pz).2.2.2.toNat
theorem tokK_bd (l : List Pc) (h : ∀ p ∈ l, p.2.2.2 ≤ 5) : ∀ k, k ≤ l.length → 1 ≤ tokK l k ∧ tokK l k ≤ 5
  | 0, _ => ⟨Nat.le_refl _, by show (1 : Nat) ≤ 5; decide⟩
  | k + 1, hk => by
    have ih := tokK_bd l h k (by omega)
    have hm : l.getD k pz ∈ l := by
      rw [List.getD_eq_getElem?_getD, List.getElem?_eq_getElem (by omega), Option.getD_some]
      exact List.getElem_mem _
    have := h _ hm
    show 1 ≤ max _ _ ∧ max _ _ ≤ 5
    omega
/-- The first b blocks of columns. -/
def smB (D : Nat → Nat → Nat → Int) (N : Nat) : Nat → Nat → Nat → Int
  | 0, _, _ => -1000000000000000
  | b + 1, r, c => if r < N ∧ b * N ≤ c ∧ c < b * N + N then D (b + 1) r (c - b * N) else smB D N b r c
/-- And i rows of the next block. -/
def smI (D : Nat → Nat → Nat → Int) (N b i r c : Nat) : Int := if r < i ∧ b * N ≤ c ∧ c < b * N + N then D (b + 1) r (c - b * N) else smB D N b r c
def smD (D : Nat → Nat → Nat → Int) (N K t r c : Nat) : Int := if N ≤ r ∧ r = c + N ∧ c < t then 0 else smB D N K r c
def smF (D : Nat → Nat → Nat → Int) (N K r c : Nat) : Int := if r = c + N then 0 else smB D N K r c
/-- The model's order: b blocks, i rows of the next one, j entries of the next row. -/
def smM (D : Nat → Nat → Nat → Int) (N b i j r c : Nat) : Int :=
  if r = c + N ∧ c < b * N + i then 0 else if (r < i ∨ (r = i ∧ c < b * N + j)) ∧ b * N ≤ c ∧ c < b * N + N then D (b + 1) r (c - b * N) else smB D N b r c
theorem smI_zero (D : Nat → Nat → Nat → Int) (N b : Nat) : smI D N b 0 = smB D N b := by
  funext r c; unfold smI; rw [if_neg (by omega)]
theorem smI_end (D : Nat → Nat → Nat → Int) (N b : Nat) : smI D N b N = smB D N (b + 1) := rfl
theorem smD_zero (D : Nat → Nat → Nat → Int) (N K : Nat) : smD D N K 0 = smB D N K := by
  funext r c; unfold smD; rw [if_neg (by omega)]
theorem smD_next (D : Nat → Nat → Nat → Int) (N K t r c : Nat) : (if r = N + t then (if c = t then 0 else smD D N K t r c) else smD D N K t r c) = smD D N K (t + 1) r c := by
  unfold smD
  by_cases h1 : r = N + t
  · by_cases h2 : c = t
    · rw [if_pos h1, if_pos h2, if_pos (by omega)]
    · rw [if_pos h1, if_neg h2, if_neg (by omega), if_neg (by omega)]
  · rw [if_neg h1]
    by_cases h3 : N ≤ r ∧ r = c + N ∧ c < t
    · rw [if_pos h3, if_pos (by omega)]
    · rw [if_neg h3, if_neg (by omega)]
theorem smD_end (D : Nat → Nat → Nat → Int) (N K s t r c : Nat) (hs : s = t + N) (hr : r < s) : smD D N K t r c = smF D N K r c := by
  unfold smD smF
  by_cases h : r = c + N
  · rw [if_pos h, if_pos (by omega)]
  · rw [if_neg h, if_neg (by omega)]
theorem smM_zero (D : Nat → Nat → Nat → Int) (N r c : Nat) : smM D N 0 0 0 r c = -1000000000000000 := by
  unfold smM; rw [if_neg (by omega), if_neg (by omega)]; rfl
theorem smM_put (D : Nat → Nat → Nat → Int) (N b i j r c : Nat) (hi : i < N) (hj : j < N) : (if r = i then (if c = b * N + j then D (b + 1) i j else smM D N b i j r c) else smM D N b i j r c) = smM D N b i (j + 1) r c := by
  unfold smM
  generalize b * N = q
  by_cases h1 : r = i
  · subst h1
    by_cases h2 : c = q + j
    · subst h2
      rw [if_pos rfl, if_pos rfl, if_neg (by omega), if_pos (by omega), show q + j - q = j by omega]
    · have h4 : ¬(r = c + N ∧ c < q + r) := by omega
      rw [if_pos rfl, if_neg h2, if_neg h4, if_neg h4]
      by_cases h3 : (r < r ∨ (r = r ∧ c < q + j)) ∧ q ≤ c ∧ c < q + N
      · rw [if_pos h3, if_pos (by omega)]
      · rw [if_neg h3, if_neg (by omega)]
  · rw [if_neg h1]
    by_cases h4 : r = c + N ∧ c < q + i
    · rw [if_pos h4, if_pos h4]
    · rw [if_neg h4, if_neg h4]
      by_cases h3 : (r < i ∨ (r = i ∧ c < q + j)) ∧ q ≤ c ∧ c < q + N
      · rw [if_pos h3, if_pos (by omega)]
      · rw [if_neg h3, if_neg (by omega)]
theorem smM_diag (D : Nat → Nat → Nat → Int) (N b i r c : Nat) (hi : i < N) : (if r = (b + 1) * N + i then (if c = b * N + i then 0 else smM D N b i N r c) else smM D N b i N r c) = smM D N b (i + 1) 0 r c := by
  unfold smM
  rw [Nat.succ_mul]
  generalize b * N = q
  by_cases h0 : r = c + N ∧ c < q + (i + 1)
  · rw [if_pos h0]
    by_cases h1 : c = q + i
    · rw [if_pos (by omega), if_pos h1]
    · rw [if_neg (by omega), if_pos (by omega)]
  · rw [if_neg h0]
    have e : (if r = c + N ∧ c < q + i then (0 : Int) else if (r < i ∨ (r = i ∧ c < q + N)) ∧ q ≤ c ∧ c < q + N then D (b + 1) r (c - q) else smB D N b r c) = if (r < i + 1 ∨ (r = i + 1 ∧ c < q + 0)) ∧ q ≤ c ∧ c < q + N then D (b + 1) r (c - q) else smB D N b r c := by
      rw [if_neg (by omega)]
      by_cases h3 : (r < i ∨ (r = i ∧ c < q + N)) ∧ q ≤ c ∧ c < q + N
      · rw [if_pos h3, if_pos (by omega)]
      · rw [if_neg h3, if_neg (by omega)]
    by_cases h1 : r = q + N + i
    · rw [if_pos h1, if_neg (by omega)]; exact e
    · rw [if_neg h1]; exact e
theorem smM_last (D : Nat → Nat → Nat → Int) (N b i r c : Nat) (hr : r < (b + 1) * N) (hi : i < N) : smM D N b i N r c = smM D N b (i + 1) 0 r c := by
  rw [← smM_diag D N b i r c hi, if_neg (by omega)]
theorem smM_next (D : Nat → Nat → Nat → Int) (N b r c : Nat) : smM D N b N 0 r c = smM D N (b + 1) 0 0 r c := by
  unfold smM
  rw [Nat.succ_mul]
  show _ = if _ then _ else if _ then _ else if r < N ∧ b * N ≤ c ∧ c < b * N + N then D (b + 1) r (c - b * N) else smB D N b r c
  generalize b * N = q
  by_cases h0 : r = c + N ∧ c < q + N
  · rw [if_pos h0, if_pos (by omega)]
  · rw [if_neg h0, if_neg (show ¬(r = c + N ∧ c < q + N + 0) by omega), if_neg (show ¬((r < 0 ∨ (r = 0 ∧ c < q + N + 0)) ∧ q + N ≤ c ∧ c < q + N + N) by omega)]
    by_cases h3 : r < N ∧ q ≤ c ∧ c < q + N
    · rw [if_pos h3, if_pos (by omega)]
    · rw [if_neg h3, if_neg (by omega)]
theorem smM_end (D : Nat → Nat → Nat → Int) (N K r c : Nat) (hc : c < K * N) : smM D N K 0 0 r c = smF D N K r c := by
  unfold smM smF
  generalize K * N = q at hc
  by_cases h : r = c + N
  · rw [if_pos h, if_pos (by omega)]
  · rw [if_neg h, if_neg (by omega), if_neg (by omega)]
/-- A list written into row k of a matrix, from column t on. -/
def putF : List Int → (Nat → Nat → Int) → Nat → Nat → Nat → Nat → Int
  | [], f, _, _ => f
  | x :: r, f, k, t => putF r (fun i j => if i = k then (if j = t then x else f i j) else f i j) k (t + 1)
theorem putF_at : ∀ (r : List Int) (f : Nat → Nat → Int) (k t i j : Nat), putF r f k t i j = if i = k ∧ t ≤ j ∧ j < t + r.length then r.getD (j - t) 0 else f i j
  | [], f, k, t, i, j => by
    show f i j = _
    rw [if_neg (by simp only [List.length_nil]; omega)]
  | x :: r, f, k, t, i, j => by
    show putF r _ k (t + 1) i j = _
    rw [putF_at r _ k (t + 1) i j, List.length_cons]
    by_cases h1 : i = k ∧ t + 1 ≤ j ∧ j < t + 1 + r.length
    · rw [if_pos h1, if_pos (by omega), show j - t = (j - (t + 1)) + 1 by omega]; rfl
    · rw [if_neg h1]
      by_cases h2 : i = k ∧ j = t
      · obtain ⟨e1, e2⟩ := h2
        rw [if_pos e1, if_pos e2, if_pos (by omega), e2, Nat.sub_self]; rfl
      · rw [if_neg (show ¬(i = k ∧ t ≤ j ∧ j < t + (r.length + 1)) by omega)]
        by_cases h3 : i = k
        · rw [if_pos h3, if_neg (by omega)]
        · rw [if_neg h3]
theorem smI_next (D : Nat → Nat → Nat → Int) (N b i r c : Nat) (row : List Int) (hrow : row = (List.range N).map (D (b + 1) i)) : putF row (smI D N b i) i (b * N) r c = smI D N b (i + 1) r c := by
  have hl : row.length = N := by rw [hrow]; simp
  rw [putF_at, hl]
  unfold smI
  generalize hq : b * N = q
  by_cases h1 : r = i ∧ q ≤ c ∧ c < q + N
  · rw [if_pos h1, if_pos (by omega), hrow, h1.1]
    have : c - q < N := by omega
    simp [this]
  · rw [if_neg h1]
    by_cases h2 : r < i ∧ q ≤ c ∧ c < q + N
    · rw [if_pos h2, if_pos (by omega)]
    · rw [if_neg h2, if_neg (by omega)]
def cloD (l : List Pc) (N k : Nat) : Nat → Nat → Int := closF l N (k : Int)
def stM (l : List Pc) (N K : Nat) : List (List Int) := mk (K * N) (K * N) (smF (cloD l N) N K)
def smRes (x : Int) (l : List Pc) : List (List Int) × Int :=
  if lvCode x l = 0 then (if tokK l l.length * x.toNat ≤ 10 then (stM l x.toNat (tokK l l.length), 0) else ([], 3)) else ([], lvCode x l)
theorem smRes_ok (x : Int) (l : List Pc) : pre (smRes x l).1 (smRes x l).1.length ≤ 2000 ∧ (smRes x l).1.length ≤ 101 := by
  unfold smRes
  by_cases h : lvCode x l = 0
  · rw [if_pos h]
    by_cases h2 : tokK l l.length * x.toNat ≤ 10
    · rw [if_pos h2]
      show pre (mk _ _ _) (mk _ _ _).length ≤ 2000 ∧ (mk _ _ _).length ≤ 101
      rw [pre_mk, mk_length]
      have : (tokK l l.length * x.toNat) * (tokK l l.length * x.toNat) ≤ 10 * 10 := Nat.mul_le_mul h2 h2
      omega
    · rw [if_neg h2]
      exact ⟨by simp [pre], by simp⟩
  · rw [if_neg h]
    exact ⟨by simp [pre], by simp⟩
end M
namespace V
set_option maxRecDepth 100000
open Go.RowKit
/-- A row's block is not the block of the rows' values. -/
theorem OwnM.ne {w : World} {B n cap o k q L c : Nat} {R : List (List Int)} (h : OwnM w B (.slice (some ⟨o, 0, none⟩) n cap) R) (hi : k < n) (hc : w.cell? ⟨o, k, none⟩ = some (.slice (some ⟨q, 0, none⟩) L c)) : q ≠ o := by
  obtain ⟨V, h1, h2, h3, h4, h5⟩ := h
  obtain ⟨a', c', hv, _, _, _⟩ := own_form h2
  injection hv with e1 e2 e3
  subst e2
  have hcell := World.ownsRow.cellAt h2 k (by omega)
  have hVi : V[k]? = some (V.getD k (.slice none 0 0)) := by simp [h1, hi]
  rw [hc, hVi] at hcell
  injection hcell with hcell
  intro e
  subst e
  exact h4 k hi q (by rw [← hcell]; rfl) rfl
theorem OwnM.cap {w : World} {B n cap o k q L c : Nat} {R : List (List Int)} (h : OwnM w B (.slice (some ⟨o, 0, none⟩) n cap) R) (hi : k < n) (hc : w.cell? ⟨o, k, none⟩ = some (.slice (some ⟨q, 0, none⟩) L c)) : L ≤ c := by
  obtain ⟨V, h1, h2, h3, h4, h5⟩ := h
  obtain ⟨a', c', hv, _, _, _⟩ := own_form h2
  injection hv with e1 e2 e3
  subst e2
  have hcell := World.ownsRow.cellAt h2 k (by omega)
  have hVi : V[k]? = some (V.getD k (.slice none 0 0)) := by simp [h1, hi]
  rw [hc, hVi] at hcell
  injection hcell with hcell
  have := h3 k hi
  rw [← hcell] at this
  obtain ⟨a2, c2, hv2, hc2, _, _⟩ := own_form this
  injection hv2 with e1 e2 e3
  omega
theorem OwnM.puts {B s cap o k q L c : Nat} (hk : k < s) : ∀ (r : List Int) (t : Nat) (f : Nat → Nat → Int) (w : World), t + r.length ≤ s → OwnM w B (.slice (some ⟨o, 0, none⟩) s cap) (M.mk s s f) →
    w.cell? ⟨o, k, none⟩ = some (.slice (some ⟨q, 0, none⟩) L c) → OwnM (w.setCells q t (r.map (Value.int .i64))) B (.slice (some ⟨o, 0, none⟩) s cap) (M.mk s s (M.putF r f k t))
  | [], t, f, w, _, h, _ => h
  | x :: r, t, f, w, ht, h, hc => by
    rw [List.length_cons] at ht
    have h1 := h.put hk (t := t) (by rw [M.mk_rowlen _ _ _ _ hk]; omega) hc x
    rw [M.mk_set _ _ _ _ _ _ hk] at h1
    have hne := h.ne hk hc
    have hc' : (w.setCell ⟨q, t, none⟩ (.int .i64 x)).cell? ⟨o, k, none⟩ = some (.slice (some ⟨q, 0, none⟩) L c) := by
      rw [← hc]
      exact World.cell?_setCell_far _ _ _ _ hne
    exact OwnM.puts hk r (t + 1) _ _ (by omega) h1 hc'
theorem setCells_others (q : Nat) : ∀ (vs : List Value) (t : Nat) (w : World), (∀ x, x ≠ q → (w.setCells q t vs).heap[x]? = w.heap[x]?) ∧ (w.setCells q t vs).heap.size = w.heap.size
  | [], _, _ => ⟨fun _ _ => rfl, rfl⟩
  | v :: vs, t, w => by
    obtain ⟨h1, h2⟩ := setCells_others q vs (t + 1) (w.setCell ⟨q, t, none⟩ v)
    exact ⟨fun x hx => (h1 x hx).trans (Below.heap_setCell _ _ _ _ hx), h2.trans (World.size_setCell _ _ _)⟩
theorem below_setCells (q : Nat) {B : Nat} {w0 : World} (hq : B ≤ q) : ∀ (vs : List Value) (t : Nat) (w : World), Below B w0 w → Below B w0 (w.setCells q t vs)
  | [], _, _, h => h
  | v :: vs, t, w, h => below_setCells q hq vs (t + 1) _ (h.setCell hq v)
set_option maxRecDepth 100000 in
set_option maxHeartbeats 1000000 in
/-- copy(a[k][t:], row), one step of a region that draws its order. -/
theorem step_copyM {ops : Array Oper} {o : Oper} {a : Act} {w : World} {K : Act → World → Prop} {Q : Exit → Act → World → Prop} {E : Prop} (hgd : o.guard = none) (d s : Operand)
    (ho : o.op = .call { callee := .builtin .copy, args := #[d, s], argTypes := #[24, 24] }) (B sz cap ob k q L c t dLen dCap : Nat) (f : Nat → Nat → Int) (hM : OwnM w B (.slice (some ⟨ob, 0, none⟩) sz cap) (M.mk sz sz f)) (hk : k < sz)
    (hc : w.cell? ⟨ob, k, none⟩ = some (.slice (some ⟨q, 0, none⟩) L c)) (hd : a.eval d = .slice (some ⟨q, t, none⟩) dLen dCap) (sp : Option Addr) (sLen sCap : Nat) (row : List Int) (hs : a.eval s = .slice sp sLen sCap) (hI : Ints .i64 w sp sLen row) (h1 : 1 ≤ sLen) (hle : sLen ≤ dLen) (hfit : t + sLen ≤ sz)
    (h : ∀ w', Hid (OwnM w' B (.slice (some ⟨ob, 0, none⟩) sz cap) (M.mk sz sz (M.putF row f k t))) → Hid (∀ B' w0, B' ≤ B → Below B' w0 w → Below B' w0 w') → Hid ((∀ x, x ≠ q → w'.heap[x]? = w.heap[x]?) ∧ w'.heap.size = w.heap.size) → K (a.put o.dst (goInt sLen)) w') :
    if Region.wanted o (yielded ops a.tmps) = true then Oper.wp Try.prog o a w K Q else E := by
  have hl := hI.1
  have hq : B ≤ q := by
    obtain ⟨g, q', L', c', x, hg, -, hq, -, -, h1, -, -, -⟩ := hM.at k t hk (by rw [M.mk_rowlen _ _ _ _ hk]; omega)
    injection hg with hg
    injection hg with hg
    subst hg
    rw [hc] at h1
    injection h1 with h1
    injection h1 with h1
    injection h1 with h1
    injection h1 with h1
    omega
  have hcells : ∀ j, j < sLen → (w.cell? ⟨q, t + j, none⟩).isSome = true ∧ w.frozen? ⟨q, t + j, none⟩ = false := by
    intro j hj
    obtain ⟨g, q', L', c', x, hg, -, -, -, -, h1, h2, h3, -⟩ := hM.at k (t + j) hk (by rw [M.mk_rowlen _ _ _ _ hk]; omega)
    injection hg with hg
    injection hg with hg
    subst hg
    rw [hc] at h1
    injection h1 with h1
    injection h1 with h1
    injection h1 with h1
    injection h1 with h1
    subst h1
    exact ⟨by rw [h2]; rfl, h3⟩
  have hw : Region.wanted o (yielded ops a.tmps) = true := by simp [Region.wanted, hgd]
  rw [if_pos hw]
  obtain ⟨ad, had, hsrc⟩ : ∃ ad, sp = some ad ∧ ∀ j v, (row.map (Value.int .i64))[j]? = some v → w.cell? (ad.add j) = some v := by
    obtain ⟨hl, -, hc⟩ := hI
    rcases hc with e | ⟨b, off, rfl, -, hc⟩
    · omega
    · refine ⟨_, rfl, fun j v hv => ?_⟩
      have hadd : (⟨b, off, none⟩ : Addr).add j = ⟨b, off + j, none⟩ := by unfold Addr.add; split <;> simp_all
      have hj : j < row.length := by
        by_cases q : j < row.length
        · exact q
        · rw [List.getElem?_eq_none (by simp; omega)] at hv; cases hv
      rw [hadd, hc j (by omega)]
      rw [List.getElem?_map, List.getElem?_eq_getElem hj] at hv
      rw [List.getD_eq_getElem?_getD, List.getElem?_eq_getElem hj]
      exact hv
  subst had
  have hln : (row.map (Value.int .i64)).length = sLen := by rw [List.length_map]; exact hl
  have hrun := run_copy_cells (P := Try.prog) w 24 24 o.type 2 q t dLen dCap ad sLen sCap (row.map (Value.int .i64)) Try.underlying24 (by kernel_rfl) (by rw [hln]; exact (Nat.min_eq_left hle).symm) hsrc
    (fun j hj => (hcells j (by omega)).1) (fun j hj => (hcells j (by omega)).2) (fun v hv => by obtain ⟨x, -, rfl⟩ := List.mem_map.1 hv; rfl)
  unfold Oper.wp
  simp [execOp, ho, resolve, invoke, builtin, hd, hs, hrun, Result.andThen]
  rw [hl]
  exact h _ (hM.puts hk row t f w (by omega) hc) (fun B' w0 hB' hb => below_setCells q (by omega) _ _ _ hb) (setCells_others q _ _ _)
end V
end Go.Proofs.Ytjbffpmelglegaa
