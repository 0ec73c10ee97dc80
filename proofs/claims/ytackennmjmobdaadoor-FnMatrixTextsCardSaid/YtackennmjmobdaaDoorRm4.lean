/- Matrices are recovered from their texts, plainly. -/
import Derived.Test.YtackennmjmobdaaDoorMath1
import Derived.Test.YtackennmjmobdaaDoorMatM
import Derived.Test.YtackennmjmobdaaDoorRead
import Derived.Test.YtackennmjmobdaaDoorTxt
import Derived.Test.YtackennmjmobdaaDoorTm0
import Derived.Test.YtackennmjmobdaaDoorTm1
import Derived.Test.YtackennmjmobdaaDoorSpl
import Derived.Test.YtackennmjmobdaaDoorRm2
namespace Go.Proofs.YtackennmjmobdaaDoor.V
open Go.Lib

theorem join_two (x y : List UInt8) (r : List (List UInt8)) (c : UInt8) : join (x :: y :: r) [c] = x ++ c :: join (y :: r) [c] := by
  rw [join_cons, join_cons, joinTail, joinTail, List.map_cons, List.flatten_cons]
  simp
theorem splitL_join (c : UInt8) (L : List (List UInt8)) (hne : L ≠ []) (h : ∀ x ∈ L, ∀ b ∈ x, b ≠ c) : M.splitL c (join L [c]) = L := by
  induction L with
  | nil => exact absurd rfl hne
  | cons x r ih =>
    cases r with
    | nil => rw [join_one, M.splitL_miss c x (h x (by simp))]
    | cons y r =>
      rw [join_two, M.splitL_hit c x _ (h x (by simp)), ih (by simp) (fun z hz => h z (List.mem_cons_of_mem _ hz))]
theorem join_splitL (c : UInt8) (l : List UInt8) : join (M.splitL c l) [c] = l := by
  induction l with
  | nil => rfl
  | cons b l ih =>
    rw [M.splitL]
    cases h : M.splitL c l with
    | nil => exact absurd h (M.splitL_ne c l)
    | cons y r =>
      rw [h] at ih
      split
      · next e => rw [join_two, ih, e]; rfl
      · rw [List.headD_cons, List.tail_cons, join_cons, List.cons_append, ← join_cons, ih]
theorem mem_join {b : UInt8} {c : UInt8} {L : List (List UInt8)} (h : b ∈ join L [c]) : (∃ x ∈ L, b ∈ x) ∨ b = c := by
  induction L with
  | nil => simp [join_nil] at h
  | cons x r ih =>
    cases r with
    | nil => rw [join_one] at h; exact .inl ⟨x, by simp, h⟩
    | cons y r =>
      rw [join_two] at h
      rcases List.mem_append.1 h with h | h
      · exact .inl ⟨x, by simp, h⟩
      · rcases List.mem_cons.1 h with h | h
        · exact .inr h
        · rcases ih h with ⟨z, hz, hb⟩ | e
          · exact .inl ⟨z, List.mem_cons_of_mem _ hz, hb⟩
          · exact .inr e
theorem vtxt_bytes {a : Int} (h : M.isVal a = true) : ∀ b ∈ vtxt a, b ≠ 44 ∧ b ≠ 59 := by
  intro b hb
  rw [vtxt, if_pos h, txt] at hb
  have key : b.toNat ≠ 44 ∧ b.toNat ≠ 59 → b ≠ 44 ∧ b ≠ 59 := fun h => ⟨fun e => h.1 (by rw [e]; rfl), fun e => h.2 (by rw [e]; rfl)⟩
  apply key
  split at hb
  · simp at hb; subst hb; decide
  · rw [itoa] at hb
    split at hb
    · rcases List.mem_cons.1 hb with rfl | hb
      · decide
      · have := M.dec_digits _ b hb; omega
    · have := M.dec_digits _ b hb; omega
theorem itoa_ne' {a : Int} (h : M.isFin a = true) : Go.Lib.itoa a ≠ [] ∧ Go.Lib.itoa a ≠ [46] := by
  have hs := M.sgn_itoa h
  constructor
  · intro e
    rw [e] at hs
    have := congrArg Prod.snd hs
    simp [M.sgnM, M.digM] at this
  · intro e
    rw [e] at hs
    have := congrArg Prod.snd hs
    simp [M.sgnM, M.digM, M.isDigs] at this
theorem readM_v {a : Int} (h : M.isVal a = true) : M.readM (vtxt a) = (a, true) ∧ vtxt a ≠ [] := by
  rw [vtxt, if_pos h, txt]
  by_cases hb : a = -1000000000000000
  · rw [if_pos hb, hb]
    exact ⟨by rw [M.readM, if_pos rfl], by simp⟩
  · have hf : M.isFin a = true := by
      rcases M.isVal_t h with h | h
      · exact absurd h hb
      · simp [M.isFin, h]
    rw [if_neg hb]
    refine ⟨?_, (itoa_ne' hf).1⟩
    rw [← M.read_eq, M.readI, if_neg (itoa_ne' hf).2, M.parse_itoa hf]
    simp [hf]
theorem vtxt_r {l : List UInt8} (h : (M.readM l).2 = true) : vtxt (M.readM l).1 = l := by
  rw [← M.read_eq] at h ⊢
  rw [M.readI] at h ⊢
  by_cases hl : l = [46]
  · rw [if_pos hl] at h ⊢
    show vtxt (-1000000000000000) = l
    rw [vtxt, if_pos M.bot_val, txt, if_pos rfl, hl]
  · rw [if_neg hl] at h ⊢
    cases hp : Go.Lib.parseIntB 64 l
    next n =>
      rw [hp] at h
      by_cases hc : (M.isFin n && decide (Go.Lib.itoa n = l)) = true
      · simp only [hc, if_true]
        simp only [Bool.and_eq_true, decide_eq_true_eq] at hc
        have hne : ¬ n = -1000000000000000 := by have := M.isFin_t hc.1; omega
        rw [vtxt, if_pos (M.isVal_of_fin hc.1), txt, if_neg hne, hc.2]
      · simp only [Bool.not_eq_true] at hc
        simp [hc] at h
    all_goals
      rw [hp] at h
      simp at h
theorem rowS_t {r : List Int} (h : M.isVec r = true) : M.rowS (rtxt r) = (r, true) ∧ rtxt r ≠ [] := by
  obtain ⟨h1, h2, h3⟩ := M.isVec_t h
  have hv : ∀ a ∈ r, M.isVal a = true := fun a ha => by
    obtain ⟨j, hj, rfl⟩ := List.getElem_of_mem ha
    have := h3 j hj
    simpa [hj] using this
  have e : M.splitL 44 (rtxt r) = r.map vtxt := splitL_join 44 _ (by intro e; have := congrArg List.length e; simp at this; simp [this] at h1) (fun x hx b hb => by
    obtain ⟨a, ha, rfl⟩ := List.mem_map.1 hx
    exact (vtxt_bytes (hv a ha) b hb).1)
  refine ⟨?_, ?_⟩
  · rw [M.rowS, e, M.rowOf, if_pos]
    · rw [List.map_map]
      congr 1
      conv => rhs; rw [← List.map_id r]
      exact List.map_congr_left fun a ha => by
        show (M.readM (vtxt a)).1 = a
        rw [(readM_v (hv a ha)).1]
    · rw [List.all_eq_true]
      intro x hx
      obtain ⟨a, ha, rfl⟩ := List.mem_map.1 hx
      rw [(readM_v (hv a ha)).1]
  · cases r with
    | nil => simp at h1
    | cons a r =>
      rw [rtxt, List.map_cons, join_cons]
      intro e
      exact (readM_v (hv a (by simp))).2 (List.append_eq_nil_iff.1 e).1
theorem rowS_s {l : List UInt8} (h : (M.rowS l).2 = true) : rtxt (M.rowS l).1 = l := by
  rw [M.rowS, M.rowOf] at h ⊢
  split at h
  · next hc =>
    rw [if_pos hc]
    show join (((M.splitL 44 l).map fun t => (M.readM t).1).map vtxt) [44] = l
    rw [List.map_map]
    have e : (M.splitL 44 l).map (vtxt ∘ fun t => (M.readM t).1) = M.splitL 44 l := by
      conv => rhs; rw [← List.map_id (M.splitL 44 l)]
      exact List.map_congr_left fun t ht => vtxt_r (List.all_eq_true.1 hc t ht)
    rw [e, join_splitL]
  · cases h
theorem isMat_rows {R : List (List Int)} (h : M.isMat R = true) : R ≠ [] ∧ ∀ r ∈ R, M.isVec r = true := by
  unfold M.isMat at h
  simp only [Bool.and_eq_true, decide_eq_true_eq, List.all_eq_true] at h
  exact ⟨fun e => by rw [e] at h; simp at h, fun r hr => (h.2 r hr).1⟩
theorem readS_t {R : List (List Int)} (h : M.isMat R = true) : M.readS (mtxt R) = (R, true) ∧ mtxt R ≠ [] := by
  obtain ⟨h1, h2⟩ := isMat_rows h
  rw [mtxt, if_pos h]
  have e : M.splitL 59 (join (R.map rtxt) [59]) = R.map rtxt := splitL_join 59 _ (by simpa using h1) (fun x hx b hb => by
    obtain ⟨r, hr, rfl⟩ := List.mem_map.1 hx
    obtain ⟨-, -, h3⟩ := M.isVec_t (h2 r hr)
    rcases mem_join hb with ⟨y, hy, hby⟩ | e
    · obtain ⟨a, ha, rfl⟩ := List.mem_map.1 hy
      obtain ⟨j, hj, rfl⟩ := List.getElem_of_mem ha
      have := h3 j hj
      exact (vtxt_bytes (by simpa [hj] using this) b hby).2
    · rw [e]; decide)
  refine ⟨?_, ?_⟩
  · have em : (R.map rtxt).map (fun t => (M.rowS t).1) = R := by
      rw [List.map_map]
      conv => rhs; rw [← List.map_id R]
      exact List.map_congr_left fun r hr => by
        show (M.rowS (rtxt r)).1 = r
        rw [(rowS_t (h2 r hr)).1]
    rw [M.readS, e, M.matOf, em, h, Bool.and_true, if_pos]
    rw [List.all_eq_true]
    intro x hx
    obtain ⟨r, hr, rfl⟩ := List.mem_map.1 hx
    rw [(rowS_t (h2 r hr)).1]
  · cases R with
    | nil => exact absurd rfl h1
    | cons r R =>
      rw [List.map_cons, join_cons]
      intro e
      exact (rowS_t (h2 r (by simp))).2 (List.append_eq_nil_iff.1 e).1
theorem readS_nil : M.readS [] = ([], false) := by
  simp [M.readS, M.splitL, M.matOf, M.rowS, M.rowOf, M.readM, M.sgnM, M.digM]
theorem readS_s {l : List UInt8} (h : (M.readS l).2 = true) : mtxt (M.readS l).1 = l := by
  rw [M.readS, M.matOf] at h ⊢
  split at h
  · next hc =>
    rw [if_pos hc]
    rw [Bool.and_eq_true] at hc
    show mtxt ((M.splitL 59 l).map fun t => (M.rowS t).1) = l
    rw [mtxt, if_pos hc.2, List.map_map]
    have e : (M.splitL 59 l).map (rtxt ∘ fun t => (M.rowS t).1) = M.splitL 59 l := by
      conv => rhs; rw [← List.map_id (M.splitL 59 l)]
      exact List.map_congr_left fun t ht => rowS_s (List.all_eq_true.1 hc.1 t ht)
    rw [e, join_splitL]
  · cases h
theorem mtxt_len (R : List (List Int)) : (mtxt R).length ≤ 2110 := by
  rw [mtxt]
  split
  · next h =>
    obtain ⟨h1, h2, -⟩ := M.isMat_t h
    have := joinT_len (R.map rtxt) [59] 210 (fun x hx => by
      obtain ⟨r, hr, rfl⟩ := List.mem_map.1 hx
      have := rtxt_len r
      have := (M.isVec_t ((isMat_rows h).2 r hr)).2.1
      omega)
    simp at this
    omega
  · simp
end Go.Proofs.YtackennmjmobdaaDoor.V
