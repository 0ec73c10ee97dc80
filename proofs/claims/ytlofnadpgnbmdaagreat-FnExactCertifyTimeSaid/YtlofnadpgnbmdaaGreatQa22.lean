/- Texts laid together: Pot1. -/
import Derived.Test.YtlofnadpgnbmdaaGreatQa12
import Derived.Test.YtlofnadpgnbmdaaGreatQa13
import Derived.Deep.RegionWith
import Derived.Deep.RegionHeld3
set_option linter.unusedSimpArgs false
set_option linter.unusedVariables false
set_option linter.unusedSectionVars false
namespace Go.Proofs.YtlofnadpgnbmdaaGreat
namespace M
theorem noPos_mk (n : Nat) (f : Nat → Nat → Int) : noPos (ent (mk n n f)) n = noPos f n := noPos_congr fun _ _ hi hj => ent_mk _ _ _ _ _ hi hj
theorem starM_mk (n : Nat) (f : Nat → Nat → Int) : starM (mk n n f) n = mk n n (starF f n) := mk_congr fun _ hi _ hj => starF_congr (fun _ _ hi hj => ent_mk _ _ _ _ _ hi hj) hi hj
def finV (x : Int) : Bool := isFin x
theorem zeros_len (n : Nat) : (zerosL n).length = n := by simp [zerosL]
theorem zeros_made (n : Nat) : ((List.range n).map fun _ => (0 : Int)) = zerosL n := by
  unfold zerosL
  apply List.ext_getElem
  · simp
  · intro i h1 h2; simp
end M
namespace V
open Go.RowKit
theorem sq_shift {w : World} {a : Option Addr} {n : Nat} {f : Nat → Nat → Int} (h : Mat w a n (M.mk n n f)) (hf : ∀ i j, i < n → j < n → M.Sm 1000001000000 (f i j)) (n1 : 1 ≤ n) (n2 : n ≤ 10) : Sq w a n (M.mk n n f) :=
  ⟨h, rect_mk _ _ _, fun i j hi hj => by rw [M.ent_mk _ _ _ _ _ hi hj]; exact hf i j hi hj, n1, n2⟩
set_option maxRecDepth 100000 in
set_option maxHeartbeats 400000 in
theorem sAllF (a : Option Addr) (n cap : Nat) (l : List Int) (w : World) (h : Ints .i64 w a n l) :
    Calls Tryz.prog 75 #[.slice a n cap, .bool true] w fun e w' => e = .returned (.bool (l.all M.isFin)) ∧ w = w' := by
  obtain ⟨hl, hm, hr⟩ := h
  unfold maxLen at hm
  have HL := Lib.hid hl
  clear hl
  go_enter Tryz.func75, Tryz.ntmps75
  go_wp2
  go_loop [5] (fun i => ∃ k : Nat, k ≤ n ∧ i = .int .i64 k ∧ Hid ((l.take k).all M.isFin = true)) (fun i => n - (intOf i).toNat)
  case atStart => exact ⟨0, Nat.zero_le _, rfl, rfl⟩
  case round =>
    obtain ⟨k, hk, rfl, HA⟩ := hrel
    by_cases hlt : k < n
    · rcases hr with h0 | ⟨b, off, rfl, hbl, hc⟩
      · omega
      · have hck := hc k hlt
        have hsn := M.take_snoc l k (by have := HL.out; omega)
        obtain ⟨x, hx⟩ : ∃ x, x = l.getD k 0 := ⟨_, rfl⟩
        rw [← hx] at hck hsn
        have HX := Lib.hid hx
        have HS := Lib.hid hsn
        clear hc hx hsn
        by_cases hb : x = -1000000000000000
        · have HF : Hid (l.all M.isFin = false) := M.all_false _ l k (by have := HL.out; omega) (by rw [← HX.out, hb]; rfl)
          have hv : M.isVal x = true := by rw [hb]; exact M.bot_val
          subst hb
          go_wp2_with (first | (go_at_call 126; refine (sIsValue _ _).mono ?_; rintro e w' ⟨rfl, rfl⟩))
          go_ret
          exact ⟨retB (by rw [HF.out]), rfl⟩
        · have hb2 : (x == -1000000000000000) = false := by simpa using hb
          have hvf : M.isVal x = M.isFin x := by unfold M.isVal; rw [decide_eq_false hb, Bool.false_or]
          by_cases hv : M.isVal x = true
          · have HA2 : Hid ((l.take (k + 1)).all M.isFin = true) := by show _ = _; rw [HS.out, M.all_snoc, HA.out, ← hvf, hv]; rfl
            clear hvf
            go_wp2_with (first | (go_at_call 126; refine (sIsValue _ _).mono ?_; rintro e w' ⟨rfl, rfl⟩))
            go_round
            case rel => exact ⟨k + 1, by omega, by go_num, HA2⟩
            case measure => simp [intOf]; omega
          · simp only [Bool.not_eq_true] at hv
            have HF : Hid (l.all M.isFin = false) := M.all_false _ l k (by have := HL.out; omega) (by rw [← HX.out, ← hvf, hv])
            clear hvf
            go_wp2_with (first | (go_at_call 126; refine (sIsValue _ _).mono ?_; rintro e w' ⟨rfl, rfl⟩))
            go_ret
            exact ⟨retB (by rw [HF.out]), rfl⟩
    · have hkn : k = n := by omega
      subst hkn
      have HT : Hid (l.take k = l) := M.take_all l k (by have := HL.out; omega)
      clear hr
      go_wp2
      go_ret
      exact ⟨retB (by rw [← HT.out, HA.out]), rfl⟩
theorem sAllF_b (a : Option Addr) (n cap : Nat) (l : List Int) (b : Bool) (hb : l.all M.isFin = b) (w : World) (h : Ints .i64 w a n l) :
    Calls Tryz.prog 75 #[.slice a n cap, .bool true] w fun e w' => e = .returned (.bool b) ∧ w = w' := by subst hb; exact sAllF a n cap l w h
/-- The plain answer, by the shifted matrix. -/
theorem pot_lfp {R : List (List Int)} {n : Nat} {num den : Int} (hn : R.length = n) (hs : M.sqB R = true) (hr : M.isRat num den = true) : M.potRes R num den = M.lfpL (M.mk n n (M.shf (M.ent R) num den)) n (M.zerosL n) := by
  subst hn
  unfold M.potRes M.lfpL
  rw [hs, hr, M.noPos_mk]
  rfl
end V
end Go.Proofs.YtlofnadpgnbmdaaGreat
