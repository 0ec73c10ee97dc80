/- The model's decimal numerals: the contract of its recursive function. -/
import Derived.Test.YtackennmjmobdaaDoorRows
import Derived.Lib.ItoaNum
import Derived.WalkKit
import Derived.ProofKit
import Derived.WalkSmall
import Derived.Deep.QuietTactic
import Derived.BigQuiet
import Derived.BigRegion
import Derived.Deep.RegionWith
import Derived.Deep.Draws
import Derived.Lib.Hide
namespace Go.Proofs.YtackennmjmobdaaDoor.V
open Go.RowKit

theorem dlen (k : Nat) : ∀ n, n < 10 ^ (k + 1) → (Go.Lib.decDigits n).length ≤ k + 1 := by
  induction k with
  | zero =>
    intro n hn
    rw [Go.Lib.decDigits_one (by simpa using hn)]
    simp
  | succ k ih =>
    intro n hn
    by_cases h : n < 10
    · rw [Go.Lib.decDigits_one h]
      simp
    · rw [Go.Lib.decDigits, dif_neg h, List.length_append]
      have : n / 10 < 10 ^ (k + 1) := by
        rw [Nat.pow_succ] at hn
        omega
      have := ih _ this
      simp
      omega

theorem cv1 (W : World) (z : Int) (h0 : 0 ≤ z) (h1 : z < 256) :
    (convert 22 9 (.slice (some ⟨W.heap.size, 0, none⟩) 1 1)).run Tryd.prog (W.alloc (.cells #[.int .u8 z] 5)) = .ok (.string ⟨#[UInt8.ofNat z.toNat]⟩) (W.alloc (.cells #[.int .u8 z] 5)) := by
  have hz : ((UInt8.ofNat z.toNat).toNat : Int) = z := by
    rw [UInt8.toNat_ofNat']
    omega
  exact run_convert_bytes_back (P := Tryd.prog) (W.alloc (.cells #[.int .u8 z] 5)) 22 9 5 ⟨W.heap.size, 0, none⟩ 1 [UInt8.ofNat z.toNat] Tryd.underlying22 Tryd.underlying5 Tryd.underlying9 (fun j hj => by
    have hj0 : j = 0 := by simp at hj; omega
    subst hj0
    simp [Addr.add, hz]
    omega)

theorem cvB {w w1 : World} {z : Int} {k : Nat} (hk : z = (k : Int)) (h1 : k < 256) (hb : Below (w.alloc (.cells #[.int .u8 z] 5)).drew.heap.size (w.alloc (.cells #[.int .u8 z] 5)).drew w1) :
    (convert 22 9 (.slice (some ⟨w.heap.size, 0, none⟩) 1 1)).run Tryd.prog w1 = .ok (.string ⟨#[UInt8.ofNat k]⟩) w1 := by
  have hz : ((UInt8.ofNat k).toNat : Int) = z := by
    rw [UInt8.toNat_ofNat']
    omega
  exact run_convert_bytes_back (P := Tryd.prog) w1 22 9 5 ⟨w.heap.size, 0, none⟩ 1 [UInt8.ofNat k] Tryd.underlying22 Tryd.underlying5 Tryd.underlying9 (fun j hj => by
    have hj0 : j = 0 := by simp at hj; omega
    subst hj0
    have hc := hb.cell (p := ⟨w.heap.size, 0, none⟩) (by simp)
    have h2 : ((⟨w.heap.size, 0, none⟩ : Addr).add 0) = ⟨w.heap.size, 0, none⟩ := rfl
    rw [h2, hc]
    show (w.alloc (.cells #[.int .u8 z] 5)).cell? ⟨w.heap.size, 0, none⟩ = some (.int .u8 ((UInt8.ofNat k).toNat : Int))
    rw [hz]
    have e : (w.alloc (.cells #[.int .u8 z] 5)).heap[w.heap.size]? = some (.cells #[.int .u8 z] 5 (0, 0)) := by
      show (w.heap.push _)[w.heap.size]? = _
      simp
    simp only [World.cell?, e]
    simp)

/-- What a numeral is. -/
def DecPost (n : Nat) (w : World) (e : Ending) (w' : World) : Prop :=
  ∃ s : ByteArray, e = .returned (.string s) ∧ s.data.toList = Go.Lib.decDigits n ∧ s.size ≤ 19 ∧ Below w.heap.size w w'

theorem toArray_eq {s : ByteArray} {l : List UInt8} (h : s.data.toList = l) : s = ⟨l.toArray⟩ := by
  cases s with
  | mk d => simp at h; subst h; simp

theorem dec_fin {n : Nat} {w w' : World} {s : ByteArray} (h63 : n ≤ 1000000000000000000) (hs : s.data.toList = Go.Lib.decDigits (n / 10)) (hd : Go.Lib.decDigits n = Go.Lib.decDigits (n / 10) ++ [UInt8.ofNat (48 + n % 10)]) (hb : Below w.heap.size w w') :
    DecPost n w (.returned (.string (s ++ ⟨#[48 + UInt8.ofNat (n % 10)]⟩))) w' := by
  have hl : (s ++ (⟨#[48 + UInt8.ofNat (n % 10)]⟩ : ByteArray)).data.toList = Go.Lib.decDigits n := by
    rw [hd, ← hs]
    simp [ByteArray.data_append]
  refine ⟨_, rfl, hl, ?_, hb⟩
  have h2 := dlen 18 n (by omega)
  rw [← hl, Array.length_toList] at h2
  exact h2

set_option maxRecDepth 100000 in
set_option maxHeartbeats 1000000 in
set_option maxRecDepth 100000 in
theorem sDec (n : Nat) (w : World) (h63 : n ≤ 1000000000000000000) : Calls Tryd.prog 79 #[.int .i64 n] w (DecPost n w) := by
  induction n using Nat.strongRecOn generalizing w with
  | ind n ih =>
    by_cases h : n < 10
    · have hi : (n : Int) < 10 := by omega
      have hdd := Go.Lib.decDigits_one h
      have HD := Lib.hid hdd
      clear ih hdd
      go_enter Tryd.func79, Tryd.ntmps79
      go_wp2_with fail
      rw [cv1 _ _ (by omega) (by omega)]
      go_wp2
      go_ret
      exact ⟨_, rfl, by rw [HD.out]; show [UInt8.ofNat (48 + (n : Int)).toNat] = _; rw [show (48 + (n : Int)).toNat = 48 + n from by omega], by simp [ByteArray.size], (Below.refl _ _).alloc (Nat.le_refl _) _⟩
    · have hi : ¬ (n : Int) < 10 := by omega
      have HD : Hid (Go.Lib.decDigits n = Go.Lib.decDigits (n / 10) ++ [UInt8.ofNat (48 + n % 10)]) := by
        show _ = _
        rw [Go.Lib.decDigits, dif_neg h]
      have ih2 : ∀ w, Calls Tryd.prog 79 #[.int .i64 ((n : Int) / 10)] w (DecPost (n / 10) w) := fun w => by
        have := ih (n / 10) (by omega) w (by omega)
        rwa [show ((n / 10 : Nat) : Int) = (n : Int) / 10 from by omega] at this
      have IH := Lib.hid ih2
      clear ih ih2
      have hm : (n : Int).tmod 10 = ((n % 10 : Nat) : Int) := by rw [Int.tmod_eq_emod_of_nonneg (by omega)]; omega
      have hz : IntKind.u8.wrap (IntKind.i64.wrap (48 + (n : Int).tmod 10)) = 48 + (n : Int).tmod 10 := by
        rw [IntWalk.i64_in _ (by omega), IntWalk.u8_in _ (by omega)]
      have hcv : ∀ W : World, (convert 22 9 (.slice (some ⟨W.heap.size, 0, none⟩) 1 1)).run Tryd.prog (W.alloc (.cells #[.int .u8 (IntKind.u8.wrap (IntKind.i64.wrap (48 + (n : Int).tmod 10)))] 5))
          = .ok (.string ⟨#[UInt8.ofNat (48 + n % 10)]⟩) (W.alloc (.cells #[.int .u8 (IntKind.u8.wrap (IntKind.i64.wrap (48 + (n : Int).tmod 10)))] 5)) := fun W => by
        rw [hz, cv1 W _ (by omega) (by omega), show (48 + (n : Int).tmod 10).toNat = 48 + n % 10 from by omega]
      have hw1 : IntKind.i64.wrap ((n : Int) / 10) = (n : Int) / 10 := IntWalk.i64_in _ (by omega)
      have hzk : IntKind.u8.wrap (IntKind.i64.wrap (48 + (n : Int).tmod 10)) = ((48 + n % 10 : Nat) : Int) := by rw [hz]; omega
      have HZK := Lib.hid hzk
      have hcv2 : ∀ W : World, _ := fun W => cvB (w := W) hzk (by omega) (Below.refl _ _)
      clear hz hm hzk
      go_enter Tryd.func79, Tryd.ntmps79
      go_wp2_with fail
      go_region_with (first | (go_at_call 79; refine (IH.out _).mono ?_; rintro e w1 ⟨s, rfl, hs, hsz, hb⟩; have HS := Lib.hid hs; have HBW := Lib.hid hb; (try have hcv1 := cvB HZK.out (by omega) hb); clear hs hb))
      all_goals
        go_wp2
        go_ret
      · exact dec_fin h63 HS.out HD.out ((Below.trans (Below.drew (Below.refl _ _)) HBW.out).alloc HBW.out.size _)
      · exact dec_fin h63 HS.out HD.out (Below.trans ((Below.alloc (Below.refl _ _) (Nat.le_refl _) _).drew) (HBW.out.mono (by simp)))
      · exact dec_fin h63 HS.out HD.out (Below.trans ((Below.alloc (Below.refl _ _) (Nat.le_refl _) _).drew) (HBW.out.mono (by simp)))
end Go.Proofs.YtackennmjmobdaaDoor.V
