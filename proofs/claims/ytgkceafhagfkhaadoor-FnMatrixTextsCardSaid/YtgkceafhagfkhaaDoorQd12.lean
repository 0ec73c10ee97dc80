/- Texts laid together: Rm3, Rm4. -/
import Derived.Test.YtgkceafhagfkhaaDoorRows
import Derived.Test.YtgkceafhagfkhaaDoorQd1
import Derived.Test.YtgkceafhagfkhaaDoorQd3
import Derived.Test.YtgkceafhagfkhaaDoorQd4
import Derived.Test.YtgkceafhagfkhaaDoorQd5
import Derived.WalkKit
import Derived.ProofKit
import Derived.WalkSmall
import Derived.Deep.QuietTactic
import Derived.BigQuiet
import Derived.BigRegion
import Derived.Deep.Draws
import Derived.Lib.Hide
import Derived.OpenShut
import Derived.Deep.OwnRows
import Derived.Maps.AppendAt
import Derived.Test.YtgkceafhagfkhaaDoorQd2
import Derived.Test.YtgkceafhagfkhaaDoorQd10
import Derived.Test.YtgkceafhagfkhaaDoorQd9
import Derived.Test.YtgkceafhagfkhaaDoorQd7
import Derived.Test.YtgkceafhagfkhaaDoorQd11
import Derived.Test.YtgkceafhagfkhaaDoorQd8
set_option linter.unusedSimpArgs false
set_option linter.unusedVariables false
set_option linter.unusedSectionVars false
namespace Go.Proofs.YtgkceafhagfkhaaDoor.M
theorem matOf_bad2 {f : List UInt8 → List Int × Bool} {P : List (List UInt8)} {x : List UInt8} (hx : x ∈ P) (h : (f x).2 = false) : matOf f P = ([], false) := by
  unfold matOf
  rw [if_neg]
  intro hc
  rw [Bool.and_eq_true] at hc
  rw [List.all_eq_true.1 hc.1 x hx] at h
  cases h
theorem matOf_ok {f : List UInt8 → List Int × Bool} {P : List (List UInt8)} (h : ∀ j, j < P.length → (f (P.getD j [])).2 = true) : matOf f P = if isMat (P.map fun t => (f t).1) then (P.map (fun t => (f t).1), true) else ([], false) := by
  have e : P.all (fun t => (f t).2) = true := by
    rw [List.all_eq_true]
    intro x hx
    obtain ⟨j, hj, rfl⟩ := List.getElem_of_mem hx
    have := h j hj
    simpa [hj] using this
  unfold matOf
  rw [e, Bool.true_and]
end Go.Proofs.YtgkceafhagfkhaaDoor.M
namespace Go.Proofs.YtgkceafhagfkhaaDoor.V
open Go.RowKit

set_option maxRecDepth 100000 in
set_option maxHeartbeats 4000000 in
theorem iRow (s : ByteArray) (w : World) (hs : s.size ≤ 1048576) (hm : MaxC w) (htab : ∀ w', Below w.heap.size w w' → Lib.TabIs Tryd.prog w' "internal/strconv.uint64pow10" .u64 Lib.pow10Tab) (hsent : ∀ w', Below w.heap.size w w' → Sent w') :
    Calls Tryd.prog 25 #[.string s] w (RPost (M.rowI s.data.toList) w) := by
  have hlen : s.data.toList.length = s.size := Array.length_toList
  have HLEN := Lib.hid hlen
  clear hlen
  have HM := Lib.hid hm
  have HTB := Lib.hid htab
  have HSE := Lib.hid hsent
  clear hm htab hsent
  go_enter Tryd.func25, Tryd.ntmps25
  go_wp2_with fail
  refine (splitN11 s 44 _ hs HM.out).mono ?_
  rintro e w1 ⟨a1, cap1, rfl, ho, hb⟩
  obtain ⟨L, hL⟩ : ∃ L, L = M.cutN 44 s.data.toList := ⟨_, rfl⟩
  have hpc : ∀ x ∈ L, x.length ≤ s.size := fun x hx => by
    rw [hL] at hx
    have := M.cutN_piece _ _ x hx
    rw [HLEN.out] at this
    exact this
  have hln : L.length ≤ 11 := by
    have := M.cutN_len 44 s.data.toList
    rw [← hL] at this
    exact this
  have HR : Hid (M.rowI s.data.toList = M.rowOf L) := by show _ = _; rw [hL]; rfl
  rw [← hL] at ho ⊢
  have HPC := Lib.hid hpc
  have hne : 0 < L.length := by rw [hL]; exact M.cutN_ne _ _
  obtain ⟨n, hn⟩ : ∃ n, n = L.length := ⟨_, rfl⟩
  rw [← hn] at ho hln hne ⊢
  obtain ⟨g, rfl, -⟩ := ho.head (by omega)
  have HN := Lib.hid hn
  have HO := Lib.hid ho
  have HB := Lib.hid hb
  have hz : w.heap.size ≤ w1.heap.size := hb.size
  have hO0 : Hid (Own w1 w1.heap.size (.slice none 0 0) []) := own_nil _ _
  clear ho hb hL hpc hn
  go_wp2
  go_loopw [4, 12] (fun out i wr => ∃ (k : Nat) (b : Option Addr) (cp : Nat), k ≤ n ∧ i = .int .i64 k ∧ out = .slice b k cp ∧ Hid (Own wr w1.heap.size (.slice b k cp) ((L.take k).map fun t => (M.readM t).1)) ∧ Hid (∀ j, j < k → (M.readM (L.getD j [])).2 = true) ∧ Below w1.heap.size w1 wr) (fun _ i _ => n - (intOf i).toNat)
  case atStart => exact ⟨0, _, _, Nat.zero_le _, rfl, rfl, hO0, fun j hj => absurd hj (Nat.not_lt_zero j), Below.refl _ _⟩
  case round =>
    obtain ⟨k, b, cp, hk, rfl, rfl, HOo, HJ, hb⟩ := hrel
    obtain ⟨wo, rfl⟩ : ∃ x, x = wr := ⟨_, rfl⟩
    have HBo := Lib.hid hb
    clear hb hO0
    by_cases hlt : k < n
    · have hki : (k : Int) < (n : Int) := by omega
      have hkl : k < L.length := by rw [← HN.out]; exact hlt
      obtain ⟨x, hx⟩ : ∃ x, x = L.getD k [] := ⟨_, rfl⟩
      have hxm : x ∈ L := by rw [hx]; exact M.getD_mem L [] k hkl
      have hxs := HPC.out x hxm
      obtain ⟨q, hq⟩ : ∃ q : ByteArray, q = ⟨x.toArray⟩ := ⟨_, rfl⟩
      have hqd : q.data.toList = x := by rw [hq]
      have hqs : q.size ≤ 1048576 := by
        have : q.size = x.length := by rw [hq]; simp [ByteArray.size]
        omega
      have hcell : wo.cell? ⟨g, k, none⟩ = some (.string q) := by rw [hq, hx]; exact (HO.out.below HBo.out).cellAt k hlt
      obtain ⟨z, hz0⟩ : ∃ z, z = (M.readM x).1 := ⟨_, rfl⟩
      have HZ := Lib.hid hz0
      have HXM := Lib.hid hxm
      have HX := Lib.hid hx
      by_cases hok : (M.readM x).2 = true
      · have HC : Hid (∀ W, Below w.heap.size w W → Calls Tryd.prog 47 #[.string q] W fun e w' => e = .returned (.tuple #[.int .i64 z, .bool true]) ∧ Below W.heap.size W w') := fun W hW => by
          have := readValue q W hqs (fun w' h => HTB.out w' (hW.trans (h.mono hW.size))) (fun w' h => HSE.out w' (hW.trans (h.mono hW.size)))
          unfold DigPost at this
          rw [hqd, M.read_eq, ← hz0, hok] at this
          exact this
        have HOK := Lib.hid hok
        clear hok hqd hqs hq hx hxm hz0 hxs
        go_wp2_with fail
        refine (HC.out _ (bnext HB.out HBo.out)).mono ?_
        rintro e w2 ⟨rfl, hb2⟩
        have HO2 := Lib.hid (HOo.out.below hb2)
        have HB2 := Lib.hid (HBo.out.trans (hb2.mono HBo.out.size))
        have hz2 : w1.heap.size ≤ w2.heap.size := HB2.out.size
        clear hb2
        have HLN : Hid (((L.take k).map fun t => (M.readM t).1).length = k) := by show _ = _; simp; omega
        go_wp2_with (at_builtin; refine append1 _ rfl (.tmp 23) (.tmp 25) rfl w1.heap.size _ _ _ k HLN.out rfl HO2.out rfl (by rw [HLN.out]; omega) hz2 ?_)
        intro b2 c2 w3 hO2 hb3 _
        have HO3 : Hid (Own w3 w1.heap.size (.slice b2 (k + 1) c2) ((L.take (k + 1)).map fun t => (M.readM t).1)) := by
          show Own _ _ _ _
          rw [take_snoc L [] k hkl, List.map_append, List.map_singleton, ← HX.out, ← HZ.out, List.map_take]
          exact hO2
        have HB3 := Lib.hid (HB2.out.trans hb3)
        clear hO2 hb3
        go_wp2
        go_roundw
        case rel =>
          refine ⟨k + 1, _, _, by omega, by go_num, rfl, HO3, fun j hj => ?_, HB3.out⟩
          by_cases e : j = k
          · subst e; rw [← HX.out]; exact HOK.out
          · exact HJ.out j (by omega)
        case measure => simp [intOf]; omega
      · simp only [Bool.not_eq_true] at hok
        have HC : Hid (∀ W, Below w.heap.size w W → Calls Tryd.prog 47 #[.string q] W fun e w' => e = .returned (.tuple #[.int .i64 z, .bool false]) ∧ Below W.heap.size W w') := fun W hW => by
          have := readValue q W hqs (fun w' h => HTB.out w' (hW.trans (h.mono hW.size))) (fun w' h => HSE.out w' (hW.trans (h.mono hW.size)))
          unfold DigPost at this
          rw [hqd, M.read_eq, ← hz0, hok] at this
          exact this
        have HOK := Lib.hid hok
        clear hok hqd hqs hq hx hxm hz0 hxs
        go_wp2_with fail
        refine (HC.out _ (bnext HB.out HBo.out)).mono ?_
        rintro e w2 ⟨rfl, hb2⟩
        have HB2 := Lib.hid (bnext HB.out (HBo.out.trans (hb2.mono HBo.out.size)))
        clear hb2
        go_wp2
        go_ret2
        rw [HR.out, M.rowOf_bad2 HXM.out HOK.out]
        exact ⟨none, 0, rfl, own_nil _ _, HB2.out⟩
    · obtain rfl : k = n := by omega
      have HB2 := Lib.hid (bnext HB.out HBo.out)
      go_wp2
      go_ret2
      rw [HR.out, M.rowOf_ok (fun j hj => HJ.out j (by have := HN.out; omega))]
      have e : L.take k = L := List.take_of_length_le (by rw [HN.out]; exact Nat.le_refl _)
      have ho := HOo.out
      rw [e] at ho
      have hl : (L.map fun t => (M.readM t).1).length = k := by rw [List.length_map, HN.out]
      refine ⟨b, cp, ?_, ?_, HB2.out⟩
      · show Ending.returned _ = Ending.returned (.tuple #[.slice b (L.map fun t => (M.readM t).1).length cp, .bool true])
        rw [hl]; rfl
      · show Own _ _ (.slice b (L.map fun t => (M.readM t).1).length cp) _
        rw [hl]; exact ho.mono hz

/-- A matrix and whether it could be read. -/
def MRPost (r : List (List Int) × Bool) (w : World) (e : Ending) (w' : World) : Prop :=
  ∃ a cap, e = .returned (.tuple #[.slice a r.1.length cap, .bool r.2]) ∧ OwnM w' w.heap.size (.slice a r.1.length cap) r.1 ∧ Below w.heap.size w w'

set_option maxRecDepth 100000 in
set_option maxHeartbeats 4000000 in
theorem sReadMatrix (s : ByteArray) (w : World) (hs : s.size ≤ 1048576) :
    Calls Tryd.prog 11 #[.string s] w (MRPost (M.readS s.data.toList) w) := by
  have hlen : s.data.toList.length = s.size := Array.length_toList
  have HLEN := Lib.hid hlen
  clear hlen
  go_enter Tryd.func11, Tryd.ntmps11
  go_wp2_with fail
  refine (sSplit s 59 59 _ rfl hs).mono ?_
  rintro e w1 ⟨a1, cap1, rfl, ho, hb⟩
  obtain ⟨L, hL⟩ : ∃ L, L = M.splitL 59 s.data.toList := ⟨_, rfl⟩
  have hpc : ∀ x ∈ L, x.length ≤ s.size := fun x hx => by
    rw [hL] at hx
    have := M.splitL_piece _ _ x hx
    rw [HLEN.out] at this
    exact this
  have hln : L.length ≤ s.size + 1 := by
    have := M.splitL_len 59 s.data.toList
    rw [← hL, HLEN.out] at this
    exact this
  have HR : Hid (M.readS s.data.toList = M.matOf M.rowS L) := by show _ = _; rw [hL]; rfl
  rw [← hL] at ho ⊢
  have HPC := Lib.hid hpc
  have hne : 0 < L.length := by rw [hL]; exact List.length_pos_iff.2 (M.splitL_ne _ _)
  obtain ⟨n, hn⟩ : ∃ n, n = L.length := ⟨_, rfl⟩
  rw [← hn] at ho hln hne ⊢
  obtain ⟨g, rfl, -⟩ := ho.head (by omega)
  have HN := Lib.hid hn
  have HO := Lib.hid ho
  have HB := Lib.hid hb
  have hz : w.heap.size ≤ w1.heap.size := hb.size
  have hO0 : Hid (OwnM (w1.alloc (.cells #[] 39)) w1.heap.size (.slice (some ⟨w1.heap.size, 0, none⟩) 0 0) []) := ownM_lit0 w1 _ (Nat.le_refl _)
  clear ho hb hL hpc hn
  go_wp2
  go_loopw [5, 6] (fun out i wr => ∃ (k : Nat) (b : Option Addr) (cp : Nat), k ≤ n ∧ i = .int .i64 k ∧ out = .slice b k cp ∧ Hid (OwnM wr w1.heap.size (.slice b k cp) ((L.take k).map fun t => (M.rowS t).1)) ∧ Hid (∀ j, j < k → (M.rowS (L.getD j [])).2 = true) ∧ Below w1.heap.size w1 wr) (fun _ i _ => n - (intOf i).toNat)
  case atStart => exact ⟨0, _, _, Nat.zero_le _, rfl, rfl, hO0, fun j hj => absurd hj (Nat.not_lt_zero j), b_alloc _ _⟩
  case round =>
    obtain ⟨k, b, cp, hk, rfl, rfl, HOo, HJ, hb⟩ := hrel
    obtain ⟨wo, rfl⟩ : ∃ x, x = wr := ⟨_, rfl⟩
    have HBo := Lib.hid hb
    clear hb hO0
    by_cases hlt : k < n
    · have hki : (k : Int) < (n : Int) := by omega
      have hkl : k < L.length := by rw [← HN.out]; exact hlt
      obtain ⟨x, hx⟩ : ∃ x, x = L.getD k [] := ⟨_, rfl⟩
      have hxm : x ∈ L := by rw [hx]; exact M.getD_mem L [] k hkl
      have hxs := HPC.out x hxm
      obtain ⟨q, hq⟩ : ∃ q : ByteArray, q = ⟨x.toArray⟩ := ⟨_, rfl⟩
      have hqd : q.data.toList = x := by rw [hq]
      have hqs : q.size ≤ 1048576 := by
        have : q.size = x.length := by rw [hq]; simp [ByteArray.size]
        omega
      have hcell : wo.cell? ⟨g, k, none⟩ = some (.string q) := by rw [hq, hx]; exact (HO.out.below HBo.out).cellAt k hlt
      obtain ⟨z, hz0⟩ : ∃ z, z = (M.rowS x).1 := ⟨_, rfl⟩
      obtain ⟨ok, hok⟩ : ∃ ok, ok = (M.rowS x).2 := ⟨_, rfl⟩
      have HZ := Lib.hid hz0
      have HXM := Lib.hid hxm
      have HX := Lib.hid hx
      have HOK := Lib.hid hok
      have HC : Hid (∀ W, Calls Tryd.prog 29 #[.string q] W (RPost (z, ok) W)) := fun W => by
        have := sRead q W hqs
        rw [hqd] at this
        have e : M.rowS x = (z, ok) := by rw [hz0, hok]
        rw [e] at this
        exact this
      clear hok hqd hqs hq hx hxm hz0 hxs
      go_wp2_with fail
      refine (HC.out _).mono ?_
      rintro e w2 ⟨ra, rc, rfl, hro, hb2⟩
      have HRO := Lib.hid hro
      have HBB := Lib.hid hb2
      have HB2 := Lib.hid (HBo.out.trans (hb2.mono HBo.out.size))
      have hz1 : w1.heap.size ≤ wo.heap.size := HBo.out.size
      clear hb2 hro
      by_cases hk2 : ok = true
      · have HLN : Hid (((L.take k).map fun t => (M.rowS t).1).length = k) := by show _ = _; simp; omega
        go_wp2_with (at_builtin; refine appendRow wo _ rfl (.tmp 28) (.tmp 30) rfl w1.heap.size _ _ _ _ k HLN.out rfl HOo.out HBB.out HRO.out rfl (by rw [HLN.out]; omega) hz1 ?_)
        intro b2 c2 w3 hO2 hb3 _
        have HO3 : Hid (OwnM w3 w1.heap.size (.slice b2 (k + 1) c2) ((L.take (k + 1)).map fun t => (M.rowS t).1)) := by
          show OwnM _ _ _ _
          rw [take_snoc L [] k hkl, List.map_append, List.map_singleton, ← HX.out, ← HZ.out, List.map_take]
          exact hO2
        have HB3 := Lib.hid (HB2.out.trans hb3)
        clear hO2 hb3
        go_wp2
        go_roundw
        case rel =>
          refine ⟨k + 1, _, _, by omega, by go_num, rfl, HO3, fun j hj => ?_, HB3.out⟩
          by_cases e : j = k
          · subst e; rw [← HX.out, ← HOK.out]; exact hk2
          · exact HJ.out j (by omega)
        case measure => simp [intOf]; omega
      · simp only [Bool.not_eq_true] at hk2
        subst hk2
        have HB4 := Lib.hid (bnext HB.out HB2.out)
        go_wp2
        go_ret2
        rw [HR.out, M.matOf_bad2 HXM.out HOK.out.symm]
        exact ⟨none, 0, rfl, ownM_nil _ _, HB4.out⟩
    · obtain rfl : k = n := by omega
      have e : L.take k = L := List.take_of_length_le (by rw [HN.out]; exact Nat.le_refl _)
      have ho := HOo.out
      rw [e] at ho
      have hl : (L.map fun t => (M.rowS t).1).length = k := by rw [List.length_map, HN.out]
      have HL := Lib.hid hl
      have HOf := Lib.hid ho
      have HMO : Hid (M.matOf M.rowS L = if M.isMat (L.map fun t => (M.rowS t).1) then (L.map (fun t => (M.rowS t).1), true) else ([], false)) := M.matOf_ok (fun j hj => HJ.out j (by have := HN.out; omega))
      clear e ho hl
      by_cases hm : M.isMat (L.map fun t => (M.rowS t).1) = true
      · have HIM := Lib.hid hm
        clear hm
        go_wp2_with (go_at_call 30; refine (sIsMatrixB_b _ _ _ _ _ _ HIM.out HOf.out.mat).mono ?_; rintro e wm ⟨rfl, hbm⟩)
        go_ret2
        rw [HR.out, HMO.out, if_pos HIM.out]
        refine ⟨b, cp, ?_, ?_, bnext HB.out (HBo.out.trans (hbm.mono HBo.out.size))⟩
        · show Ending.returned _ = Ending.returned (.tuple #[.slice b (L.map fun t => (M.rowS t).1).length cp, .bool true])
          rw [HL.out]; rfl
        · show OwnM _ _ (.slice b (L.map fun t => (M.rowS t).1).length cp) _
          rw [HL.out]; exact (HOf.out.below hbm).mono hz
      · simp only [Bool.not_eq_true] at hm
        have HIM := Lib.hid hm
        clear hm
        go_wp2_with (go_at_call 30; refine (sIsMatrixB_b _ _ _ _ _ _ HIM.out HOf.out.mat).mono ?_; rintro e wm ⟨rfl, hbm⟩)
        go_ret2
        rw [HR.out, HMO.out, if_neg (by rw [HIM.out]; exact Bool.false_ne_true)]
        exact ⟨none, 0, rfl, ownM_nil _ _, bnext HB.out (HBo.out.trans (hbm.mono HBo.out.size))⟩

set_option maxRecDepth 100000 in
set_option maxHeartbeats 4000000 in
theorem iReadMatrix (s : ByteArray) (w : World) (hs : s.size ≤ 1048576) (hm : MaxC w) (htab : ∀ w', Below w.heap.size w w' → Lib.TabIs Tryd.prog w' "internal/strconv.uint64pow10" .u64 Lib.pow10Tab) (hsent : ∀ w', Below w.heap.size w w' → Sent w') :
    Calls Tryd.prog 9 #[.string s] w (MRPost (M.readMI s.data.toList) w) := by
  have hlen : s.data.toList.length = s.size := Array.length_toList
  have HLEN := Lib.hid hlen
  clear hlen
  have HM := Lib.hid hm
  have HTB := Lib.hid htab
  have HSE := Lib.hid hsent
  clear hm htab hsent
  go_enter Tryd.func9, Tryd.ntmps9
  go_wp2_with fail
  refine (splitN11 s 59 _ hs HM.out).mono ?_
  rintro e w1 ⟨a1, cap1, rfl, ho, hb⟩
  obtain ⟨L, hL⟩ : ∃ L, L = M.cutN 59 s.data.toList := ⟨_, rfl⟩
  have hpc : ∀ x ∈ L, x.length ≤ s.size := fun x hx => by
    rw [hL] at hx
    have := M.cutN_piece _ _ x hx
    rw [HLEN.out] at this
    exact this
  have hln : L.length ≤ 11 := by
    have := M.cutN_len 59 s.data.toList
    rw [← hL] at this
    exact this
  have HR : Hid (M.readMI s.data.toList = M.matOf M.rowI L) := by show _ = _; rw [hL]; rfl
  rw [← hL] at ho ⊢
  have HPC := Lib.hid hpc
  have hne : 0 < L.length := by rw [hL]; exact M.cutN_ne _ _
  obtain ⟨n, hn⟩ : ∃ n, n = L.length := ⟨_, rfl⟩
  rw [← hn] at ho hln hne ⊢
  obtain ⟨g, rfl, -⟩ := ho.head (by omega)
  have HN := Lib.hid hn
  have HO := Lib.hid ho
  have HB := Lib.hid hb
  have hz : w.heap.size ≤ w1.heap.size := hb.size
  have hO0 : Hid (OwnM w1 w1.heap.size (.slice none 0 0) []) := ownM_nil _ _
  clear ho hb hL hpc hn
  go_wp2
  go_loopw [4, 12] (fun out i wr => ∃ (k : Nat) (b : Option Addr) (cp : Nat), k ≤ n ∧ i = .int .i64 k ∧ out = .slice b k cp ∧ Hid (OwnM wr w1.heap.size (.slice b k cp) ((L.take k).map fun t => (M.rowI t).1)) ∧ Hid (∀ j, j < k → (M.rowI (L.getD j [])).2 = true) ∧ Below w1.heap.size w1 wr) (fun _ i _ => n - (intOf i).toNat)
  case atStart => exact ⟨0, _, _, Nat.zero_le _, rfl, rfl, hO0, fun j hj => absurd hj (Nat.not_lt_zero j), Below.refl _ _⟩
  case round =>
    obtain ⟨k, b, cp, hk, rfl, rfl, HOo, HJ, hb⟩ := hrel
    obtain ⟨wo, rfl⟩ : ∃ x, x = wr := ⟨_, rfl⟩
    have HBo := Lib.hid hb
    clear hb hO0
    by_cases hlt : k < n
    · have hki : (k : Int) < (n : Int) := by omega
      have hkl : k < L.length := by rw [← HN.out]; exact hlt
      obtain ⟨x, hx⟩ : ∃ x, x = L.getD k [] := ⟨_, rfl⟩
      have hxm : x ∈ L := by rw [hx]; exact M.getD_mem L [] k hkl
      have hxs := HPC.out x hxm
      obtain ⟨q, hq⟩ : ∃ q : ByteArray, q = ⟨x.toArray⟩ := ⟨_, rfl⟩
      have hqd : q.data.toList = x := by rw [hq]
      have hqs : q.size ≤ 1048576 := by
        have : q.size = x.length := by rw [hq]; simp [ByteArray.size]
        omega
      have hcell : wo.cell? ⟨g, k, none⟩ = some (.string q) := by rw [hq, hx]; exact (HO.out.below HBo.out).cellAt k hlt
      obtain ⟨z, hz0⟩ : ∃ z, z = (M.rowI x).1 := ⟨_, rfl⟩
      obtain ⟨ok, hok⟩ : ∃ ok, ok = (M.rowI x).2 := ⟨_, rfl⟩
      have HZ := Lib.hid hz0
      have HXM := Lib.hid hxm
      have HX := Lib.hid hx
      have HOK := Lib.hid hok
      have HC : Hid (∀ W, Below w.heap.size w W → Calls Tryd.prog 25 #[.string q] W (RPost (z, ok) W)) := fun W hW => by
        have := iRow q W hqs (HM.out.below hW) (fun w' h => HTB.out w' (hW.trans (h.mono hW.size))) (fun w' h => HSE.out w' (hW.trans (h.mono hW.size)))
        rw [hqd] at this
        have e : M.rowI x = (z, ok) := by rw [hz0, hok]
        rw [e] at this
        exact this
      clear hok hqd hqs hq hx hxm hz0 hxs
      go_wp2_with fail
      refine (HC.out _ (bnext HB.out HBo.out)).mono ?_
      rintro e w2 ⟨ra, rc, rfl, hro, hb2⟩
      have HRO := Lib.hid hro
      have HBB := Lib.hid hb2
      have HB2 := Lib.hid (HBo.out.trans (hb2.mono HBo.out.size))
      have hz1 : w1.heap.size ≤ wo.heap.size := HBo.out.size
      clear hb2 hro
      by_cases hk2 : ok = true
      · have HLN : Hid (((L.take k).map fun t => (M.rowI t).1).length = k) := by show _ = _; simp; omega
        go_wp2_with (at_builtin; refine appendRow wo _ rfl (.tmp 23) (.tmp 25) rfl w1.heap.size _ _ _ _ k HLN.out rfl HOo.out HBB.out HRO.out rfl (by rw [HLN.out]; omega) hz1 ?_)
        intro b2 c2 w3 hO2 hb3 _
        have HO3 : Hid (OwnM w3 w1.heap.size (.slice b2 (k + 1) c2) ((L.take (k + 1)).map fun t => (M.rowI t).1)) := by
          show OwnM _ _ _ _
          rw [take_snoc L [] k hkl, List.map_append, List.map_singleton, ← HX.out, ← HZ.out, List.map_take]
          exact hO2
        have HB3 := Lib.hid (HB2.out.trans hb3)
        clear hO2 hb3
        go_wp2
        go_roundw
        case rel =>
          refine ⟨k + 1, _, _, by omega, by go_num, rfl, HO3, fun j hj => ?_, HB3.out⟩
          by_cases e : j = k
          · subst e; rw [← HX.out, ← HOK.out]; exact hk2
          · exact HJ.out j (by omega)
        case measure => simp [intOf]; omega
      · simp only [Bool.not_eq_true] at hk2
        subst hk2
        have HB4 := Lib.hid (bnext HB.out HB2.out)
        go_wp2
        go_ret2
        rw [HR.out, M.matOf_bad2 HXM.out HOK.out.symm]
        exact ⟨none, 0, rfl, ownM_nil _ _, HB4.out⟩
    · obtain rfl : k = n := by omega
      have e : L.take k = L := List.take_of_length_le (by rw [HN.out]; exact Nat.le_refl _)
      have ho := HOo.out
      rw [e] at ho
      have hl : (L.map fun t => (M.rowI t).1).length = k := by rw [List.length_map, HN.out]
      have HL := Lib.hid hl
      have HOf := Lib.hid ho
      have HMO : Hid (M.matOf M.rowI L = if M.isMat (L.map fun t => (M.rowI t).1) then (L.map (fun t => (M.rowI t).1), true) else ([], false)) := M.matOf_ok (fun j hj => HJ.out j (by have := HN.out; omega))
      clear e ho hl
      by_cases hm : M.isMat (L.map fun t => (M.rowI t).1) = true
      · have HIM := Lib.hid hm
        clear hm
        go_wp2_with (go_at_call 21; refine (isMatrix_b _ _ _ _ _ _ HIM.out HOf.out.mat).mono ?_; rintro e w' ⟨rfl, rfl⟩)
        go_ret2
        rw [HR.out, HMO.out, if_pos HIM.out]
        refine ⟨b, cp, ?_, ?_, bnext HB.out HBo.out⟩
        · show Ending.returned _ = Ending.returned (.tuple #[.slice b (L.map fun t => (M.rowI t).1).length cp, .bool true])
          rw [HL.out]; rfl
        · show OwnM _ _ (.slice b (L.map fun t => (M.rowI t).1).length cp) _
          rw [HL.out]; exact HOf.out.mono hz
      · simp only [Bool.not_eq_true] at hm
        have HIM := Lib.hid hm
        clear hm
        go_wp2_with (go_at_call 21; refine (isMatrix_b _ _ _ _ _ _ HIM.out HOf.out.mat).mono ?_; rintro e w' ⟨rfl, rfl⟩)
        go_ret2
        rw [HR.out, HMO.out, if_neg (by rw [HIM.out]; exact Bool.false_ne_true)]
        exact ⟨none, 0, rfl, ownM_nil _ _, bnext HB.out HBo.out⟩
end Go.Proofs.YtgkceafhagfkhaaDoor.V

namespace Go.Proofs.YtgkceafhagfkhaaDoor.V
open Go.Lib

theorem join_two (x y : List UInt8) (r : List (List UInt8)) (c : UInt8) : join (x :: y :: r) [c] = x ++ c :: join (y :: r) [c] := by
  rw [join_cons, join_cons, joinTail, joinTail, List.map_cons, List.flatten_cons]
  simp
theorem splitL_join (c : UInt8) (L : List (List UInt8)) (hne : L ≠ []) (h : ∀ x ∈ L, ∀ b ∈ x, b ≠ c) : M.splitL c (join L [c]) = L := by
  induction L with
  | nil => exact absurd rfl hne
  | cons x r ih =>
    cases r with
    | nil => rw [join_one, M.splitL_miss c x (h x (by simp))]
    | cons y r =>
      rw [join_two, M.splitL_hit c x _ (h x (by simp)), ih (by simp) (fun z hz => h z (List.mem_cons_of_mem _ hz))]
theorem join_splitL (c : UInt8) (l : List UInt8) : join (M.splitL c l) [c] = l := by
  induction l with
  | nil => rfl
  | cons b l ih =>
    rw [M.splitL]
    cases h : M.splitL c l with
    | nil => exact absurd h (M.splitL_ne c l)
    | cons y r =>
      rw [h] at ih
      split
      · next e => rw [join_two, ih, e]; rfl
      · rw [List.headD_cons, List.tail_cons, join_cons, List.cons_append, ← join_cons, ih]
theorem mem_join {b : UInt8} {c : UInt8} {L : List (List UInt8)} (h : b ∈ join L [c]) : (∃ x ∈ L, b ∈ x) ∨ b = c := by
  induction L with
  | nil => simp [join_nil] at h
  | cons x r ih =>
    cases r with
    | nil => rw [join_one] at h; exact .inl ⟨x, by simp, h⟩
    | cons y r =>
      rw [join_two] at h
      rcases List.mem_append.1 h with h | h
      · exact .inl ⟨x, by simp, h⟩
      · rcases List.mem_cons.1 h with h | h
        · exact .inr h
        · rcases ih h with ⟨z, hz, hb⟩ | e
          · exact .inl ⟨z, List.mem_cons_of_mem _ hz, hb⟩
          · exact .inr e
theorem vtxt_bytes {a : Int} (h : M.isVal a = true) : ∀ b ∈ vtxt a, b ≠ 44 ∧ b ≠ 59 := by
  intro b hb
  rw [vtxt, if_pos h, txt] at hb
  have key : b.toNat ≠ 44 ∧ b.toNat ≠ 59 → b ≠ 44 ∧ b ≠ 59 := fun h => ⟨fun e => h.1 (by rw [e]; rfl), fun e => h.2 (by rw [e]; rfl)⟩
  apply key
  split at hb
  · simp at hb; subst hb; decide
  · rw [itoa] at hb
    split at hb
    · rcases List.mem_cons.1 hb with rfl | hb
      · decide
      · have := M.dec_digits _ b hb; omega
    · have := M.dec_digits _ b hb; omega
theorem itoa_ne' {a : Int} (h : M.isFin a = true) : Go.Lib.itoa a ≠ [] ∧ Go.Lib.itoa a ≠ [46] := by
  have hs := M.sgn_itoa h
  constructor
  · intro e
    rw [e] at hs
    have := congrArg Prod.snd hs
    simp [M.sgnM, M.digM] at this
  · intro e
    rw [e] at hs
    have := congrArg Prod.snd hs
    simp [M.sgnM, M.digM, M.isDigs] at this
theorem readM_v {a : Int} (h : M.isVal a = true) : M.readM (vtxt a) = (a, true) ∧ vtxt a ≠ [] := by
  rw [vtxt, if_pos h, txt]
  by_cases hb : a = -1000000000000000
  · rw [if_pos hb, hb]
    exact ⟨by rw [M.readM, if_pos rfl], by simp⟩
  · have hf : M.isFin a = true := by
      rcases M.isVal_t h with h | h
      · exact absurd h hb
      · simp [M.isFin, h]
    rw [if_neg hb]
    refine ⟨?_, (itoa_ne' hf).1⟩
    rw [← M.read_eq, M.readI, if_neg (itoa_ne' hf).2, M.parse_itoa hf]
    simp [hf]
theorem vtxt_r {l : List UInt8} (h : (M.readM l).2 = true) : vtxt (M.readM l).1 = l := by
  rw [← M.read_eq] at h ⊢
  rw [M.readI] at h ⊢
  by_cases hl : l = [46]
  · rw [if_pos hl] at h ⊢
    show vtxt (-1000000000000000) = l
    rw [vtxt, if_pos M.bot_val, txt, if_pos rfl, hl]
  · rw [if_neg hl] at h ⊢
    cases hp : Go.Lib.parseIntB 64 l
    next n =>
      rw [hp] at h
      by_cases hc : (M.isFin n && decide (Go.Lib.itoa n = l)) = true
      · simp only [hc, if_true]
        simp only [Bool.and_eq_true, decide_eq_true_eq] at hc
        have hne : ¬ n = -1000000000000000 := by have := M.isFin_t hc.1; omega
        rw [vtxt, if_pos (M.isVal_of_fin hc.1), txt, if_neg hne, hc.2]
      · simp only [Bool.not_eq_true] at hc
        simp [hc] at h
    all_goals
      rw [hp] at h
      simp at h
theorem rowS_t {r : List Int} (h : M.isVec r = true) : M.rowS (rtxt r) = (r, true) ∧ rtxt r ≠ [] := by
  obtain ⟨h1, h2, h3⟩ := M.isVec_t h
  have hv : ∀ a ∈ r, M.isVal a = true := fun a ha => by
    obtain ⟨j, hj, rfl⟩ := List.getElem_of_mem ha
    have := h3 j hj
    simpa [hj] using this
  have e : M.splitL 44 (rtxt r) = r.map vtxt := splitL_join 44 _ (by intro e; have := congrArg List.length e; simp at this; simp [this] at h1) (fun x hx b hb => by
    obtain ⟨a, ha, rfl⟩ := List.mem_map.1 hx
    exact (vtxt_bytes (hv a ha) b hb).1)
  refine ⟨?_, ?_⟩
  · rw [M.rowS, e, M.rowOf, if_pos]
    · rw [List.map_map]
      congr 1
      conv => rhs; rw [← List.map_id r]
      exact List.map_congr_left fun a ha => by
        show (M.readM (vtxt a)).1 = a
        rw [(readM_v (hv a ha)).1]
    · rw [List.all_eq_true]
      intro x hx
      obtain ⟨a, ha, rfl⟩ := List.mem_map.1 hx
      rw [(readM_v (hv a ha)).1]
  · cases r with
    | nil => simp at h1
    | cons a r =>
      rw [rtxt, List.map_cons, join_cons]
      intro e
      exact (readM_v (hv a (by simp))).2 (List.append_eq_nil_iff.1 e).1
theorem rowS_s {l : List UInt8} (h : (M.rowS l).2 = true) : rtxt (M.rowS l).1 = l := by
  rw [M.rowS, M.rowOf] at h ⊢
  split at h
  · next hc =>
    rw [if_pos hc]
    show join (((M.splitL 44 l).map fun t => (M.readM t).1).map vtxt) [44] = l
    rw [List.map_map]
    have e : (M.splitL 44 l).map (vtxt ∘ fun t => (M.readM t).1) = M.splitL 44 l := by
      conv => rhs; rw [← List.map_id (M.splitL 44 l)]
      exact List.map_congr_left fun t ht => vtxt_r (List.all_eq_true.1 hc t ht)
    rw [e, join_splitL]
  · cases h
theorem isMat_rows {R : List (List Int)} (h : M.isMat R = true) : R ≠ [] ∧ ∀ r ∈ R, M.isVec r = true := by
  unfold M.isMat at h
  simp only [Bool.and_eq_true, decide_eq_true_eq, List.all_eq_true] at h
  exact ⟨fun e => by rw [e] at h; simp at h, fun r hr => (h.2 r hr).1⟩
theorem readS_t {R : List (List Int)} (h : M.isMat R = true) : M.readS (mtxt R) = (R, true) ∧ mtxt R ≠ [] := by
  obtain ⟨h1, h2⟩ := isMat_rows h
  rw [mtxt, if_pos h]
  have e : M.splitL 59 (join (R.map rtxt) [59]) = R.map rtxt := splitL_join 59 _ (by simpa using h1) (fun x hx b hb => by
    obtain ⟨r, hr, rfl⟩ := List.mem_map.1 hx
    obtain ⟨-, -, h3⟩ := M.isVec_t (h2 r hr)
    rcases mem_join hb with ⟨y, hy, hby⟩ | e
    · obtain ⟨a, ha, rfl⟩ := List.mem_map.1 hy
      obtain ⟨j, hj, rfl⟩ := List.getElem_of_mem ha
      have := h3 j hj
      exact (vtxt_bytes (by simpa [hj] using this) b hby).2
    · rw [e]; decide)
  refine ⟨?_, ?_⟩
  · have em : (R.map rtxt).map (fun t => (M.rowS t).1) = R := by
      rw [List.map_map]
      conv => rhs; rw [← List.map_id R]
      exact List.map_congr_left fun r hr => by
        show (M.rowS (rtxt r)).1 = r
        rw [(rowS_t (h2 r hr)).1]
    rw [M.readS, e, M.matOf, em, h, Bool.and_true, if_pos]
    rw [List.all_eq_true]
    intro x hx
    obtain ⟨r, hr, rfl⟩ := List.mem_map.1 hx
    rw [(rowS_t (h2 r hr)).1]
  · cases R with
    | nil => exact absurd rfl h1
    | cons r R =>
      rw [List.map_cons, join_cons]
      intro e
      exact (rowS_t (h2 r (by simp))).2 (List.append_eq_nil_iff.1 e).1
theorem readS_nil : M.readS [] = ([], false) := by
  simp [M.readS, M.splitL, M.matOf, M.rowS, M.rowOf, M.readM, M.sgnM, M.digM]
theorem readS_s {l : List UInt8} (h : (M.readS l).2 = true) : mtxt (M.readS l).1 = l := by
  rw [M.readS, M.matOf] at h ⊢
  split at h
  · next hc =>
    rw [if_pos hc]
    rw [Bool.and_eq_true] at hc
    show mtxt ((M.splitL 59 l).map fun t => (M.rowS t).1) = l
    rw [mtxt, if_pos hc.2, List.map_map]
    have e : (M.splitL 59 l).map (rtxt ∘ fun t => (M.rowS t).1) = M.splitL 59 l := by
      conv => rhs; rw [← List.map_id (M.splitL 59 l)]
      exact List.map_congr_left fun t ht => rowS_s (List.all_eq_true.1 hc.1 t ht)
    rw [e, join_splitL]
  · cases h
theorem mtxt_len (R : List (List Int)) : (mtxt R).length ≤ 2110 := by
  rw [mtxt]
  split
  · next h =>
    obtain ⟨h1, h2, -⟩ := M.isMat_t h
    have := joinT_len (R.map rtxt) [59] 210 (fun x hx => by
      obtain ⟨r, hr, rfl⟩ := List.mem_map.1 hx
      have := rtxt_len r
      have := (M.isVec_t ((isMat_rows h).2 r hr)).2.1
      omega)
    simp at this
    omega
  · simp
end Go.Proofs.YtgkceafhagfkhaaDoor.V
