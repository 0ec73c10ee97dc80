/- readRow in the program; ReadMatrix on both sides. -/
import Derived.Test.YtackennmjmobdaaDoorRows
import Derived.Test.YtackennmjmobdaaDoorMath1
import Derived.Test.YtackennmjmobdaaDoorList
import Derived.Test.YtackennmjmobdaaDoorMatM
import Derived.Test.YtackennmjmobdaaDoorHelp
import Derived.Test.YtackennmjmobdaaDoorRows0
import Derived.Test.YtackennmjmobdaaDoorOwn
import Derived.Test.YtackennmjmobdaaDoorMat0
import Derived.WalkKit
import Derived.ProofKit
import Derived.WalkSmall
import Derived.Deep.QuietTactic
import Derived.BigQuiet
import Derived.BigRegion
import Derived.Deep.Draws
import Derived.Lib.Hide
import Derived.OpenShut
import Derived.Deep.OwnRows
import Derived.Maps.AppendAt
import Derived.Test.YtackennmjmobdaaDoorApp
import Derived.Test.YtackennmjmobdaaDoorTxt
import Derived.Test.YtackennmjmobdaaDoorDig
import Derived.Test.YtackennmjmobdaaDoorRv
import Derived.Test.YtackennmjmobdaaDoorTm0
import Derived.Test.YtackennmjmobdaaDoorTm1
import Derived.Test.YtackennmjmobdaaDoorTm2
import Derived.Test.YtackennmjmobdaaDoorRm1
import Derived.Test.YtackennmjmobdaaDoorSplC
import Derived.Test.YtackennmjmobdaaDoorIsMat
import Derived.Test.YtackennmjmobdaaDoorRm2
namespace Go.Proofs.YtackennmjmobdaaDoor.M
theorem matOf_bad2 {f : List UInt8 → List Int × Bool} {P : List (List UInt8)} {x : List UInt8} (hx : x ∈ P) (h : (f x).2 = false) : matOf f P = ([], false) := by
  unfold matOf
  rw [if_neg]
  intro hc
  rw [Bool.and_eq_true] at hc
  rw [List.all_eq_true.1 hc.1 x hx] at h
  cases h
theorem matOf_ok {f : List UInt8 → List Int × Bool} {P : List (List UInt8)} (h : ∀ j, j < P.length → (f (P.getD j [])).2 = true) : matOf f P = if isMat (P.map fun t => (f t).1) then (P.map (fun t => (f t).1), true) else ([], false) := by
  have e : P.all (fun t => (f t).2) = true := by
    rw [List.all_eq_true]
    intro x hx
    obtain ⟨j, hj, rfl⟩ := List.getElem_of_mem hx
    have := h j hj
    simpa [hj] using this
  unfold matOf
  rw [e, Bool.true_and]
end Go.Proofs.YtackennmjmobdaaDoor.M
namespace Go.Proofs.YtackennmjmobdaaDoor.V
open Go.RowKit

set_option maxRecDepth 100000 in
set_option maxHeartbeats 4000000 in
theorem iRow (s : ByteArray) (w : World) (hs : s.size ≤ 1048576) (hm : MaxC w) (htab : ∀ w', Below w.heap.size w w' → Lib.TabIs Tryd.prog w' "internal/strconv.uint64pow10" .u64 Lib.pow10Tab) (hsent : ∀ w', Below w.heap.size w w' → Sent w') :
    Calls Tryd.prog 25 #[.string s] w (RPost (M.rowI s.data.toList) w) := by
  have hlen : s.data.toList.length = s.size := Array.length_toList
  have HLEN := Lib.hid hlen
  clear hlen
  have HM := Lib.hid hm
  have HTB := Lib.hid htab
  have HSE := Lib.hid hsent
  clear hm htab hsent
  go_enter Tryd.func25, Tryd.ntmps25
  go_wp2_with fail
  refine (splitN11 s 44 _ hs HM.out).mono ?_
  rintro e w1 ⟨a1, cap1, rfl, ho, hb⟩
  obtain ⟨L, hL⟩ : ∃ L, L = M.cutN 44 s.data.toList := ⟨_, rfl⟩
  have hpc : ∀ x ∈ L, x.length ≤ s.size := fun x hx => by
    rw [hL] at hx
    have := M.cutN_piece _ _ x hx
    rw [HLEN.out] at this
    exact this
  have hln : L.length ≤ 11 := by
    have := M.cutN_len 44 s.data.toList
    rw [← hL] at this
    exact this
  have HR : Hid (M.rowI s.data.toList = M.rowOf L) := by show _ = _; rw [hL]; rfl
  rw [← hL] at ho ⊢
  have HPC := Lib.hid hpc
  have hne : 0 < L.length := by rw [hL]; exact M.cutN_ne _ _
  obtain ⟨n, hn⟩ : ∃ n, n = L.length := ⟨_, rfl⟩
  rw [← hn] at ho hln hne ⊢
  obtain ⟨g, rfl, -⟩ := ho.head (by omega)
  have HN := Lib.hid hn
  have HO := Lib.hid ho
  have HB := Lib.hid hb
  have hz : w.heap.size ≤ w1.heap.size := hb.size
  have hO0 : Hid (Own w1 w1.heap.size (.slice none 0 0) []) := own_nil _ _
  clear ho hb hL hpc hn
  go_wp2
  go_loopw [4, 12] (fun out i wr => ∃ (k : Nat) (b : Option Addr) (cp : Nat), k ≤ n ∧ i = .int .i64 k ∧ out = .slice b k cp ∧ Hid (Own wr w1.heap.size (.slice b k cp) ((L.take k).map fun t => (M.readM t).1)) ∧ Hid (∀ j, j < k → (M.readM (L.getD j [])).2 = true) ∧ Below w1.heap.size w1 wr) (fun _ i _ => n - (intOf i).toNat)
  case atStart => exact ⟨0, _, _, Nat.zero_le _, rfl, rfl, hO0, fun j hj => absurd hj (Nat.not_lt_zero j), Below.refl _ _⟩
  case round =>
    obtain ⟨k, b, cp, hk, rfl, rfl, HOo, HJ, hb⟩ := hrel
    obtain ⟨wo, rfl⟩ : ∃ x, x = wr := ⟨_, rfl⟩
    have HBo := Lib.hid hb
    clear hb hO0
    by_cases hlt : k < n
    · have hki : (k : Int) < (n : Int) := by omega
      have hkl : k < L.length := by rw [← HN.out]; exact hlt
      obtain ⟨x, hx⟩ : ∃ x, x = L.getD k [] := ⟨_, rfl⟩
      have hxm : x ∈ L := by rw [hx]; exact M.getD_mem L [] k hkl
      have hxs := HPC.out x hxm
      obtain ⟨q, hq⟩ : ∃ q : ByteArray, q = ⟨x.toArray⟩ := ⟨_, rfl⟩
      have hqd : q.data.toList = x := by rw [hq]
      have hqs : q.size ≤ 1048576 := by
        have : q.size = x.length := by rw [hq]; simp [ByteArray.size]
        omega
      have hcell : wo.cell? ⟨g, k, none⟩ = some (.string q) := by rw [hq, hx]; exact (HO.out.below HBo.out).cellAt k hlt
      obtain ⟨z, hz0⟩ : ∃ z, z = (M.readM x).1 := ⟨_, rfl⟩
      have HZ := Lib.hid hz0
      have HXM := Lib.hid hxm
      have HX := Lib.hid hx
      by_cases hok : (M.readM x).2 = true
      · have HC : Hid (∀ W, Below w.heap.size w W → Calls Tryd.prog 47 #[.string q] W fun e w' => e = .returned (.tuple #[.int .i64 z, .bool true]) ∧ Below W.heap.size W w') := fun W hW => by
          have := readValue q W hqs (fun w' h => HTB.out w' (hW.trans (h.mono hW.size))) (fun w' h => HSE.out w' (hW.trans (h.mono hW.size)))
          unfold DigPost at this
          rw [hqd, M.read_eq, ← hz0, hok] at this
          exact this
        have HOK := Lib.hid hok
        clear hok hqd hqs hq hx hxm hz0 hxs
        go_wp2_with fail
        refine (HC.out _ (bnext HB.out HBo.out)).mono ?_
        rintro e w2 ⟨rfl, hb2⟩
        have HO2 := Lib.hid (HOo.out.below hb2)
        have HB2 := Lib.hid (HBo.out.trans (hb2.mono HBo.out.size))
        have hz2 : w1.heap.size ≤ w2.heap.size := HB2.out.size
        clear hb2
        have HLN : Hid (((L.take k).map fun t => (M.readM t).1).length = k) := by show _ = _; simp; omega
        go_wp2_with (at_builtin; refine append1 _ rfl (.tmp 23) (.tmp 25) rfl w1.heap.size _ _ _ k HLN.out rfl HO2.out rfl (by rw [HLN.out]; omega) hz2 ?_)
        intro b2 c2 w3 hO2 hb3 _
        have HO3 : Hid (Own w3 w1.heap.size (.slice b2 (k + 1) c2) ((L.take (k + 1)).map fun t => (M.readM t).1)) := by
          show Own _ _ _ _
          rw [take_snoc L [] k hkl, List.map_append, List.map_singleton, ← HX.out, ← HZ.out, List.map_take]
          exact hO2
        have HB3 := Lib.hid (HB2.out.trans hb3)
        clear hO2 hb3
        go_wp2
        go_roundw
        case rel =>
          refine ⟨k + 1, _, _, by omega, by go_num, rfl, HO3, fun j hj => ?_, HB3.out⟩
          by_cases e : j = k
          · subst e; rw [← HX.out]; exact HOK.out
          · exact HJ.out j (by omega)
        case measure => simp [intOf]; omega
      · simp only [Bool.not_eq_true] at hok
        have HC : Hid (∀ W, Below w.heap.size w W → Calls Tryd.prog 47 #[.string q] W fun e w' => e = .returned (.tuple #[.int .i64 z, .bool false]) ∧ Below W.heap.size W w') := fun W hW => by
          have := readValue q W hqs (fun w' h => HTB.out w' (hW.trans (h.mono hW.size))) (fun w' h => HSE.out w' (hW.trans (h.mono hW.size)))
          unfold DigPost at this
          rw [hqd, M.read_eq, ← hz0, hok] at this
          exact this
        have HOK := Lib.hid hok
        clear hok hqd hqs hq hx hxm hz0 hxs
        go_wp2_with fail
        refine (HC.out _ (bnext HB.out HBo.out)).mono ?_
        rintro e w2 ⟨rfl, hb2⟩
        have HB2 := Lib.hid (bnext HB.out (HBo.out.trans (hb2.mono HBo.out.size)))
        clear hb2
        go_wp2
        go_ret2
        rw [HR.out, M.rowOf_bad2 HXM.out HOK.out]
        exact ⟨none, 0, rfl, own_nil _ _, HB2.out⟩
    · obtain rfl : k = n := by omega
      have HB2 := Lib.hid (bnext HB.out HBo.out)
      go_wp2
      go_ret2
      rw [HR.out, M.rowOf_ok (fun j hj => HJ.out j (by have := HN.out; omega))]
      have e : L.take k = L := List.take_of_length_le (by rw [HN.out]; exact Nat.le_refl _)
      have ho := HOo.out
      rw [e] at ho
      have hl : (L.map fun t => (M.readM t).1).length = k := by rw [List.length_map, HN.out]
      refine ⟨b, cp, ?_, ?_, HB2.out⟩
      · show Ending.returned _ = Ending.returned (.tuple #[.slice b (L.map fun t => (M.readM t).1).length cp, .bool true])
        rw [hl]; rfl
      · show Own _ _ (.slice b (L.map fun t => (M.readM t).1).length cp) _
        rw [hl]; exact ho.mono hz

/-- A matrix and whether it could be read. -/
def MRPost (r : List (List Int) × Bool) (w : World) (e : Ending) (w' : World) : Prop :=
  ∃ a cap, e = .returned (.tuple #[.slice a r.1.length cap, .bool r.2]) ∧ OwnM w' w.heap.size (.slice a r.1.length cap) r.1 ∧ Below w.heap.size w w'

set_option maxRecDepth 100000 in
set_option maxHeartbeats 4000000 in
theorem sReadMatrix (s : ByteArray) (w : World) (hs : s.size ≤ 1048576) :
    Calls Tryd.prog 11 #[.string s] w (MRPost (M.readS s.data.toList) w) := by
  have hlen : s.data.toList.length = s.size := Array.length_toList
  have HLEN := Lib.hid hlen
  clear hlen
  go_enter Tryd.func11, Tryd.ntmps11
  go_wp2_with fail
  refine (sSplit s 59 59 _ rfl hs).mono ?_
  rintro e w1 ⟨a1, cap1, rfl, ho, hb⟩
  obtain ⟨L, hL⟩ : ∃ L, L = M.splitL 59 s.data.toList := ⟨_, rfl⟩
  have hpc : ∀ x ∈ L, x.length ≤ s.size := fun x hx => by
    rw [hL] at hx
    have := M.splitL_piece _ _ x hx
    rw [HLEN.out] at this
    exact this
  have hln : L.length ≤ s.size + 1 := by
    have := M.splitL_len 59 s.data.toList
    rw [← hL, HLEN.out] at this
    exact this
  have HR : Hid (M.readS s.data.toList = M.matOf M.rowS L) := by show _ = _; rw [hL]; rfl
  rw [← hL] at ho ⊢
  have HPC := Lib.hid hpc
  have hne : 0 < L.length := by rw [hL]; exact List.length_pos_iff.2 (M.splitL_ne _ _)
  obtain ⟨n, hn⟩ : ∃ n, n = L.length := ⟨_, rfl⟩
  rw [← hn] at ho hln hne ⊢
  obtain ⟨g, rfl, -⟩ := ho.head (by omega)
  have HN := Lib.hid hn
  have HO := Lib.hid ho
  have HB := Lib.hid hb
  have hz : w.heap.size ≤ w1.heap.size := hb.size
  have hO0 : Hid (OwnM (w1.alloc (.cells #[] 39)) w1.heap.size (.slice (some ⟨w1.heap.size, 0, none⟩) 0 0) []) := ownM_lit0 w1 _ (Nat.le_refl _)
  clear ho hb hL hpc hn
  go_wp2
  go_loopw [5, 6] (fun out i wr => ∃ (k : Nat) (b : Option Addr) (cp : Nat), k ≤ n ∧ i = .int .i64 k ∧ out = .slice b k cp ∧ Hid (OwnM wr w1.heap.size (.slice b k cp) ((L.take k).map fun t => (M.rowS t).1)) ∧ Hid (∀ j, j < k → (M.rowS (L.getD j [])).2 = true) ∧ Below w1.heap.size w1 wr) (fun _ i _ => n - (intOf i).toNat)
  case atStart => exact ⟨0, _, _, Nat.zero_le _, rfl, rfl, hO0, fun j hj => absurd hj (Nat.not_lt_zero j), b_alloc _ _⟩
  case round =>
    obtain ⟨k, b, cp, hk, rfl, rfl, HOo, HJ, hb⟩ := hrel
    obtain ⟨wo, rfl⟩ : ∃ x, x = wr := ⟨_, rfl⟩
    have HBo := Lib.hid hb
    clear hb hO0
    by_cases hlt : k < n
    · have hki : (k : Int) < (n : Int) := by omega
      have hkl : k < L.length := by rw [← HN.out]; exact hlt
      obtain ⟨x, hx⟩ : ∃ x, x = L.getD k [] := ⟨_, rfl⟩
      have hxm : x ∈ L := by rw [hx]; exact M.getD_mem L [] k hkl
      have hxs := HPC.out x hxm
      obtain ⟨q, hq⟩ : ∃ q : ByteArray, q = ⟨x.toArray⟩ := ⟨_, rfl⟩
      have hqd : q.data.toList = x := by rw [hq]
      have hqs : q.size ≤ 1048576 := by
        have : q.size = x.length := by rw [hq]; simp [ByteArray.size]
        omega
      have hcell : wo.cell? ⟨g, k, none⟩ = some (.string q) := by rw [hq, hx]; exact (HO.out.below HBo.out).cellAt k hlt
      obtain ⟨z, hz0⟩ : ∃ z, z = (M.rowS x).1 := ⟨_, rfl⟩
      obtain ⟨ok, hok⟩ : ∃ ok, ok = (M.rowS x).2 := ⟨_, rfl⟩
      have HZ := Lib.hid hz0
      have HXM := Lib.hid hxm
      have HX := Lib.hid hx
      have HOK := Lib.hid hok
      have HC : Hid (∀ W, Calls Tryd.prog 29 #[.string q] W (RPost (z, ok) W)) := fun W => by
        have := sRead q W hqs
        rw [hqd] at this
        have e : M.rowS x = (z, ok) := by rw [hz0, hok]
        rw [e] at this
        exact this
      clear hok hqd hqs hq hx hxm hz0 hxs
      go_wp2_with fail
      refine (HC.out _).mono ?_
      rintro e w2 ⟨ra, rc, rfl, hro, hb2⟩
      have HRO := Lib.hid hro
      have HBB := Lib.hid hb2
      have HB2 := Lib.hid (HBo.out.trans (hb2.mono HBo.out.size))
      have hz1 : w1.heap.size ≤ wo.heap.size := HBo.out.size
      clear hb2 hro
      by_cases hk2 : ok = true
      · have HLN : Hid (((L.take k).map fun t => (M.rowS t).1).length = k) := by show _ = _; simp; omega
        go_wp2_with (at_builtin; refine appendRow wo _ rfl (.tmp 28) (.tmp 30) rfl w1.heap.size _ _ _ _ k HLN.out rfl HOo.out HBB.out HRO.out rfl (by rw [HLN.out]; omega) hz1 ?_)
        intro b2 c2 w3 hO2 hb3 _
        have HO3 : Hid (OwnM w3 w1.heap.size (.slice b2 (k + 1) c2) ((L.take (k + 1)).map fun t => (M.rowS t).1)) := by
          show OwnM _ _ _ _
          rw [take_snoc L [] k hkl, List.map_append, List.map_singleton, ← HX.out, ← HZ.out, List.map_take]
          exact hO2
        have HB3 := Lib.hid (HB2.out.trans hb3)
        clear hO2 hb3
        go_wp2
        go_roundw
        case rel =>
          refine ⟨k + 1, _, _, by omega, by go_num, rfl, HO3, fun j hj => ?_, HB3.out⟩
          by_cases e : j = k
          · subst e; rw [← HX.out, ← HOK.out]; exact hk2
          · exact HJ.out j (by omega)
        case measure => simp [intOf]; omega
      · simp only [Bool.not_eq_true] at hk2
        subst hk2
        have HB4 := Lib.hid (bnext HB.out HB2.out)
        go_wp2
        go_ret2
        rw [HR.out, M.matOf_bad2 HXM.out HOK.out.symm]
        exact ⟨none, 0, rfl, ownM_nil _ _, HB4.out⟩
    · obtain rfl : k = n := by omega
      have e : L.take k = L := List.take_of_length_le (by rw [HN.out]; exact Nat.le_refl _)
      have ho := HOo.out
      rw [e] at ho
      have hl : (L.map fun t => (M.rowS t).1).length = k := by rw [List.length_map, HN.out]
      have HL := Lib.hid hl
      have HOf := Lib.hid ho
      have HMO : Hid (M.matOf M.rowS L = if M.isMat (L.map fun t => (M.rowS t).1) then (L.map (fun t => (M.rowS t).1), true) else ([], false)) := M.matOf_ok (fun j hj => HJ.out j (by have := HN.out; omega))
      clear e ho hl
      by_cases hm : M.isMat (L.map fun t => (M.rowS t).1) = true
      · have HIM := Lib.hid hm
        clear hm
        go_wp2_with (go_at_call 30; refine (sIsMatrixB_b _ _ _ _ _ _ HIM.out HOf.out.mat).mono ?_; rintro e wm ⟨rfl, hbm⟩)
        go_ret2
        rw [HR.out, HMO.out, if_pos HIM.out]
        refine ⟨b, cp, ?_, ?_, bnext HB.out (HBo.out.trans (hbm.mono HBo.out.size))⟩
        · show Ending.returned _ = Ending.returned (.tuple #[.slice b (L.map fun t => (M.rowS t).1).length cp, .bool true])
          rw [HL.out]; rfl
        · show OwnM _ _ (.slice b (L.map fun t => (M.rowS t).1).length cp) _
          rw [HL.out]; exact (HOf.out.below hbm).mono hz
      · simp only [Bool.not_eq_true] at hm
        have HIM := Lib.hid hm
        clear hm
        go_wp2_with (go_at_call 30; refine (sIsMatrixB_b _ _ _ _ _ _ HIM.out HOf.out.mat).mono ?_; rintro e wm ⟨rfl, hbm⟩)
        go_ret2
        rw [HR.out, HMO.out, if_neg (by rw [HIM.out]; exact Bool.false_ne_true)]
        exact ⟨none, 0, rfl, ownM_nil _ _, bnext HB.out (HBo.out.trans (hbm.mono HBo.out.size))⟩

set_option maxRecDepth 100000 in
set_option maxHeartbeats 4000000 in
theorem iReadMatrix (s : ByteArray) (w : World) (hs : s.size ≤ 1048576) (hm : MaxC w) (htab : ∀ w', Below w.heap.size w w' → Lib.TabIs Tryd.prog w' "internal/strconv.uint64pow10" .u64 Lib.pow10Tab) (hsent : ∀ w', Below w.heap.size w w' → Sent w') :
    Calls Tryd.prog 9 #[.string s] w (MRPost (M.readMI s.data.toList) w) := by
  have hlen : s.data.toList.length = s.size := Array.length_toList
  have HLEN := Lib.hid hlen
  clear hlen
  have HM := Lib.hid hm
  have HTB := Lib.hid htab
  have HSE := Lib.hid hsent
  clear hm htab hsent
  go_enter Tryd.func9, Tryd.ntmps9
  go_wp2_with fail
  refine (splitN11 s 59 _ hs HM.out).mono ?_
  rintro e w1 ⟨a1, cap1, rfl, ho, hb⟩
  obtain ⟨L, hL⟩ : ∃ L, L = M.cutN 59 s.data.toList := ⟨_, rfl⟩
  have hpc : ∀ x ∈ L, x.length ≤ s.size := fun x hx => by
    rw [hL] at hx
    have := M.cutN_piece _ _ x hx
    rw [HLEN.out] at this
    exact this
  have hln : L.length ≤ 11 := by
    have := M.cutN_len 59 s.data.toList
    rw [← hL] at this
    exact this
  have HR : Hid (M.readMI s.data.toList = M.matOf M.rowI L) := by show _ = _; rw [hL]; rfl
  rw [← hL] at ho ⊢
  have HPC := Lib.hid hpc
  have hne : 0 < L.length := by rw [hL]; exact M.cutN_ne _ _
  obtain ⟨n, hn⟩ : ∃ n, n = L.length := ⟨_, rfl⟩
  rw [← hn] at ho hln hne ⊢
  obtain ⟨g, rfl, -⟩ := ho.head (by omega)
  have HN := Lib.hid hn
  have HO := Lib.hid ho
  have HB := Lib.hid hb
  have hz : w.heap.size ≤ w1.heap.size := hb.size
  have hO0 : Hid (OwnM w1 w1.heap.size (.slice none 0 0) []) := ownM_nil _ _
  clear ho hb hL hpc hn
  go_wp2
  go_loopw [4, 12] (fun out i wr => ∃ (k : Nat) (b : Option Addr) (cp : Nat), k ≤ n ∧ i = .int .i64 k ∧ out = .slice b k cp ∧ Hid (OwnM wr w1.heap.size (.slice b k cp) ((L.take k).map fun t => (M.rowI t).1)) ∧ Hid (∀ j, j < k → (M.rowI (L.getD j [])).2 = true) ∧ Below w1.heap.size w1 wr) (fun _ i _ => n - (intOf i).toNat)
  case atStart => exact ⟨0, _, _, Nat.zero_le _, rfl, rfl, hO0, fun j hj => absurd hj (Nat.not_lt_zero j), Below.refl _ _⟩
  case round =>
    obtain ⟨k, b, cp, hk, rfl, rfl, HOo, HJ, hb⟩ := hrel
    obtain ⟨wo, rfl⟩ : ∃ x, x = wr := ⟨_, rfl⟩
    have HBo := Lib.hid hb
    clear hb hO0
    by_cases hlt : k < n
    · have hki : (k : Int) < (n : Int) := by omega
      have hkl : k < L.length := by rw [← HN.out]; exact hlt
      obtain ⟨x, hx⟩ : ∃ x, x = L.getD k [] := ⟨_, rfl⟩
      have hxm : x ∈ L := by rw [hx]; exact M.getD_mem L [] k hkl
      have hxs := HPC.out x hxm
      obtain ⟨q, hq⟩ : ∃ q : ByteArray, q = ⟨x.toArray⟩ := ⟨_, rfl⟩
      have hqd : q.data.toList = x := by rw [hq]
      have hqs : q.size ≤ 1048576 := by
        have : q.size = x.length := by rw [hq]; simp [ByteArray.size]
        omega
      have hcell : wo.cell? ⟨g, k, none⟩ = some (.string q) := by rw [hq, hx]; exact (HO.out.below HBo.out).cellAt k hlt
      obtain ⟨z, hz0⟩ : ∃ z, z = (M.rowI x).1 := ⟨_, rfl⟩
      obtain ⟨ok, hok⟩ : ∃ ok, ok = (M.rowI x).2 := ⟨_, rfl⟩
      have HZ := Lib.hid hz0
      have HXM := Lib.hid hxm
      have HX := Lib.hid hx
      have HOK := Lib.hid hok
      have HC : Hid (∀ W, Below w.heap.size w W → Calls Tryd.prog 25 #[.string q] W (RPost (z, ok) W)) := fun W hW => by
        have := iRow q W hqs (HM.out.below hW) (fun w' h => HTB.out w' (hW.trans (h.mono hW.size))) (fun w' h => HSE.out w' (hW.trans (h.mono hW.size)))
        rw [hqd] at this
        have e : M.rowI x = (z, ok) := by rw [hz0, hok]
        rw [e] at this
        exact this
      clear hok hqd hqs hq hx hxm hz0 hxs
      go_wp2_with fail
      refine (HC.out _ (bnext HB.out HBo.out)).mono ?_
      rintro e w2 ⟨ra, rc, rfl, hro, hb2⟩
      have HRO := Lib.hid hro
      have HBB := Lib.hid hb2
      have HB2 := Lib.hid (HBo.out.trans (hb2.mono HBo.out.size))
      have hz1 : w1.heap.size ≤ wo.heap.size := HBo.out.size
      clear hb2 hro
      by_cases hk2 : ok = true
      · have HLN : Hid (((L.take k).map fun t => (M.rowI t).1).length = k) := by show _ = _; simp; omega
        go_wp2_with (at_builtin; refine appendRow wo _ rfl (.tmp 23) (.tmp 25) rfl w1.heap.size _ _ _ _ k HLN.out rfl HOo.out HBB.out HRO.out rfl (by rw [HLN.out]; omega) hz1 ?_)
        intro b2 c2 w3 hO2 hb3 _
        have HO3 : Hid (OwnM w3 w1.heap.size (.slice b2 (k + 1) c2) ((L.take (k + 1)).map fun t => (M.rowI t).1)) := by
          show OwnM _ _ _ _
          rw [take_snoc L [] k hkl, List.map_append, List.map_singleton, ← HX.out, ← HZ.out, List.map_take]
          exact hO2
        have HB3 := Lib.hid (HB2.out.trans hb3)
        clear hO2 hb3
        go_wp2
        go_roundw
        case rel =>
          refine ⟨k + 1, _, _, by omega, by go_num, rfl, HO3, fun j hj => ?_, HB3.out⟩
          by_cases e : j = k
          · subst e; rw [← HX.out, ← HOK.out]; exact hk2
          · exact HJ.out j (by omega)
        case measure => simp [intOf]; omega
      · simp only [Bool.not_eq_true] at hk2
        subst hk2
        have HB4 := Lib.hid (bnext HB.out HB2.out)
        go_wp2
        go_ret2
        rw [HR.out, M.matOf_bad2 HXM.out HOK.out.symm]
        exact ⟨none, 0, rfl, ownM_nil _ _, HB4.out⟩
    · obtain rfl : k = n := by omega
      have e : L.take k = L := List.take_of_length_le (by rw [HN.out]; exact Nat.le_refl _)
      have ho := HOo.out
      rw [e] at ho
      have hl : (L.map fun t => (M.rowI t).1).length = k := by rw [List.length_map, HN.out]
      have HL := Lib.hid hl
      have HOf := Lib.hid ho
      have HMO : Hid (M.matOf M.rowI L = if M.isMat (L.map fun t => (M.rowI t).1) then (L.map (fun t => (M.rowI t).1), true) else ([], false)) := M.matOf_ok (fun j hj => HJ.out j (by have := HN.out; omega))
      clear e ho hl
      by_cases hm : M.isMat (L.map fun t => (M.rowI t).1) = true
      · have HIM := Lib.hid hm
        clear hm
        go_wp2_with (go_at_call 21; refine (isMatrix_b _ _ _ _ _ _ HIM.out HOf.out.mat).mono ?_; rintro e w' ⟨rfl, rfl⟩)
        go_ret2
        rw [HR.out, HMO.out, if_pos HIM.out]
        refine ⟨b, cp, ?_, ?_, bnext HB.out HBo.out⟩
        · show Ending.returned _ = Ending.returned (.tuple #[.slice b (L.map fun t => (M.rowI t).1).length cp, .bool true])
          rw [HL.out]; rfl
        · show OwnM _ _ (.slice b (L.map fun t => (M.rowI t).1).length cp) _
          rw [HL.out]; exact HOf.out.mono hz
      · simp only [Bool.not_eq_true] at hm
        have HIM := Lib.hid hm
        clear hm
        go_wp2_with (go_at_call 21; refine (isMatrix_b _ _ _ _ _ _ HIM.out HOf.out.mat).mono ?_; rintro e w' ⟨rfl, rfl⟩)
        go_ret2
        rw [HR.out, HMO.out, if_neg (by rw [HIM.out]; exact Bool.false_ne_true)]
        exact ⟨none, 0, rfl, ownM_nil _ _, bnext HB.out HBo.out⟩
end Go.Proofs.YtackennmjmobdaaDoor.V
