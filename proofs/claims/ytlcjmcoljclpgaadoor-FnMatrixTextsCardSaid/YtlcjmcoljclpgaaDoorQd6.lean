/- Texts laid together: SplC, Rm2, Rm3, Rm4. -/
import Derived.Shelf.LaysM
import Derived.Shelf.Strings.SplitShaped
import Derived.Test.YtlcjmcoljclpgaaDoorProg
import Derived.Test.YtlcjmcoljclpgaaDoorRows
import Derived.Test.YtlcjmcoljclpgaaDoorQd1
import Derived.Test.YtlcjmcoljclpgaaDoorQd2
import Derived.WalkKit
import Derived.ProofKit
import Derived.WalkSmall
import Derived.Deep.QuietTactic
import Derived.BigQuiet
import Derived.BigRegion
import Derived.Deep.Draws
import Derived.Lib.Hide
import Derived.OpenShut
import Derived.Deep.OwnRows
import Derived.Maps.AppendAt
import Derived.Test.YtlcjmcoljclpgaaDoorQd5
import Derived.Test.YtlcjmcoljclpgaaDoorQd3
import Derived.Test.YtlcjmcoljclpgaaDoorQd4
set_option linter.unusedSimpArgs false
set_option linter.unusedVariables false
set_option linter.unusedSectionVars false
namespace Go.Proofs
open Go.Shelf
def Tryd.laysM147_ren : Go.Shelf.Ren := ⟨fun | 147 => 40 | 221 => 71 | 268 => 89 | 138 => 90 | 143 => 91 | 195 => 105 | 197 => 106 | 218 => 107 | 219 => 108 | 260 => 119 | 217 => 120 | 225 => 121 | 224 => 122 | 267 => 123 | 266 => 134 | 314 => 135 | n => n, fun | 9 => 9 | 3 => 3 | 31 => 53 | 4 => 4 | 0 => 0 | 105 => 120 | 21 => 21 | 5 => 5 | 46 => 127 | 119 => 149 | 139 => 152 | 138 => 151 | 146 => 153 | 51 => 145 | n => n, fun | 1 => 0 | 3 => 4 | 4 => 5 | n => n⟩
theorem Tryd.laysM147 : Go.Proofs.LaysM.n147 Tryd.prog Tryd.laysM147_ren := {
  mixed := by kernel_rfl
  f138 := Tryd.func90.trans (congrArg some (by kernel_rfl))
  f143 := Tryd.func91.trans (congrArg some (by kernel_rfl))
  f147 := Tryd.func40.trans (congrArg some (by kernel_rfl))
  f195 := Tryd.func105.trans (congrArg some (by kernel_rfl))
  f197 := Tryd.func106.trans (congrArg some (by kernel_rfl))
  f217 := Tryd.func120.trans (congrArg some (by kernel_rfl))
  f218 := Tryd.func107.trans (congrArg some (by kernel_rfl))
  f219 := Tryd.func108.trans (congrArg some (by kernel_rfl))
  f221 := Tryd.func71.trans (congrArg some (by kernel_rfl))
  f224 := Tryd.func122.trans (congrArg some (by kernel_rfl))
  f225 := Tryd.func121.trans (congrArg some (by kernel_rfl))
  f260 := Tryd.func119.trans (congrArg some (by kernel_rfl))
  f266 := Tryd.func134.trans (congrArg some (by kernel_rfl))
  f267 := Tryd.func123.trans (congrArg some (by kernel_rfl))
  f268 := Tryd.func89.trans (congrArg some (by kernel_rfl))
  f314 := Tryd.func135.trans (congrArg some (by kernel_rfl))
  t0 := Tryd.underlying0
  a0 := Tryd.isAgg0
  z0 := Tryd.sizeOf0
  v0 := Tryd.zeroValue0
  t3 := Tryd.underlying3
  a3 := Tryd.isAgg3
  z3 := Tryd.sizeOf3
  v3 := Tryd.zeroValue3
  t4 := Tryd.underlying4
  a4 := Tryd.isAgg4
  z4 := Tryd.sizeOf4
  v4 := Tryd.zeroValue4
  t5 := Tryd.underlying5
  a5 := Tryd.isAgg5
  z5 := Tryd.sizeOf5
  v5 := Tryd.zeroValue5
  t9 := Tryd.underlying9
  a9 := Tryd.isAgg9
  z9 := Tryd.sizeOf9
  v9 := Tryd.zeroValue9
  t21 := Tryd.underlying21
  a21 := Tryd.isAgg21
  z21 := Tryd.sizeOf21
  v21 := Tryd.zeroValue21
  t31 := Tryd.underlying53
  a31 := Tryd.isAgg53
  z31 := Tryd.sizeOf53
  v31 := Tryd.zeroValue53
  t46 := Tryd.underlying127
  a46 := Tryd.isAgg127
  z46 := Tryd.sizeOf127
  v46 := Tryd.zeroValue127
  t51 := Tryd.underlying145
  a51 := Tryd.isAgg145
  z51 := Tryd.sizeOf145
  v51 := Tryd.zeroValue145
  t105 := Tryd.underlying120
  a105 := Tryd.isAgg120
  z105 := Tryd.sizeOf120
  v105 := Tryd.zeroValue120
  t119 := Tryd.underlying149
  a119 := Tryd.isAgg149
  z119 := Tryd.sizeOf149
  t138 := Tryd.underlying151
  a138 := Tryd.isAgg151
  z138 := Tryd.sizeOf151
  v138 := Tryd.zeroValue151
  t139 := Tryd.underlying152
  a139 := Tryd.isAgg152
  z139 := Tryd.sizeOf152
  v139 := Tryd.zeroValue152
  t146 := Tryd.underlying153
  a146 := Tryd.isAgg153
  z146 := Tryd.sizeOf153
  v146 := Tryd.zeroValue153
  g1 := by kernel_rfl
  g3 := by kernel_rfl
  g4 := by kernel_rfl
  i0 := by kernel_rfl
  i3 := by kernel_rfl
  i4 := by kernel_rfl
  i5 := by kernel_rfl
  i9 := by kernel_rfl
  i21 := by kernel_rfl
  i31 := by kernel_rfl
  i46 := by kernel_rfl
  i51 := by kernel_rfl
  i105 := by kernel_rfl
  i138 := by kernel_rfl
  i139 := by kernel_rfl
  i146 := by kernel_rfl
  m1 := by kernel_rfl
  s1_3 := fun w h => Go.Proofs.cell_of_shapedOpen_int (zero := #[.int .i64 0]) (t := 3) h (of_decide_eq_true (by kernel_rfl)) (by kernel_rfl) rfl (by kernel_rfl) (by kernel_rfl) Tryd.underlying3
  m3 := by kernel_rfl
  m4 := by kernel_rfl }
end Go.Proofs

namespace Go.Proofs.YtlcjmcoljclpgaaDoor.M
theorem splitL_piece (c : UInt8) (l : List UInt8) : ∀ x ∈ splitL c l, x.length ≤ l.length := by
  induction l with
  | nil => intro x hx; simp [splitL] at hx; simp [hx]
  | cons b l ih =>
    intro x hx
    unfold splitL at hx
    have hh : ((splitL c l).headD []).length ≤ l.length := by
      cases h : splitL c l with
      | nil => simp
      | cons y r => exact ih y (by rw [h]; simp)
    split at hx
    · rcases List.mem_cons.1 hx with rfl | hx
      · simp
      · have := ih x hx; simp; omega
    · rcases List.mem_cons.1 hx with rfl | hx
      · rw [List.length_cons, List.length_cons]; omega
      · have := ih x (List.mem_of_mem_tail hx); simp; omega
theorem splitK_piece (c : UInt8) : ∀ (k : Nat) (l : List UInt8), ∀ x ∈ Go.Lib.splitK [c] 0 k l, x.length ≤ l.length := by
  intro k
  induction k with
  | zero => intro l x hx; simp [Go.Lib.splitK] at hx; simp [hx]
  | succ k ih =>
    intro l x hx
    unfold Go.Lib.splitK at hx
    split at hx
    · simp at hx; simp [hx]
    · rcases List.mem_cons.1 hx with rfl | hx
      · simp; omega
      · have := ih _ x hx; simp at this; omega
theorem cutN_piece (c : UInt8) (l : List UInt8) : ∀ x ∈ cutN c l, x.length ≤ l.length := splitK_piece c _ l
theorem rowOf_bad2 {P : List (List UInt8)} {x : List UInt8} (hx : x ∈ P) (h : (readM x).2 = false) : rowOf P = ([], false) := by
  unfold rowOf
  rw [if_neg]
  intro hc
  rw [List.all_eq_true.1 hc x hx] at h
  cases h
theorem rowOf_ok {P : List (List UInt8)} (h : ∀ j, j < P.length → (readM (P.getD j [])).2 = true) : rowOf P = (P.map (fun t => (readM t).1), true) := by
  unfold rowOf
  rw [if_pos]
  rw [List.all_eq_true]
  intro x hx
  obtain ⟨j, hj, rfl⟩ := List.getElem_of_mem hx
  have := h j hj
  simpa [hj] using this
theorem cutN_ne (c : UInt8) (l : List UInt8) : 0 < (cutN c l).length := by
  unfold cutN
  cases h : min 11 (l.length + 1) - 1 with
  | zero => simp [Go.Lib.splitK]
  | succ k =>
    unfold Go.Lib.splitK
    split <;> simp
theorem getD_mem {α : Type} (l : List α) (d : α) (k : Nat) (h : k < l.length) : l.getD k d ∈ l := by
  simp [h]
end Go.Proofs.YtlcjmcoljclpgaaDoor.M
namespace Go.Proofs.YtlcjmcoljclpgaaDoor.V
open Go.RowKit

/-- internal/bytealg.MaxLen holds some integer. -/
def MaxC (w : World) : Prop := ∃ m : Int, w.cell? ⟨Tryd.laysM147_ren.g 1, 0, none⟩ = some (.int .i64 m)
theorem maxC_shaped {w : World} (h : w.ShapedOpen Tryd.prog) : MaxC w := Tryd.laysM147.s1_3 w h
theorem MaxC.below {w w' : World} (h : MaxC w) (hb : Below w.heap.size w w') : MaxC w' := by
  obtain ⟨m, hm⟩ := h
  exact ⟨m, by rw [hb.cell (World.block_lt_of_cell? _ _ hm)]; exact hm⟩
theorem ownT_cells (w : World) (P : List ByteArray) (N : Nat) (hP : P.length ≤ N) (hN : N ≤ maxLen) : OwnT (w.alloc (.cells (Lib.cellsOf P N) 9)) w.heap.size (.slice (some ⟨w.heap.size, 0, none⟩) P.length N) (P.map (·.data.toList)) := by
  have e : (Lib.cellsOf P N).size = N := Lib.cellsOf_size hP
  refine ⟨by simp, .inr ⟨w.heap.size, N, Lib.cellsOf P N, by simp, Nat.le_refl _, by show (w.heap.push _)[w.heap.size]? = _; simp, by simpa using hP, hN, by simp [e], ?_⟩⟩
  simp [Lib.cellsOf, List.map_map, Function.comp_def]
theorem OwnT.head {w : World} {B n cap : Nat} {a : Option Addr} {L : List (List UInt8)} (h : OwnT w B (.slice a n cap) L) (hn : 0 < L.length) : ∃ g, a = some ⟨g, 0, none⟩ ∧ B ≤ g := by
  obtain ⟨a', c, hv, -, -, hg⟩ := own_form h
  injection hv with e1 e2 e3
  obtain ⟨g, h1, h2, -⟩ := hg hn
  exact ⟨g, by rw [e1]; exact h1, h2⟩
theorem splitN11 (s : ByteArray) (c : UInt8) (w : World) (hs : s.size ≤ 1048576) (hm : MaxC w) :
    Calls Tryd.prog 40 #[.string s, .string ⟨#[c]⟩, .int .i64 11] w (TPost (M.cutN c s.data.toList) w) := by
  obtain ⟨m, hm⟩ := hm
  have hsz : (⟨#[c]⟩ : ByteArray).size = 1 := rfl
  refine (Any.strings_SplitN { Tryd.laysM147 with } Tryd.laysM147.i9 s ⟨#[c]⟩ 11 m w (by omega) hm (by omega) (by omega) (by omega)).mono ?_
  rintro e w' ⟨rfl, rfl⟩
  have hl : s.data.toList.length = s.size := Array.length_toList
  have e : (Lib.splitB ⟨#[c]⟩ 0 (min 11 (s.size + 1) - 1) s).map (·.data.toList) = M.cutN c s.data.toList := by
    rw [Lib.splitB_data, M.cutN, hl]
  have hle := Lib.splitB_length_le ⟨#[c]⟩ 0 (min 11 (s.size + 1) - 1) s
  have ho := ownT_cells w (Lib.splitB ⟨#[c]⟩ 0 (min 11 (s.size + 1) - 1) s) (min 11 (s.size + 1)) (by omega) (by unfold maxLen; omega)
  have e2 : (Lib.splitB ⟨#[c]⟩ 0 (min 11 (s.size + 1) - 1) s).length = (M.cutN c s.data.toList).length := by rw [← e]; simp
  rw [e2, e] at ho
  exact ⟨_, _, by rw [e2], ho, b_alloc _ _⟩

/-- A row and whether it could be read. -/
def RPost (r : List Int × Bool) (w : World) (e : Ending) (w' : World) : Prop :=
  ∃ a cap, e = .returned (.tuple #[.slice a r.1.length cap, .bool r.2]) ∧ Own w' w.heap.size (.slice a r.1.length cap) r.1 ∧ Below w.heap.size w w'

set_option maxRecDepth 100000 in
set_option maxHeartbeats 4000000 in
theorem sRead (s : ByteArray) (w : World) (hs : s.size ≤ 1048576) :
    Calls Tryd.prog 51 #[.string s] w (RPost (M.rowS s.data.toList) w) := by
  have hlen : s.data.toList.length = s.size := Array.length_toList
  have HLEN := Lib.hid hlen
  clear hlen
  go_enter Tryd.func51, Tryd.ntmps51
  go_wp2_with fail
  refine (sSplit s 44 44 _ rfl hs).mono ?_
  rintro e w1 ⟨a1, cap1, rfl, ho, hb⟩
  obtain ⟨L, hL⟩ : ∃ L, L = M.splitL 44 s.data.toList := ⟨_, rfl⟩
  have hpc : ∀ x ∈ L, x.length ≤ s.size := fun x hx => by
    rw [hL] at hx
    have := M.splitL_piece _ _ x hx
    rw [HLEN.out] at this
    exact this
  have hln : L.length ≤ s.size + 1 := by
    have := M.splitL_len 44 s.data.toList
    rw [← hL, HLEN.out] at this
    exact this
  have HR : Hid (M.rowS s.data.toList = M.rowOf L) := by show _ = _; rw [hL]; rfl
  rw [← hL] at ho ⊢
  have HPC := Lib.hid hpc
  have hne : 0 < L.length := by rw [hL]; exact List.length_pos_iff.2 (M.splitL_ne _ _)
  obtain ⟨n, hn⟩ : ∃ n, n = L.length := ⟨_, rfl⟩
  rw [← hn] at ho hln hne ⊢
  obtain ⟨g, rfl, -⟩ := ho.head (by omega)
  have HN := Lib.hid hn
  have HO := Lib.hid ho
  have HB := Lib.hid hb
  have hz : w.heap.size ≤ w1.heap.size := hb.size
  have hO0 : Hid (Own (w1.alloc (.cells #[] 2)) w1.heap.size (.slice (some ⟨w1.heap.size, 0, none⟩) 0 0) []) := own_lit0 w1 _ (Nat.le_refl _)
  clear ho hb hL hpc hn
  go_wp2
  go_loopw [5, 6] (fun out i wr => ∃ (k : Nat) (b : Option Addr) (cp : Nat), k ≤ n ∧ i = .int .i64 k ∧ out = .slice b k cp ∧ Hid (Own wr w1.heap.size (.slice b k cp) ((L.take k).map fun t => (M.readM t).1)) ∧ Hid (∀ j, j < k → (M.readM (L.getD j [])).2 = true) ∧ Below w1.heap.size w1 wr) (fun _ i _ => n - (intOf i).toNat)
  case atStart => exact ⟨0, _, _, Nat.zero_le _, rfl, rfl, hO0, fun j hj => absurd hj (Nat.not_lt_zero j), b_alloc _ _⟩
  case round =>
    obtain ⟨k, b, cp, hk, rfl, rfl, HOo, HJ, hb⟩ := hrel
    obtain ⟨wo, rfl⟩ : ∃ x, x = wr := ⟨_, rfl⟩
    have HBo := Lib.hid hb
    clear hb hO0
    by_cases hlt : k < n
    · have hki : (k : Int) < (n : Int) := by omega
      have hkl : k < L.length := by rw [← HN.out]; exact hlt
      obtain ⟨x, hx⟩ : ∃ x, x = L.getD k [] := ⟨_, rfl⟩
      have hxm : x ∈ L := by rw [hx]; exact M.getD_mem L [] k hkl
      have hxs := HPC.out x hxm
      obtain ⟨q, hq⟩ : ∃ q : ByteArray, q = ⟨x.toArray⟩ := ⟨_, rfl⟩
      have hqd : q.data.toList = x := by rw [hq]
      have hqs : q.size ≤ maxLen := by
        have : q.size = x.length := by rw [hq]; simp [ByteArray.size]
        unfold maxLen; omega
      have hcell : wo.cell? ⟨g, k, none⟩ = some (.string q) := by rw [hq, hx]; exact (HO.out.below HBo.out).cellAt k hlt
      obtain ⟨z, hz0⟩ : ∃ z, z = (M.readM x).1 := ⟨_, rfl⟩
      have HZ := Lib.hid hz0
      have HXM := Lib.hid hxm
      have HX := Lib.hid hx
      by_cases hok : (M.readM x).2 = true
      · have HC : Hid (∀ W, Calls Tryd.prog 78 #[.string q] W fun e w' => e = .returned (.tuple #[.int .i64 z, .bool true]) ∧ Below W.heap.size W w') := fun W => by
          have := sReadValue q W hqs
          unfold DigPost at this
          rw [hqd, ← hz0, hok] at this
          exact this
        have HOK := Lib.hid hok
        clear hok hqd hqs hq hx hxm hz0 hxs
        go_wp2_with fail
        refine (HC.out _).mono ?_
        rintro e w2 ⟨rfl, hb2⟩
        have HO2 := Lib.hid (HOo.out.below hb2)
        have HB2 := Lib.hid (HBo.out.trans (hb2.mono HBo.out.size))
        have hz2 : w1.heap.size ≤ w2.heap.size := HB2.out.size
        clear hb2
        have HLN : Hid (((L.take k).map fun t => (M.readM t).1).length = k) := by show _ = _; simp; omega
        go_wp2_with (at_builtin; refine append1 _ rfl (.tmp 28) (.tmp 30) rfl w1.heap.size _ _ _ k HLN.out rfl HO2.out rfl (by rw [HLN.out]; omega) hz2 ?_)
        intro b2 c2 w3 hO2 hb3 _
        have HO3 : Hid (Own w3 w1.heap.size (.slice b2 (k + 1) c2) ((L.take (k + 1)).map fun t => (M.readM t).1)) := by
          show Own _ _ _ _
          rw [take_snoc L [] k hkl, List.map_append, List.map_singleton, ← HX.out, ← HZ.out, List.map_take]
          exact hO2
        have HB3 := Lib.hid (HB2.out.trans hb3)
        clear hO2 hb3
        go_wp2
        go_roundw
        case rel =>
          refine ⟨k + 1, _, _, by omega, by go_num, rfl, HO3, fun j hj => ?_, HB3.out⟩
          by_cases e : j = k
          · subst e; rw [← HX.out]; exact HOK.out
          · exact HJ.out j (by omega)
        case measure => simp [intOf]; omega
      · simp only [Bool.not_eq_true] at hok
        have HC : Hid (∀ W, Calls Tryd.prog 78 #[.string q] W fun e w' => e = .returned (.tuple #[.int .i64 z, .bool false]) ∧ Below W.heap.size W w') := fun W => by
          have := sReadValue q W hqs
          unfold DigPost at this
          rw [hqd, ← hz0, hok] at this
          exact this
        have HOK := Lib.hid hok
        clear hok hqd hqs hq hx hxm hz0 hxs
        go_wp2_with fail
        refine (HC.out _).mono ?_
        rintro e w2 ⟨rfl, hb2⟩
        have HB2 := Lib.hid (bnext HB.out (HBo.out.trans (hb2.mono HBo.out.size)))
        clear hb2
        go_wp2
        go_ret2
        rw [HR.out, M.rowOf_bad2 HXM.out HOK.out]
        exact ⟨none, 0, rfl, own_nil _ _, HB2.out⟩
    · obtain rfl : k = n := by omega
      have HB2 := Lib.hid (bnext HB.out HBo.out)
      go_wp2
      go_ret2
      rw [HR.out, M.rowOf_ok (fun j hj => HJ.out j (by have := HN.out; omega))]
      have e : L.take k = L := List.take_of_length_le (by rw [HN.out]; exact Nat.le_refl _)
      have ho := HOo.out
      rw [e] at ho
      have hl : (L.map fun t => (M.readM t).1).length = k := by rw [List.length_map, HN.out]
      refine ⟨b, cp, ?_, ?_, HB2.out⟩
      · show Ending.returned _ = Ending.returned (.tuple #[.slice b (L.map fun t => (M.readM t).1).length cp, .bool true])
        rw [hl]; rfl
      · show Own _ _ (.slice b (L.map fun t => (M.readM t).1).length cp) _
        rw [hl]; exact ho.mono hz
end Go.Proofs.YtlcjmcoljclpgaaDoor.V

namespace Go.Proofs.YtlcjmcoljclpgaaDoor.M
theorem matOf_bad2 {f : List UInt8 → List Int × Bool} {P : List (List UInt8)} {x : List UInt8} (hx : x ∈ P) (h : (f x).2 = false) : matOf f P = ([], false) := by
  unfold matOf
  rw [if_neg]
  intro hc
  rw [Bool.and_eq_true] at hc
  rw [List.all_eq_true.1 hc.1 x hx] at h
  cases h
theorem matOf_ok {f : List UInt8 → List Int × Bool} {P : List (List UInt8)} (h : ∀ j, j < P.length → (f (P.getD j [])).2 = true) : matOf f P = if isMat (P.map fun t => (f t).1) then (P.map (fun t => (f t).1), true) else ([], false) := by
  have e : P.all (fun t => (f t).2) = true := by
    rw [List.all_eq_true]
    intro x hx
    obtain ⟨j, hj, rfl⟩ := List.getElem_of_mem hx
    have := h j hj
    simpa [hj] using this
  unfold matOf
  rw [e, Bool.true_and]
end Go.Proofs.YtlcjmcoljclpgaaDoor.M
namespace Go.Proofs.YtlcjmcoljclpgaaDoor.V
open Go.RowKit

set_option maxRecDepth 100000 in
set_option maxHeartbeats 4000000 in
theorem readVals (g n cap1 : Nat) (L : List (List UInt8)) (w1 : World) (hn : n = L.length) (hln : n ≤ 100) (hsz : ∀ x, x ∈ L → x.length ≤ 1048576) (hcl : ∀ w2, Below w1.heap.size w1 w2 → ∀ k, k < n → w2.cell? ⟨g, k, none⟩ = some (.string ⟨(L.getD k []).toArray⟩))
    (htab : ∀ w', Below w1.heap.size w1 w' → Lib.TabIs Tryd.prog w' "internal/strconv.uint64pow10" .u64 Lib.pow10Tab) (hsent : ∀ w', Below w1.heap.size w1 w' → Sent w') :
    Calls Tryd.prog 48 #[.slice (some ⟨g, 0, none⟩) n cap1] w1 (RPost (M.rowOf L) w1) := by
  have HTB := Lib.hid htab
  have HSE := Lib.hid hsent
  have HPC := Lib.hid hsz
  have HCL := Lib.hid hcl
  have HN := Lib.hid hn
  have hO0 : Hid (Own w1 w1.heap.size (.slice none 0 0) []) := own_nil _ _
  clear htab hsent hsz hcl hn
  go_enter Tryd.func48, Tryd.ntmps48
  go_wp2
  go_loopw [4, 11] (fun out i wr => ∃ (k : Nat) (b : Option Addr) (cp : Nat), k ≤ n ∧ i = .int .i64 k ∧ out = .slice b k cp ∧ Hid (Own wr w1.heap.size (.slice b k cp) ((L.take k).map fun t => (M.readM t).1)) ∧ Hid (∀ j, j < k → (M.readM (L.getD j [])).2 = true) ∧ Below w1.heap.size w1 wr) (fun _ i _ => n - (intOf i).toNat)
  case atStart => exact ⟨0, _, _, Nat.zero_le _, rfl, rfl, hO0, fun j hj => absurd hj (Nat.not_lt_zero j), Below.refl _ _⟩
  case round =>
    obtain ⟨k, b, cp, hk, rfl, rfl, HOo, HJ, hb⟩ := hrel
    obtain ⟨wo, rfl⟩ : ∃ x, x = wr := ⟨_, rfl⟩
    have HBo := Lib.hid hb
    clear hb hO0
    by_cases hlt : k < n
    · have hki : (k : Int) < (n : Int) := by omega
      have hkl : k < L.length := by rw [← HN.out]; exact hlt
      obtain ⟨x, hx⟩ : ∃ x, x = L.getD k [] := ⟨_, rfl⟩
      have hxm : x ∈ L := by rw [hx]; exact M.getD_mem L [] k hkl
      have hxs := HPC.out x hxm
      obtain ⟨q, hq⟩ : ∃ q : ByteArray, q = ⟨x.toArray⟩ := ⟨_, rfl⟩
      have hqd : q.data.toList = x := by rw [hq]
      have hqs : q.size ≤ 1048576 := by
        have : q.size = x.length := by rw [hq]; simp [ByteArray.size]
        omega
      have hcell : wo.cell? ⟨g, k, none⟩ = some (.string q) := by rw [hq, hx]; exact HCL.out _ HBo.out k hlt
      obtain ⟨z, hz0⟩ : ∃ z, z = (M.readM x).1 := ⟨_, rfl⟩
      have HZ := Lib.hid hz0
      have HXM := Lib.hid hxm
      have HX := Lib.hid hx
      by_cases hok : (M.readM x).2 = true
      · have HC : Hid (∀ W, Below w1.heap.size w1 W → Calls Tryd.prog 41 #[.string q] W fun e w' => e = .returned (.tuple #[.int .i64 z, .bool true]) ∧ Below W.heap.size W w') := fun W hW => by
          have := readValue q W hqs (fun w' h => HTB.out w' (hW.trans (h.mono hW.size))) (fun w' h => HSE.out w' (hW.trans (h.mono hW.size)))
          unfold DigPost at this
          rw [hqd, M.read_eq, ← hz0, hok] at this
          exact this
        have HOK := Lib.hid hok
        clear hok hqd hqs hq hx hxm hz0 hxs
        go_wp2_with fail
        refine (HC.out _ HBo.out).mono ?_
        rintro e w2 ⟨rfl, hb2⟩
        have HO2 := Lib.hid (HOo.out.below hb2)
        have HB2 := Lib.hid (HBo.out.trans (hb2.mono HBo.out.size))
        have hz2 : w1.heap.size ≤ w2.heap.size := HB2.out.size
        clear hb2
        have HLN : Hid (((L.take k).map fun t => (M.readM t).1).length = k) := by show _ = _; simp; omega
        go_wp2_with (at_builtin; refine append1 _ rfl (.tmp 22) (.tmp 24) rfl w1.heap.size _ _ _ k HLN.out rfl HO2.out rfl (by rw [HLN.out]; omega) hz2 ?_)
        intro b2 c2 w3 hO2 hb3 _
        have HO3 : Hid (Own w3 w1.heap.size (.slice b2 (k + 1) c2) ((L.take (k + 1)).map fun t => (M.readM t).1)) := by
          show Own _ _ _ _
          rw [take_snoc L [] k hkl, List.map_append, List.map_singleton, ← HX.out, ← HZ.out, List.map_take]
          exact hO2
        have HB3 := Lib.hid (HB2.out.trans hb3)
        clear hO2 hb3
        go_wp2
        go_roundw
        case rel =>
          refine ⟨k + 1, _, _, by omega, by go_num, rfl, HO3, fun j hj => ?_, HB3.out⟩
          by_cases e : j = k
          · subst e; rw [← HX.out]; exact HOK.out
          · exact HJ.out j (by omega)
        case measure => simp [intOf]; omega
      · simp only [Bool.not_eq_true] at hok
        have HC : Hid (∀ W, Below w1.heap.size w1 W → Calls Tryd.prog 41 #[.string q] W fun e w' => e = .returned (.tuple #[.int .i64 z, .bool false]) ∧ Below W.heap.size W w') := fun W hW => by
          have := readValue q W hqs (fun w' h => HTB.out w' (hW.trans (h.mono hW.size))) (fun w' h => HSE.out w' (hW.trans (h.mono hW.size)))
          unfold DigPost at this
          rw [hqd, M.read_eq, ← hz0, hok] at this
          exact this
        have HOK := Lib.hid hok
        clear hok hqd hqs hq hx hxm hz0 hxs
        go_wp2_with fail
        refine (HC.out _ HBo.out).mono ?_
        rintro e w2 ⟨rfl, hb2⟩
        have HB2 := Lib.hid (HBo.out.trans (hb2.mono HBo.out.size))
        clear hb2
        go_wp2
        go_ret2
        rw [M.rowOf_bad2 HXM.out HOK.out]
        exact ⟨none, 0, rfl, own_nil _ _, HB2.out⟩
    · obtain rfl : k = n := by omega
      have HB2 := Lib.hid HBo.out
      go_wp2
      go_ret2
      rw [M.rowOf_ok (fun j hj => HJ.out j (by have := HN.out; omega))]
      have e : L.take k = L := List.take_of_length_le (by rw [HN.out]; exact Nat.le_refl _)
      have ho := HOo.out
      rw [e] at ho
      have hl : (L.map fun t => (M.readM t).1).length = k := by rw [List.length_map, HN.out]
      refine ⟨b, cp, ?_, ?_, HB2.out⟩
      · show Ending.returned _ = Ending.returned (.tuple #[.slice b (L.map fun t => (M.readM t).1).length cp, .bool true])
        rw [hl]; rfl
      · show Own _ _ (.slice b (L.map fun t => (M.readM t).1).length cp) _
        rw [hl]; exact ho

/-- A matrix and whether it could be read. -/
def MRPost (r : List (List Int) × Bool) (w : World) (e : Ending) (w' : World) : Prop :=
  ∃ a cap, e = .returned (.tuple #[.slice a r.1.length cap, .bool r.2]) ∧ OwnM w' w.heap.size (.slice a r.1.length cap) r.1 ∧ Below w.heap.size w w'

set_option maxRecDepth 100000 in
set_option maxHeartbeats 4000000 in
theorem sReadMatrix (s : ByteArray) (w : World) (hs : s.size ≤ 1048576) :
    Calls Tryd.prog 21 #[.string s] w (MRPost (M.readS s.data.toList) w) := by
  have hlen : s.data.toList.length = s.size := Array.length_toList
  have HLEN := Lib.hid hlen
  clear hlen
  go_enter Tryd.func21, Tryd.ntmps21
  go_wp2_with fail
  refine (sSplit s 59 59 _ rfl hs).mono ?_
  rintro e w1 ⟨a1, cap1, rfl, ho, hb⟩
  obtain ⟨L, hL⟩ : ∃ L, L = M.splitL 59 s.data.toList := ⟨_, rfl⟩
  have hpc : ∀ x ∈ L, x.length ≤ s.size := fun x hx => by
    rw [hL] at hx
    have := M.splitL_piece _ _ x hx
    rw [HLEN.out] at this
    exact this
  have hln : L.length ≤ s.size + 1 := by
    have := M.splitL_len 59 s.data.toList
    rw [← hL, HLEN.out] at this
    exact this
  have HR : Hid (M.readS s.data.toList = M.matOf M.rowS L) := by show _ = _; rw [hL]; rfl
  rw [← hL] at ho ⊢
  have HPC := Lib.hid hpc
  have hne : 0 < L.length := by rw [hL]; exact List.length_pos_iff.2 (M.splitL_ne _ _)
  obtain ⟨n, hn⟩ : ∃ n, n = L.length := ⟨_, rfl⟩
  rw [← hn] at ho hln hne ⊢
  obtain ⟨g, rfl, -⟩ := ho.head (by omega)
  have HN := Lib.hid hn
  have HO := Lib.hid ho
  have HB := Lib.hid hb
  have hz : w.heap.size ≤ w1.heap.size := hb.size
  have hO0 : Hid (OwnM (w1.alloc (.cells #[] 68)) w1.heap.size (.slice (some ⟨w1.heap.size, 0, none⟩) 0 0) []) := ownM_lit0 w1 _ (Nat.le_refl _)
  clear ho hb hL hpc hn
  go_wp2
  go_loopw [5, 6] (fun out i wr => ∃ (k : Nat) (b : Option Addr) (cp : Nat), k ≤ n ∧ i = .int .i64 k ∧ out = .slice b k cp ∧ Hid (OwnM wr w1.heap.size (.slice b k cp) ((L.take k).map fun t => (M.rowS t).1)) ∧ Hid (∀ j, j < k → (M.rowS (L.getD j [])).2 = true) ∧ Below w1.heap.size w1 wr) (fun _ i _ => n - (intOf i).toNat)
  case atStart => exact ⟨0, _, _, Nat.zero_le _, rfl, rfl, hO0, fun j hj => absurd hj (Nat.not_lt_zero j), b_alloc _ _⟩
  case round =>
    obtain ⟨k, b, cp, hk, rfl, rfl, HOo, HJ, hb⟩ := hrel
    obtain ⟨wo, rfl⟩ : ∃ x, x = wr := ⟨_, rfl⟩
    have HBo := Lib.hid hb
    clear hb hO0
    by_cases hlt : k < n
    · have hki : (k : Int) < (n : Int) := by omega
      have hkl : k < L.length := by rw [← HN.out]; exact hlt
      obtain ⟨x, hx⟩ : ∃ x, x = L.getD k [] := ⟨_, rfl⟩
      have hxm : x ∈ L := by rw [hx]; exact M.getD_mem L [] k hkl
      have hxs := HPC.out x hxm
      obtain ⟨q, hq⟩ : ∃ q : ByteArray, q = ⟨x.toArray⟩ := ⟨_, rfl⟩
      have hqd : q.data.toList = x := by rw [hq]
      have hqs : q.size ≤ 1048576 := by
        have : q.size = x.length := by rw [hq]; simp [ByteArray.size]
        omega
      have hcell : wo.cell? ⟨g, k, none⟩ = some (.string q) := by rw [hq, hx]; exact (HO.out.below HBo.out).cellAt k hlt
      obtain ⟨z, hz0⟩ : ∃ z, z = (M.rowS x).1 := ⟨_, rfl⟩
      obtain ⟨ok, hok⟩ : ∃ ok, ok = (M.rowS x).2 := ⟨_, rfl⟩
      have HZ := Lib.hid hz0
      have HXM := Lib.hid hxm
      have HX := Lib.hid hx
      have HOK := Lib.hid hok
      have HC : Hid (∀ W, Calls Tryd.prog 51 #[.string q] W (RPost (z, ok) W)) := fun W => by
        have := sRead q W hqs
        rw [hqd] at this
        have e : M.rowS x = (z, ok) := by rw [hz0, hok]
        rw [e] at this
        exact this
      clear hok hqd hqs hq hx hxm hz0 hxs
      go_wp2_with fail
      refine (HC.out _).mono ?_
      rintro e w2 ⟨ra, rc, rfl, hro, hb2⟩
      have HRO := Lib.hid hro
      have HBB := Lib.hid hb2
      have HB2 := Lib.hid (HBo.out.trans (hb2.mono HBo.out.size))
      have hz1 : w1.heap.size ≤ wo.heap.size := HBo.out.size
      clear hb2 hro
      by_cases hk2 : ok = true
      · have HLN : Hid (((L.take k).map fun t => (M.rowS t).1).length = k) := by show _ = _; simp; omega
        go_wp2_with (at_builtin; refine appendRow wo _ rfl (.tmp 28) (.tmp 30) rfl w1.heap.size _ _ _ _ k HLN.out rfl HOo.out HBB.out HRO.out rfl (by rw [HLN.out]; omega) hz1 ?_)
        intro b2 c2 w3 hO2 hb3 _
        have HO3 : Hid (OwnM w3 w1.heap.size (.slice b2 (k + 1) c2) ((L.take (k + 1)).map fun t => (M.rowS t).1)) := by
          show OwnM _ _ _ _
          rw [take_snoc L [] k hkl, List.map_append, List.map_singleton, ← HX.out, ← HZ.out, List.map_take]
          exact hO2
        have HB3 := Lib.hid (HB2.out.trans hb3)
        clear hO2 hb3
        go_wp2
        go_roundw
        case rel =>
          refine ⟨k + 1, _, _, by omega, by go_num, rfl, HO3, fun j hj => ?_, HB3.out⟩
          by_cases e : j = k
          · subst e; rw [← HX.out, ← HOK.out]; exact hk2
          · exact HJ.out j (by omega)
        case measure => simp [intOf]; omega
      · simp only [Bool.not_eq_true] at hk2
        subst hk2
        have HB4 := Lib.hid (bnext HB.out HB2.out)
        go_wp2
        go_ret2
        rw [HR.out, M.matOf_bad2 HXM.out HOK.out.symm]
        exact ⟨none, 0, rfl, ownM_nil _ _, HB4.out⟩
    · obtain rfl : k = n := by omega
      have e : L.take k = L := List.take_of_length_le (by rw [HN.out]; exact Nat.le_refl _)
      have ho := HOo.out
      rw [e] at ho
      have hl : (L.map fun t => (M.rowS t).1).length = k := by rw [List.length_map, HN.out]
      have HL := Lib.hid hl
      have HOf := Lib.hid ho
      have HMO : Hid (M.matOf M.rowS L = if M.isMat (L.map fun t => (M.rowS t).1) then (L.map (fun t => (M.rowS t).1), true) else ([], false)) := M.matOf_ok (fun j hj => HJ.out j (by have := HN.out; omega))
      clear e ho hl
      by_cases hm : M.isMat (L.map fun t => (M.rowS t).1) = true
      · have HIM := Lib.hid hm
        clear hm
        go_wp2_with (go_at_call 52; refine (sIsMatrixB_b _ _ _ _ _ _ HIM.out HOf.out.mat).mono ?_; rintro e wm ⟨rfl, hbm⟩)
        go_ret2
        rw [HR.out, HMO.out, if_pos HIM.out]
        refine ⟨b, cp, ?_, ?_, bnext HB.out (HBo.out.trans (hbm.mono HBo.out.size))⟩
        · show Ending.returned _ = Ending.returned (.tuple #[.slice b (L.map fun t => (M.rowS t).1).length cp, .bool true])
          rw [HL.out]; rfl
        · show OwnM _ _ (.slice b (L.map fun t => (M.rowS t).1).length cp) _
          rw [HL.out]; exact (HOf.out.below hbm).mono hz
      · simp only [Bool.not_eq_true] at hm
        have HIM := Lib.hid hm
        clear hm
        go_wp2_with (go_at_call 52; refine (sIsMatrixB_b _ _ _ _ _ _ HIM.out HOf.out.mat).mono ?_; rintro e wm ⟨rfl, hbm⟩)
        go_ret2
        rw [HR.out, HMO.out, if_neg (by rw [HIM.out]; exact Bool.false_ne_true)]
        exact ⟨none, 0, rfl, ownM_nil _ _, bnext HB.out (HBo.out.trans (hbm.mono HBo.out.size))⟩

set_option maxRecDepth 100000 in
set_option maxHeartbeats 4000000 in
theorem iReadMatrix (s : ByteArray) (w : World) (hs : s.size ≤ 1048576) (hm : MaxC w) (htab : ∀ w', Below w.heap.size w w' → Lib.TabIs Tryd.prog w' "internal/strconv.uint64pow10" .u64 Lib.pow10Tab) (hsent : ∀ w', Below w.heap.size w w' → Sent w') :
    Calls Tryd.prog 19 #[.string s] w (MRPost (M.readMI s.data.toList) w) := by
  have hlen : s.data.toList.length = s.size := Array.length_toList
  have HLEN := Lib.hid hlen
  clear hlen
  have HM := Lib.hid hm
  have HTB := Lib.hid htab
  have HSE := Lib.hid hsent
  clear hm htab hsent
  go_enter Tryd.func19, Tryd.ntmps19
  go_wp2_with fail
  refine (splitN11 s 59 _ hs HM.out).mono ?_
  rintro e w1 ⟨a1, cap1, rfl, ho, hb⟩
  obtain ⟨L, hL⟩ : ∃ L, L = M.cutN 59 s.data.toList := ⟨_, rfl⟩
  have hpc : ∀ x ∈ L, x.length ≤ s.size := fun x hx => by
    rw [hL] at hx
    have := M.cutN_piece _ _ x hx
    rw [HLEN.out] at this
    exact this
  have hln : L.length ≤ 11 := by
    have := M.cutN_len 59 s.data.toList
    rw [← hL] at this
    exact this
  have HR : Hid (M.readMI s.data.toList = M.matOf M.rowI L) := by show _ = _; rw [hL]; rfl
  rw [← hL] at ho ⊢
  have HPC := Lib.hid hpc
  have hne : 0 < L.length := by rw [hL]; exact M.cutN_ne _ _
  obtain ⟨n, hn⟩ : ∃ n, n = L.length := ⟨_, rfl⟩
  rw [← hn] at ho hln hne ⊢
  obtain ⟨g, rfl, -⟩ := ho.head (by omega)
  have HN := Lib.hid hn
  have HO := Lib.hid ho
  have HB := Lib.hid hb
  have hz : w.heap.size ≤ w1.heap.size := hb.size
  have hO0 : Hid (OwnM w1 w1.heap.size (.slice none 0 0) []) := ownM_nil _ _
  clear ho hb hL hpc hn
  go_wp2
  go_loopw [4, 12] (fun out i wr => ∃ (k : Nat) (b : Option Addr) (cp : Nat), k ≤ n ∧ i = .int .i64 k ∧ out = .slice b k cp ∧ Hid (OwnM wr w1.heap.size (.slice b k cp) ((L.take k).map fun t => (M.rowI t).1)) ∧ Hid (∀ j, j < k → (M.rowI (L.getD j [])).2 = true) ∧ Below w1.heap.size w1 wr) (fun _ i _ => n - (intOf i).toNat)
  case atStart => exact ⟨0, _, _, Nat.zero_le _, rfl, rfl, hO0, fun j hj => absurd hj (Nat.not_lt_zero j), Below.refl _ _⟩
  case round =>
    obtain ⟨k, b, cp, hk, rfl, rfl, HOo, HJ, hb⟩ := hrel
    obtain ⟨wo, rfl⟩ : ∃ x, x = wr := ⟨_, rfl⟩
    have HBo := Lib.hid hb
    clear hb hO0
    by_cases hlt : k < n
    · have hki : (k : Int) < (n : Int) := by omega
      have hkl : k < L.length := by rw [← HN.out]; exact hlt
      obtain ⟨x, hx⟩ : ∃ x, x = L.getD k [] := ⟨_, rfl⟩
      have hxm : x ∈ L := by rw [hx]; exact M.getD_mem L [] k hkl
      have hxs := HPC.out x hxm
      obtain ⟨q, hq⟩ : ∃ q : ByteArray, q = ⟨x.toArray⟩ := ⟨_, rfl⟩
      have hqd : q.data.toList = x := by rw [hq]
      have hqs : q.size ≤ 1048576 := by
        have : q.size = x.length := by rw [hq]; simp [ByteArray.size]
        omega
      have hcell : wo.cell? ⟨g, k, none⟩ = some (.string q) := by rw [hq, hx]; exact (HO.out.below HBo.out).cellAt k hlt
      obtain ⟨z, hz0⟩ : ∃ z, z = (M.rowI x).1 := ⟨_, rfl⟩
      obtain ⟨ok, hok⟩ : ∃ ok, ok = (M.rowI x).2 := ⟨_, rfl⟩
      have HZ := Lib.hid hz0
      have HXM := Lib.hid hxm
      have HX := Lib.hid hx
      have HOK := Lib.hid hok
      have HXS := Lib.hid hxs
      have HQD := Lib.hid hqd
      have HQS := Lib.hid hqs
      have HE : Hid (M.rowOf (M.cutN 44 x) = (z, ok)) := by show M.rowI x = _; rw [hz0, hok]
      clear hok hqd hq hx hxm hz0 hxs
      go_wp2_with fail
      refine (splitN11 q 44 wo hqs (HM.out.below (bnext HB.out HBo.out))).mono ?_
      rintro e wp ⟨a5, cap5, rfl, ho5, hb5⟩
      rw [HQD.out] at ho5 ⊢
      obtain ⟨L5, hL5⟩ : ∃ l, l = M.cutN 44 x := ⟨_, rfl⟩
      have h5p : ∀ y ∈ L5, y.length ≤ 1048576 := fun y hy => by
        rw [hL5] at hy
        have h1 := M.cutN_piece _ _ y hy
        have h2 := HXS.out
        omega
      have h5l : L5.length ≤ 11 := by
        have := M.cutN_len 44 x
        rw [← hL5] at this
        exact this
      have h5n : 0 < L5.length := by rw [hL5]; exact M.cutN_ne _ _
      rw [← hL5] at ho5 ⊢
      have HE5 : Hid (M.rowOf L5 = (z, ok)) := by show _ = _; rw [hL5]; exact HE.out
      obtain ⟨n5, hn5⟩ : ∃ n, n = L5.length := ⟨_, rfl⟩
      rw [← hn5] at ho5 h5l h5n ⊢
      obtain ⟨g5, rfl, -⟩ := ho5.head (by omega)
      have HO5 := Lib.hid ho5
      have HB5 := Lib.hid hb5
      have HP5 := Lib.hid h5p
      have HN5 := Lib.hid hn5
      clear ho5 hb5 h5p hL5 hn5 h5n
      have HC : Hid (Calls Tryd.prog 48 #[.slice (some ⟨g5, 0, none⟩) n5 cap5] wp (RPost (z, ok) wp)) := by
        have := readVals g5 n5 cap5 L5 wp HN5.out (by omega) HP5.out (fun w2 h2 k h => (HO5.out.below h2).cellAt k h) (fun w' h => HTB.out w' (bnext (bnext (bnext HB.out HBo.out) HB5.out) h)) (fun w' h => HSE.out w' (bnext (bnext (bnext HB.out HBo.out) HB5.out) h))
        rw [HE5.out] at this
        exact this
      go_wp2_with fail
      refine (HC.out).mono ?_
      rintro e w2 ⟨ra, rc, rfl, hro, hb2⟩
      have hro := hro.mono HB5.out.size
      have hb2 := bnext HB5.out hb2
      have HRO := Lib.hid hro
      have HBB := Lib.hid hb2
      have HB2 := Lib.hid (HBo.out.trans (hb2.mono HBo.out.size))
      have hz1 : w1.heap.size ≤ wo.heap.size := HBo.out.size
      clear hb2 hro
      by_cases hk2 : ok = true
      · have HLN : Hid (((L.take k).map fun t => (M.rowI t).1).length = k) := by show _ = _; simp; omega
        go_wp2_with (at_builtin; refine appendRow wo _ rfl (.tmp 24) (.tmp 26) rfl w1.heap.size _ _ _ _ k HLN.out rfl HOo.out HBB.out HRO.out rfl (by rw [HLN.out]; omega) hz1 ?_)
        intro b2 c2 w3 hO2 hb3 _
        have HO3 : Hid (OwnM w3 w1.heap.size (.slice b2 (k + 1) c2) ((L.take (k + 1)).map fun t => (M.rowI t).1)) := by
          show OwnM _ _ _ _
          rw [take_snoc L [] k hkl, List.map_append, List.map_singleton, ← HX.out, ← HZ.out, List.map_take]
          exact hO2
        have HB3 := Lib.hid (HB2.out.trans hb3)
        clear hO2 hb3
        go_wp2
        go_roundw
        case rel =>
          refine ⟨k + 1, _, _, by omega, by go_num, rfl, HO3, fun j hj => ?_, HB3.out⟩
          by_cases e : j = k
          · subst e; rw [← HX.out, ← HOK.out]; exact hk2
          · exact HJ.out j (by omega)
        case measure => simp [intOf]; omega
      · simp only [Bool.not_eq_true] at hk2
        subst hk2
        have HB4 := Lib.hid (bnext HB.out HB2.out)
        go_wp2
        go_ret2
        rw [HR.out, M.matOf_bad2 HXM.out HOK.out.symm]
        exact ⟨none, 0, rfl, ownM_nil _ _, HB4.out⟩
    · obtain rfl : k = n := by omega
      have e : L.take k = L := List.take_of_length_le (by rw [HN.out]; exact Nat.le_refl _)
      have ho := HOo.out
      rw [e] at ho
      have hl : (L.map fun t => (M.rowI t).1).length = k := by rw [List.length_map, HN.out]
      have HL := Lib.hid hl
      have HOf := Lib.hid ho
      have HMO : Hid (M.matOf M.rowI L = if M.isMat (L.map fun t => (M.rowI t).1) then (L.map (fun t => (M.rowI t).1), true) else ([], false)) := M.matOf_ok (fun j hj => HJ.out j (by have := HN.out; omega))
      clear e ho hl
      by_cases hm : M.isMat (L.map fun t => (M.rowI t).1) = true
      · have HIM := Lib.hid hm
        clear hm
        go_wp2_with (go_at_call 47; refine (isMatrix_b _ _ _ _ _ _ HIM.out HOf.out.mat).mono ?_; rintro e w' ⟨rfl, rfl⟩)
        go_ret2
        rw [HR.out, HMO.out, if_pos HIM.out]
        refine ⟨b, cp, ?_, ?_, bnext HB.out HBo.out⟩
        · show Ending.returned _ = Ending.returned (.tuple #[.slice b (L.map fun t => (M.rowI t).1).length cp, .bool true])
          rw [HL.out]; rfl
        · show OwnM _ _ (.slice b (L.map fun t => (M.rowI t).1).length cp) _
          rw [HL.out]; exact HOf.out.mono hz
      · simp only [Bool.not_eq_true] at hm
        have HIM := Lib.hid hm
        clear hm
        go_wp2_with (go_at_call 47; refine (isMatrix_b _ _ _ _ _ _ HIM.out HOf.out.mat).mono ?_; rintro e w' ⟨rfl, rfl⟩)
        go_ret2
        rw [HR.out, HMO.out, if_neg (by rw [HIM.out]; exact Bool.false_ne_true)]
        exact ⟨none, 0, rfl, ownM_nil _ _, bnext HB.out HBo.out⟩
end Go.Proofs.YtlcjmcoljclpgaaDoor.V

namespace Go.Proofs.YtlcjmcoljclpgaaDoor.V
open Go.Lib

theorem join_two (x y : List UInt8) (r : List (List UInt8)) (c : UInt8) : join (x :: y :: r) [c] = x ++ c :: join (y :: r) [c] := by
  rw [join_cons, join_cons, joinTail, joinTail, List.map_cons, List.flatten_cons]
  simp
theorem splitL_join (c : UInt8) (L : List (List UInt8)) (hne : L ≠ []) (h : ∀ x ∈ L, ∀ b ∈ x, b ≠ c) : M.splitL c (join L [c]) = L := by
  induction L with
  | nil => exact absurd rfl hne
  | cons x r ih =>
    cases r with
    | nil => rw [join_one, M.splitL_miss c x (h x (by simp))]
    | cons y r =>
      rw [join_two, M.splitL_hit c x _ (h x (by simp)), ih (by simp) (fun z hz => h z (List.mem_cons_of_mem _ hz))]
theorem join_splitL (c : UInt8) (l : List UInt8) : join (M.splitL c l) [c] = l := by
  induction l with
  | nil => rfl
  | cons b l ih =>
    rw [M.splitL]
    cases h : M.splitL c l with
    | nil => exact absurd h (M.splitL_ne c l)
    | cons y r =>
      rw [h] at ih
      split
      · next e => rw [join_two, ih, e]; rfl
      · rw [List.headD_cons, List.tail_cons, join_cons, List.cons_append, ← join_cons, ih]
theorem mem_join {b : UInt8} {c : UInt8} {L : List (List UInt8)} (h : b ∈ join L [c]) : (∃ x ∈ L, b ∈ x) ∨ b = c := by
  induction L with
  | nil => simp [join_nil] at h
  | cons x r ih =>
    cases r with
    | nil => rw [join_one] at h; exact .inl ⟨x, by simp, h⟩
    | cons y r =>
      rw [join_two] at h
      rcases List.mem_append.1 h with h | h
      · exact .inl ⟨x, by simp, h⟩
      · rcases List.mem_cons.1 h with h | h
        · exact .inr h
        · rcases ih h with ⟨z, hz, hb⟩ | e
          · exact .inl ⟨z, List.mem_cons_of_mem _ hz, hb⟩
          · exact .inr e
theorem vtxt_bytes {a : Int} (h : M.isVal a = true) : ∀ b ∈ vtxt a, b ≠ 44 ∧ b ≠ 59 := by
  intro b hb
  rw [vtxt, if_pos h, txt] at hb
  have key : b.toNat ≠ 44 ∧ b.toNat ≠ 59 → b ≠ 44 ∧ b ≠ 59 := fun h => ⟨fun e => h.1 (by rw [e]; rfl), fun e => h.2 (by rw [e]; rfl)⟩
  apply key
  split at hb
  · simp at hb; subst hb; decide
  · rw [itoa] at hb
    split at hb
    · rcases List.mem_cons.1 hb with rfl | hb
      · decide
      · have := M.dec_digits _ b hb; omega
    · have := M.dec_digits _ b hb; omega
theorem itoa_ne' {a : Int} (h : M.isFin a = true) : Go.Lib.itoa a ≠ [] ∧ Go.Lib.itoa a ≠ [46] := by
  have hs := M.sgn_itoa h
  constructor
  · intro e
    rw [e] at hs
    have := congrArg Prod.snd hs
    simp [M.sgnM, M.digM] at this
  · intro e
    rw [e] at hs
    have := congrArg Prod.snd hs
    simp [M.sgnM, M.digM, M.isDigs] at this
theorem readM_v {a : Int} (h : M.isVal a = true) : M.readM (vtxt a) = (a, true) ∧ vtxt a ≠ [] := by
  rw [vtxt, if_pos h, txt]
  by_cases hb : a = -1000000000000000
  · rw [if_pos hb, hb]
    exact ⟨by rw [M.readM, if_pos rfl], by simp⟩
  · have hf : M.isFin a = true := by
      rcases M.isVal_t h with h | h
      · exact absurd h hb
      · simp [M.isFin, h]
    rw [if_neg hb]
    refine ⟨?_, (itoa_ne' hf).1⟩
    rw [← M.read_eq, M.readI, if_neg (itoa_ne' hf).2, M.parse_itoa hf]
    simp [hf]
theorem vtxt_r {l : List UInt8} (h : (M.readM l).2 = true) : vtxt (M.readM l).1 = l := by
  rw [← M.read_eq] at h ⊢
  rw [M.readI] at h ⊢
  by_cases hl : l = [46]
  · rw [if_pos hl] at h ⊢
    show vtxt (-1000000000000000) = l
    rw [vtxt, if_pos M.bot_val, txt, if_pos rfl, hl]
  · rw [if_neg hl] at h ⊢
    cases hp : Go.Lib.parseIntB 64 l
    next n =>
      rw [hp] at h
      by_cases hc : (M.isFin n && decide (Go.Lib.itoa n = l)) = true
      · simp only [hc, if_true]
        simp only [Bool.and_eq_true, decide_eq_true_eq] at hc
        have hne : ¬ n = -1000000000000000 := by have := M.isFin_t hc.1; omega
        rw [vtxt, if_pos (M.isVal_of_fin hc.1), txt, if_neg hne, hc.2]
      · simp only [Bool.not_eq_true] at hc
        simp [hc] at h
    all_goals
      rw [hp] at h
      simp at h
theorem rowS_t {r : List Int} (h : M.isVec r = true) : M.rowS (rtxt r) = (r, true) ∧ rtxt r ≠ [] := by
  obtain ⟨h1, h2, h3⟩ := M.isVec_t h
  have hv : ∀ a ∈ r, M.isVal a = true := fun a ha => by
    obtain ⟨j, hj, rfl⟩ := List.getElem_of_mem ha
    have := h3 j hj
    simpa [hj] using this
  have e : M.splitL 44 (rtxt r) = r.map vtxt := splitL_join 44 _ (by intro e; have := congrArg List.length e; simp at this; simp [this] at h1) (fun x hx b hb => by
    obtain ⟨a, ha, rfl⟩ := List.mem_map.1 hx
    exact (vtxt_bytes (hv a ha) b hb).1)
  refine ⟨?_, ?_⟩
  · rw [M.rowS, e, M.rowOf, if_pos]
    · rw [List.map_map]
      congr 1
      conv => rhs; rw [← List.map_id r]
      exact List.map_congr_left fun a ha => by
        show (M.readM (vtxt a)).1 = a
        rw [(readM_v (hv a ha)).1]
    · rw [List.all_eq_true]
      intro x hx
      obtain ⟨a, ha, rfl⟩ := List.mem_map.1 hx
      rw [(readM_v (hv a ha)).1]
  · cases r with
    | nil => simp at h1
    | cons a r =>
      rw [rtxt, List.map_cons, join_cons]
      intro e
      exact (readM_v (hv a (by simp))).2 (List.append_eq_nil_iff.1 e).1
theorem rowS_s {l : List UInt8} (h : (M.rowS l).2 = true) : rtxt (M.rowS l).1 = l := by
  rw [M.rowS, M.rowOf] at h ⊢
  split at h
  · next hc =>
    rw [if_pos hc]
    show join (((M.splitL 44 l).map fun t => (M.readM t).1).map vtxt) [44] = l
    rw [List.map_map]
    have e : (M.splitL 44 l).map (vtxt ∘ fun t => (M.readM t).1) = M.splitL 44 l := by
      conv => rhs; rw [← List.map_id (M.splitL 44 l)]
      exact List.map_congr_left fun t ht => vtxt_r (List.all_eq_true.1 hc t ht)
    rw [e, join_splitL]
  · cases h
theorem isMat_rows {R : List (List Int)} (h : M.isMat R = true) : R ≠ [] ∧ ∀ r ∈ R, M.isVec r = true := by
  unfold M.isMat at h
  simp only [Bool.and_eq_true, decide_eq_true_eq, List.all_eq_true] at h
  exact ⟨fun e => by rw [e] at h; simp at h, fun r hr => (h.2 r hr).1⟩
theorem readS_t {R : List (List Int)} (h : M.isMat R = true) : M.readS (mtxt R) = (R, true) ∧ mtxt R ≠ [] := by
  obtain ⟨h1, h2⟩ := isMat_rows h
  rw [mtxt, if_pos h]
  have e : M.splitL 59 (join (R.map rtxt) [59]) = R.map rtxt := splitL_join 59 _ (by simpa using h1) (fun x hx b hb => by
    obtain ⟨r, hr, rfl⟩ := List.mem_map.1 hx
    obtain ⟨-, -, h3⟩ := M.isVec_t (h2 r hr)
    rcases mem_join hb with ⟨y, hy, hby⟩ | e
    · obtain ⟨a, ha, rfl⟩ := List.mem_map.1 hy
      obtain ⟨j, hj, rfl⟩ := List.getElem_of_mem ha
      have := h3 j hj
      exact (vtxt_bytes (by simpa [hj] using this) b hby).2
    · rw [e]; decide)
  refine ⟨?_, ?_⟩
  · have em : (R.map rtxt).map (fun t => (M.rowS t).1) = R := by
      rw [List.map_map]
      conv => rhs; rw [← List.map_id R]
      exact List.map_congr_left fun r hr => by
        show (M.rowS (rtxt r)).1 = r
        rw [(rowS_t (h2 r hr)).1]
    rw [M.readS, e, M.matOf, em, h, Bool.and_true, if_pos]
    rw [List.all_eq_true]
    intro x hx
    obtain ⟨r, hr, rfl⟩ := List.mem_map.1 hx
    rw [(rowS_t (h2 r hr)).1]
  · cases R with
    | nil => exact absurd rfl h1
    | cons r R =>
      rw [List.map_cons, join_cons]
      intro e
      exact (rowS_t (h2 r (by simp))).2 (List.append_eq_nil_iff.1 e).1
theorem readS_nil : M.readS [] = ([], false) := by
  simp [M.readS, M.splitL, M.matOf, M.rowS, M.rowOf, M.readM, M.sgnM, M.digM]
theorem readS_s {l : List UInt8} (h : (M.readS l).2 = true) : mtxt (M.readS l).1 = l := by
  rw [M.readS, M.matOf] at h ⊢
  split at h
  · next hc =>
    rw [if_pos hc]
    rw [Bool.and_eq_true] at hc
    show mtxt ((M.splitL 59 l).map fun t => (M.rowS t).1) = l
    rw [mtxt, if_pos hc.2, List.map_map]
    have e : (M.splitL 59 l).map (rtxt ∘ fun t => (M.rowS t).1) = M.splitL 59 l := by
      conv => rhs; rw [← List.map_id (M.splitL 59 l)]
      exact List.map_congr_left fun t ht => rowS_s (List.all_eq_true.1 hc.1 t ht)
    rw [e, join_splitL]
  · cases h
theorem mtxt_len (R : List (List Int)) : (mtxt R).length ≤ 2110 := by
  rw [mtxt]
  split
  · next h =>
    obtain ⟨h1, h2, -⟩ := M.isMat_t h
    have := joinT_len (R.map rtxt) [59] 210 (fun x hx => by
      obtain ⟨r, hr, rfl⟩ := List.mem_map.1 hx
      have := rtxt_len r
      have := (M.isVec_t ((isMat_rows h).2 r hr)).2.1
      omega)
    simp at this
    omega
  · simp
end Go.Proofs.YtlcjmcoljclpgaaDoor.V
