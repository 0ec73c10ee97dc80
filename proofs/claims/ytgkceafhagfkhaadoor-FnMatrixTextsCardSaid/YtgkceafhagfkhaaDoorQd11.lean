/- Texts laid together: Rm2. -/
import Derived.Test.YtgkceafhagfkhaaDoorRows
import Derived.Test.YtgkceafhagfkhaaDoorQd1
import Derived.Test.YtgkceafhagfkhaaDoorQd3
import Derived.Test.YtgkceafhagfkhaaDoorQd4
import Derived.Test.YtgkceafhagfkhaaDoorQd5
import Derived.WalkKit
import Derived.ProofKit
import Derived.WalkSmall
import Derived.Deep.QuietTactic
import Derived.BigQuiet
import Derived.BigRegion
import Derived.Deep.Draws
import Derived.Lib.Hide
import Derived.OpenShut
import Derived.Deep.OwnRows
import Derived.Maps.AppendAt
import Derived.Test.YtgkceafhagfkhaaDoorQd2
import Derived.Test.YtgkceafhagfkhaaDoorQd10
import Derived.Test.YtgkceafhagfkhaaDoorQd9
set_option linter.unusedSimpArgs false
set_option linter.unusedVariables false
set_option linter.unusedSectionVars false
namespace Go.Proofs.YtgkceafhagfkhaaDoor.M
theorem splitL_piece (c : UInt8) (l : List UInt8) : ∀ x ∈ splitL c l, x.length ≤ l.length := by
  induction l with
  | nil => intro x hx; simp [splitL] at hx; simp [hx]
  | cons b l ih =>
    intro x hx
    unfold splitL at hx
    have hh : ((splitL c l).headD []).length ≤ l.length := by
      cases h : splitL c l with
      | nil => simp
      | cons y r => exact ih y (by rw [h]; simp)
    split at hx
    · rcases List.mem_cons.1 hx with rfl | hx
      · simp
      · have := ih x hx; simp; omega
    · rcases List.mem_cons.1 hx with rfl | hx
      · rw [List.length_cons, List.length_cons]; omega
      · have := ih x (List.mem_of_mem_tail hx); simp; omega
theorem splitK_piece (c : UInt8) : ∀ (k : Nat) (l : List UInt8), ∀ x ∈ Go.Lib.splitK [c] 0 k l, x.length ≤ l.length := by
  intro k
  induction k with
  | zero => intro l x hx; simp [Go.Lib.splitK] at hx; simp [hx]
  | succ k ih =>
    intro l x hx
    unfold Go.Lib.splitK at hx
    split at hx
    · simp at hx; simp [hx]
    · rcases List.mem_cons.1 hx with rfl | hx
      · simp; omega
      · have := ih _ x hx; simp at this; omega
theorem cutN_piece (c : UInt8) (l : List UInt8) : ∀ x ∈ cutN c l, x.length ≤ l.length := splitK_piece c _ l
theorem rowOf_bad2 {P : List (List UInt8)} {x : List UInt8} (hx : x ∈ P) (h : (readM x).2 = false) : rowOf P = ([], false) := by
  unfold rowOf
  rw [if_neg]
  intro hc
  rw [List.all_eq_true.1 hc x hx] at h
  cases h
theorem rowOf_ok {P : List (List UInt8)} (h : ∀ j, j < P.length → (readM (P.getD j [])).2 = true) : rowOf P = (P.map (fun t => (readM t).1), true) := by
  unfold rowOf
  rw [if_pos]
  rw [List.all_eq_true]
  intro x hx
  obtain ⟨j, hj, rfl⟩ := List.getElem_of_mem hx
  have := h j hj
  simpa [hj] using this
theorem cutN_ne (c : UInt8) (l : List UInt8) : 0 < (cutN c l).length := by
  unfold cutN
  cases h : min 11 (l.length + 1) - 1 with
  | zero => simp [Go.Lib.splitK]
  | succ k =>
    unfold Go.Lib.splitK
    split <;> simp
theorem getD_mem {α : Type} (l : List α) (d : α) (k : Nat) (h : k < l.length) : l.getD k d ∈ l := by
  simp [h]
end Go.Proofs.YtgkceafhagfkhaaDoor.M
namespace Go.Proofs.YtgkceafhagfkhaaDoor.V
open Go.RowKit

/-- internal/bytealg.MaxLen holds some integer. -/
def MaxC (w : World) : Prop := ∃ m : Int, w.cell? ⟨Tryd.laysM147_ren.g 1, 0, none⟩ = some (.int .i64 m)
theorem maxC_shaped {w : World} (h : w.ShapedOpen Tryd.prog) : MaxC w := Tryd.laysM147.s1_3 w h
theorem MaxC.below {w w' : World} (h : MaxC w) (hb : Below w.heap.size w w') : MaxC w' := by
  obtain ⟨m, hm⟩ := h
  exact ⟨m, by rw [hb.cell (World.block_lt_of_cell? _ _ hm)]; exact hm⟩
theorem ownT_cells (w : World) (P : List ByteArray) (N : Nat) (hP : P.length ≤ N) (hN : N ≤ maxLen) : OwnT (w.alloc (.cells (Lib.cellsOf P N) 9)) w.heap.size (.slice (some ⟨w.heap.size, 0, none⟩) P.length N) (P.map (·.data.toList)) := by
  have e : (Lib.cellsOf P N).size = N := Lib.cellsOf_size hP
  refine ⟨by simp, .inr ⟨w.heap.size, N, Lib.cellsOf P N, by simp, Nat.le_refl _, by show (w.heap.push _)[w.heap.size]? = _; simp, by simpa using hP, hN, by simp [e], ?_⟩⟩
  simp [Lib.cellsOf, List.map_map, Function.comp_def]
theorem OwnT.head {w : World} {B n cap : Nat} {a : Option Addr} {L : List (List UInt8)} (h : OwnT w B (.slice a n cap) L) (hn : 0 < L.length) : ∃ g, a = some ⟨g, 0, none⟩ ∧ B ≤ g := by
  obtain ⟨a', c, hv, -, -, hg⟩ := own_form h
  injection hv with e1 e2 e3
  obtain ⟨g, h1, h2, -⟩ := hg hn
  exact ⟨g, by rw [e1]; exact h1, h2⟩
theorem splitN11 (s : ByteArray) (c : UInt8) (w : World) (hs : s.size ≤ 1048576) (hm : MaxC w) :
    Calls Tryd.prog 24 #[.string s, .string ⟨#[c]⟩, .int .i64 11] w (TPost (M.cutN c s.data.toList) w) := by
  obtain ⟨m, hm⟩ := hm
  have hsz : (⟨#[c]⟩ : ByteArray).size = 1 := rfl
  refine (Any.strings_SplitN { Tryd.laysM147 with } Tryd.laysM147.i9 s ⟨#[c]⟩ 11 m w (by omega) hm (by omega) (by omega) (by omega)).mono ?_
  rintro e w' ⟨rfl, rfl⟩
  have hl : s.data.toList.length = s.size := Array.length_toList
  have e : (Lib.splitB ⟨#[c]⟩ 0 (min 11 (s.size + 1) - 1) s).map (·.data.toList) = M.cutN c s.data.toList := by
    rw [Lib.splitB_data, M.cutN, hl]
  have hle := Lib.splitB_length_le ⟨#[c]⟩ 0 (min 11 (s.size + 1) - 1) s
  have ho := ownT_cells w (Lib.splitB ⟨#[c]⟩ 0 (min 11 (s.size + 1) - 1) s) (min 11 (s.size + 1)) (by omega) (by unfold maxLen; omega)
  have e2 : (Lib.splitB ⟨#[c]⟩ 0 (min 11 (s.size + 1) - 1) s).length = (M.cutN c s.data.toList).length := by rw [← e]; simp
  rw [e2, e] at ho
  exact ⟨_, _, by rw [e2], ho, b_alloc _ _⟩

/-- A row and whether it could be read. -/
def RPost (r : List Int × Bool) (w : World) (e : Ending) (w' : World) : Prop :=
  ∃ a cap, e = .returned (.tuple #[.slice a r.1.length cap, .bool r.2]) ∧ Own w' w.heap.size (.slice a r.1.length cap) r.1 ∧ Below w.heap.size w w'

set_option maxRecDepth 100000 in
set_option maxHeartbeats 4000000 in
theorem sRead (s : ByteArray) (w : World) (hs : s.size ≤ 1048576) :
    Calls Tryd.prog 29 #[.string s] w (RPost (M.rowS s.data.toList) w) := by
  have hlen : s.data.toList.length = s.size := Array.length_toList
  have HLEN := Lib.hid hlen
  clear hlen
  go_enter Tryd.func29, Tryd.ntmps29
  go_wp2_with fail
  refine (sSplit s 44 44 _ rfl hs).mono ?_
  rintro e w1 ⟨a1, cap1, rfl, ho, hb⟩
  obtain ⟨L, hL⟩ : ∃ L, L = M.splitL 44 s.data.toList := ⟨_, rfl⟩
  have hpc : ∀ x ∈ L, x.length ≤ s.size := fun x hx => by
    rw [hL] at hx
    have := M.splitL_piece _ _ x hx
    rw [HLEN.out] at this
    exact this
  have hln : L.length ≤ s.size + 1 := by
    have := M.splitL_len 44 s.data.toList
    rw [← hL, HLEN.out] at this
    exact this
  have HR : Hid (M.rowS s.data.toList = M.rowOf L) := by show _ = _; rw [hL]; rfl
  rw [← hL] at ho ⊢
  have HPC := Lib.hid hpc
  have hne : 0 < L.length := by rw [hL]; exact List.length_pos_iff.2 (M.splitL_ne _ _)
  obtain ⟨n, hn⟩ : ∃ n, n = L.length := ⟨_, rfl⟩
  rw [← hn] at ho hln hne ⊢
  obtain ⟨g, rfl, -⟩ := ho.head (by omega)
  have HN := Lib.hid hn
  have HO := Lib.hid ho
  have HB := Lib.hid hb
  have hz : w.heap.size ≤ w1.heap.size := hb.size
  have hO0 : Hid (Own (w1.alloc (.cells #[] 2)) w1.heap.size (.slice (some ⟨w1.heap.size, 0, none⟩) 0 0) []) := own_lit0 w1 _ (Nat.le_refl _)
  clear ho hb hL hpc hn
  go_wp2
  go_loopw [5, 6] (fun out i wr => ∃ (k : Nat) (b : Option Addr) (cp : Nat), k ≤ n ∧ i = .int .i64 k ∧ out = .slice b k cp ∧ Hid (Own wr w1.heap.size (.slice b k cp) ((L.take k).map fun t => (M.readM t).1)) ∧ Hid (∀ j, j < k → (M.readM (L.getD j [])).2 = true) ∧ Below w1.heap.size w1 wr) (fun _ i _ => n - (intOf i).toNat)
  case atStart => exact ⟨0, _, _, Nat.zero_le _, rfl, rfl, hO0, fun j hj => absurd hj (Nat.not_lt_zero j), b_alloc _ _⟩
  case round =>
    obtain ⟨k, b, cp, hk, rfl, rfl, HOo, HJ, hb⟩ := hrel
    obtain ⟨wo, rfl⟩ : ∃ x, x = wr := ⟨_, rfl⟩
    have HBo := Lib.hid hb
    clear hb hO0
    by_cases hlt : k < n
    · have hki : (k : Int) < (n : Int) := by omega
      have hkl : k < L.length := by rw [← HN.out]; exact hlt
      obtain ⟨x, hx⟩ : ∃ x, x = L.getD k [] := ⟨_, rfl⟩
      have hxm : x ∈ L := by rw [hx]; exact M.getD_mem L [] k hkl
      have hxs := HPC.out x hxm
      obtain ⟨q, hq⟩ : ∃ q : ByteArray, q = ⟨x.toArray⟩ := ⟨_, rfl⟩
      have hqd : q.data.toList = x := by rw [hq]
      have hqs : q.size ≤ maxLen := by
        have : q.size = x.length := by rw [hq]; simp [ByteArray.size]
        unfold maxLen; omega
      have hcell : wo.cell? ⟨g, k, none⟩ = some (.string q) := by rw [hq, hx]; exact (HO.out.below HBo.out).cellAt k hlt
      obtain ⟨z, hz0⟩ : ∃ z, z = (M.readM x).1 := ⟨_, rfl⟩
      have HZ := Lib.hid hz0
      have HXM := Lib.hid hxm
      have HX := Lib.hid hx
      by_cases hok : (M.readM x).2 = true
      · have HC : Hid (∀ W, Calls Tryd.prog 48 #[.string q] W fun e w' => e = .returned (.tuple #[.int .i64 z, .bool true]) ∧ Below W.heap.size W w') := fun W => by
          have := sReadValue q W hqs
          unfold DigPost at this
          rw [hqd, ← hz0, hok] at this
          exact this
        have HOK := Lib.hid hok
        clear hok hqd hqs hq hx hxm hz0 hxs
        go_wp2_with fail
        refine (HC.out _).mono ?_
        rintro e w2 ⟨rfl, hb2⟩
        have HO2 := Lib.hid (HOo.out.below hb2)
        have HB2 := Lib.hid (HBo.out.trans (hb2.mono HBo.out.size))
        have hz2 : w1.heap.size ≤ w2.heap.size := HB2.out.size
        clear hb2
        have HLN : Hid (((L.take k).map fun t => (M.readM t).1).length = k) := by show _ = _; simp; omega
        go_wp2_with (at_builtin; refine append1 _ rfl (.tmp 28) (.tmp 30) rfl w1.heap.size _ _ _ k HLN.out rfl HO2.out rfl (by rw [HLN.out]; omega) hz2 ?_)
        intro b2 c2 w3 hO2 hb3 _
        have HO3 : Hid (Own w3 w1.heap.size (.slice b2 (k + 1) c2) ((L.take (k + 1)).map fun t => (M.readM t).1)) := by
          show Own _ _ _ _
          rw [take_snoc L [] k hkl, List.map_append, List.map_singleton, ← HX.out, ← HZ.out, List.map_take]
          exact hO2
        have HB3 := Lib.hid (HB2.out.trans hb3)
        clear hO2 hb3
        go_wp2
        go_roundw
        case rel =>
          refine ⟨k + 1, _, _, by omega, by go_num, rfl, HO3, fun j hj => ?_, HB3.out⟩
          by_cases e : j = k
          · subst e; rw [← HX.out]; exact HOK.out
          · exact HJ.out j (by omega)
        case measure => simp [intOf]; omega
      · simp only [Bool.not_eq_true] at hok
        have HC : Hid (∀ W, Calls Tryd.prog 48 #[.string q] W fun e w' => e = .returned (.tuple #[.int .i64 z, .bool false]) ∧ Below W.heap.size W w') := fun W => by
          have := sReadValue q W hqs
          unfold DigPost at this
          rw [hqd, ← hz0, hok] at this
          exact this
        have HOK := Lib.hid hok
        clear hok hqd hqs hq hx hxm hz0 hxs
        go_wp2_with fail
        refine (HC.out _).mono ?_
        rintro e w2 ⟨rfl, hb2⟩
        have HB2 := Lib.hid (bnext HB.out (HBo.out.trans (hb2.mono HBo.out.size)))
        clear hb2
        go_wp2
        go_ret2
        rw [HR.out, M.rowOf_bad2 HXM.out HOK.out]
        exact ⟨none, 0, rfl, own_nil _ _, HB2.out⟩
    · obtain rfl : k = n := by omega
      have HB2 := Lib.hid (bnext HB.out HBo.out)
      go_wp2
      go_ret2
      rw [HR.out, M.rowOf_ok (fun j hj => HJ.out j (by have := HN.out; omega))]
      have e : L.take k = L := List.take_of_length_le (by rw [HN.out]; exact Nat.le_refl _)
      have ho := HOo.out
      rw [e] at ho
      have hl : (L.map fun t => (M.readM t).1).length = k := by rw [List.length_map, HN.out]
      refine ⟨b, cp, ?_, ?_, HB2.out⟩
      · show Ending.returned _ = Ending.returned (.tuple #[.slice b (L.map fun t => (M.readM t).1).length cp, .bool true])
        rw [hl]; rfl
      · show Own _ _ (.slice b (L.map fun t => (M.readM t).1).length cp) _
        rw [hl]; exact ho.mono hz
end Go.Proofs.YtgkceafhagfkhaaDoor.V
