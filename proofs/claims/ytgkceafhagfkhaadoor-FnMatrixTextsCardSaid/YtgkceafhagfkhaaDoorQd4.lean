/- Texts laid together: Draw2, Dmg, Own. -/
import Derived.Test.YtgkceafhagfkhaaDoorRows
import Derived.Test.YtgkceafhagfkhaaDoorQd1
import Derived.Test.YtgkceafhagfkhaaDoorQd3
import Derived.WalkKit
import Derived.ProofKit
import Derived.WalkSmall
import Derived.Deep.QuietTactic
import Derived.BigQuiet
import Derived.BigRegion
import Derived.Deep.Draws
import Derived.Deep.OwnRows
import Derived.Lib.Hide
import Derived.Test.YtgkceafhagfkhaaDoorQd2
import Derived.Deep.RegionWith
import Derived.Maps.AppendAt
import Derived.Deep.Onto
set_option linter.unusedSimpArgs false
set_option linter.unusedVariables false
set_option linter.unusedSectionVars false
namespace Go.Proofs.YtgkceafhagfkhaaDoor.V
open Go.RowKit

theorem wf_small (n : Int) (a : -1000000000000000000 ≤ n) (b : n ≤ 1000000000000000000) : (Lit.int .i64 n).wf = true := by
  show (decide (IntKind.i64.min ≤ n) && decide (n ≤ IntKind.i64.max)) = true
  rw [Bool.and_eq_true]
  constructor <;> apply decide_eq_true
  · show (-9223372036854775808 : Int) ≤ n
    omega
  · show n ≤ (9223372036854775807 : Int)
    omega

/-- A slice of bytes that came in. -/
def Bytes (w : World) (a : Option Addr) (n : Nat) : Prop := CodeAt w w.heap.size a n

theorem IsRow.bytes {w : World} {a : Option Addr} {len cap : Nat} {zs : List Int} (h : IsRow .u8 w a len cap zs) : Bytes w a len := by
  rcases h with ⟨rfl, rfl, rfl, rfl⟩ | ⟨x, rfl, hl, hm, hz, hcell, hwf⟩
  · exact ⟨Nat.zero_le _, .inl rfl⟩
  · refine ⟨by omega, ?_⟩
    by_cases h0 : len = 0
    · exact .inl h0
    · obtain ⟨b, off, rfl, hc⟩ := ints_at hcell (by omega)
      refine .inr ⟨b, off, rfl, cell_lt (hc 0 (by omega)), fun i hi => ?_⟩
      have hx : zs.getD i 0 ∈ zs := by
        rw [List.getD_eq_getElem?_getD, List.getElem?_eq_getElem (by omega)]
        simp
      have := bounds_u8 (hwf _ hx)
      exact ⟨_, this.1, this.2, hc i (by omega)⟩

theorem Bytes.below {w w' : World} {a : Option Addr} {n : Nat} (h : Bytes w a n) (hb : Below w.heap.size w w') : Bytes w' a n := by
  have h2 := CodeAt.below h hb
  obtain ⟨h1, h3⟩ := h2
  refine ⟨h1, ?_⟩
  rcases h3 with h3 | ⟨b, off, rfl, hlt, hc⟩
  · exact .inl h3
  · exact .inr ⟨b, off, rfl, by have := hb.size; omega, hc⟩

set_option maxRecDepth 100000 in
set_option maxHeartbeats 1000000 in
theorem from_ (a : Option Addr) (n cap : Nat) (w : World) (h : Bytes w a n) :
    Calls Tryd.prog 20 #[.slice a n cap] w fun e w' => e = .returned (.pointer (some ⟨w.heap.size, 0, none⟩)) ∧ Src w' w.heap.size ∧ Below w.heap.size w w' := by
  have HB := Lib.hid h
  obtain ⟨hm, hcode⟩ := h
  unfold maxLen at hm
  go_enter Tryd.func20, Tryd.ntmps20
  go_wp2
  have hst : (w.alloc (.cells #[.slice a n cap, .int .i64 0, .int .i64 61403] 54)).rowIs w.heap.size 54 3 (srcF a n cap 0 61403) :=
    World.rowIs_alloc w _ _ _ (fun i hi => by
      match i, hi with
      | 0, _ => rfl
      | 1, _ => rfl
      | 2, _ => rfl)
  have HST := Lib.hid hst
  clear hst
  go_loopw [4] (fun i wr => ∃ k : Nat, ∃ s : Int, k ≤ n ∧ i = .int .i64 k ∧ 0 ≤ s ∧ s < 2147483647 ∧ wr.rowIs w.heap.size 54 3 (srcF a n cap 0 s) ∧ Below w.heap.size w wr) (fun i _ => n - (intOf i).toNat)
  case atStart => exact ⟨0, 61403, Nat.zero_le _, rfl, by omega, by omega, HST.out, b_alloc _ _⟩
  case round =>
    obtain ⟨k, s, hk, rfl, s1, s2, hrow, hb⟩ := hrel
    clear HST
    by_cases hlt : k < n ∧ k < 64
    · obtain ⟨hlt, h64⟩ := hlt
      rcases hcode with h0 | ⟨b, off, rfl, hbl, hc⟩
      · omega
      obtain ⟨x, x1, x2, hx⟩ := hc k hlt
      have hx' : wr.cell? ⟨b, off + k, none⟩ = some (.int .u8 x) := by rw [hb.cell (p := ⟨b, off + k, none⟩) hbl]; exact hx
      have c2 : wr.cell? ⟨w.heap.size, 2, none⟩ = some (.int .i64 s) := hrow.cell (i := 2) (by omega)
      have f2 := hrow.frozen 2
      have HR := Lib.hid hrow
      have HBW := Lib.hid hb
      clear hc hx hrow hb
      have r1 : 0 ≤ (s * 67 + x) % 2147483647 := Int.emod_nonneg _ (by omega)
      have r2 : (s * 67 + x) % 2147483647 < 2147483647 := Int.emod_lt_of_pos _ (by omega)
      have hki : (k : Int) < (n : Int) := by omega
      have hkj : (k : Int) < 64 := by omega
      go_wp2
      go_region
      go_wp2
      go_roundw
      case rel => exact ⟨k + 1, (s * 67 + x) % 2147483647, by omega, by go_num, r1, r2, rowIs_seed HR.out _, (HBW.out.setCell (Nat.le_refl _) _).drew⟩
      case measure => simp [intOf]; omega
    · have HR := Lib.hid hrow
      have HBW := Lib.hid hb
      clear hrow hb hcode
      by_cases hlt2 : k < n
      · have h64 : ¬ ((k : Int) < 64) := by omega
        have h64' : decide ((k : Int) < 64) = false := by simpa using h64
        clear hlt h64
        go_wp2
        go_ret
        exact ⟨rfl, ⟨a, n, cap, 0, s, HR.out, (CodeAt.below HB.out HBW.out), Nat.zero_le _, s1, s2⟩, HBW.out⟩
      · have hkn : k = n := by omega
        subst hkn
        clear hlt hlt2
        go_wp2
        go_ret
        exact ⟨rfl, ⟨a, k, cap, 0, s, HR.out, (CodeAt.below HB.out HBW.out), Nat.zero_le _, s1, s2⟩, HBW.out⟩

/-- What a picked number is: one of the list. -/
def PickPost (g : Nat) (w : World) (e : Ending) (w' : World) : Prop :=
  ∃ x : Int, e = .returned (.int .i64 x) ∧ (Lit.int .i64 x).wf = true ∧ Src w' g ∧ Thr g w w'

set_option maxRecDepth 100000 in
set_option maxHeartbeats 1000000 in
theorem pick (g b off n cap : Nat) (w : World) (h : Src w g) (hn : 0 < n) (hm : n ≤ 100) (hbg : g < b) (hc : ∀ i, i < n → ∃ x : Int, (Lit.int .i64 x).wf = true ∧ w.cell? ⟨b, off + i, none⟩ = some (.int .i64 x)) :
    Calls Tryd.prog 52 #[.pointer (some ⟨g, 0, none⟩), .slice (some ⟨b, off, none⟩) n cap] w (PickPost g w) := by
  have hbl : b < w.heap.size := by obtain ⟨x, _, hx⟩ := hc 0 hn; exact cell_lt hx
  have hwf : (Lit.int .i64 (n : Int)).wf = true := wf_small _ (by omega) (by omega)
  go_enter Tryd.func52, Tryd.ntmps52
  go_wp2_with fail
  refine (next _ _ _ hwf h).mono ?_
  rintro e w1 ⟨x, rfl, hx1, hx2, hs, ht⟩
  obtain ⟨k, rfl⟩ := Int.eq_ofNat_of_zero_le hx1
  have hk : k < n := by omega
  obtain ⟨y, hy, hcy⟩ := hc k hk
  have hcy' : w1.cell? ⟨b, off + k, none⟩ = some (.int .i64 y) := by rw [ht.cell (p := ⟨b, off + k, none⟩) hbl (by show b ≠ g; omega)]; exact hcy
  have hki : (k : Int) < (n : Int) := by omega
  have HT := Lib.hid ht
  have HS := Lib.hid hs
  clear hc hcy ht hs hx2
  go_wp2
  go_ret
  exact ⟨y, rfl, hy, HS.out, HT.out⟩

theorem litCells (w : World) (l : List Int) (vs : Array Value) (T : Nat) (hv : vs = (l.map (Value.int .i64)).toArray) (hw : l.all (fun x => (Lit.int .i64 x).wf) = true) :
    ∀ i, i < l.length → ∃ x : Int, (Lit.int .i64 x).wf = true ∧ (w.alloc (.cells vs T)).cell? ⟨w.heap.size, 0 + i, none⟩ = some (.int .i64 x) := by
  intro i hi
  refine ⟨l[i], ?_, ?_⟩
  · exact List.all_eq_true.1 hw _ (List.getElem_mem hi)
  · subst hv
    have e : (w.alloc (.cells (l.map (Value.int .i64)).toArray T)).heap[w.heap.size]? = some (.cells (l.map (Value.int .i64)).toArray T (0, 0)) := by
      show (w.heap.push _)[w.heap.size]? = _
      simp
    simp only [World.cell?, e]
    simp [hi]
theorem Thr.alloc {g : Nat} {a b : World} (h : Thr g a b) (hg : g ≤ b.heap.size) (o : Obj) : Thr g a (b.alloc o) :=
  ⟨h.below.alloc hg o, fun k h1 h2 => (Below.heap_alloc _ _ _ (by have := h.below.size; omega)).trans (h.other k h1 h2)⟩
theorem Src.alloc {w : World} {g : Nat} (h : Src w g) (o : Obj) : Src (w.alloc o) g := h.below ((Below.refl _ _).alloc (by have := h.lt; omega) _)

/-- What a drawn value is: an integer. -/
def ValPost (g : Nat) (w : World) (e : Ending) (w' : World) : Prop :=
  ∃ x : Int, e = .returned (.int .i64 x) ∧ (Lit.int .i64 x).wf = true ∧ Src w' g ∧ Thr g w w'

set_option maxRecDepth 100000 in
set_option maxHeartbeats 1000000 in
theorem drawValue (g : Nat) (w : World) (h : Src w g) :
    Calls Tryd.prog 53 #[.pointer (some ⟨g, 0, none⟩)] w (ValPost g w) := by
  go_enter Tryd.func53, Tryd.ntmps53
  go_wp2_with fail
  refine (next _ _ _ (by decide) h).mono ?_
  rintro e w1 ⟨x, rfl, hx1, hx2, hs, ht⟩
  have HT := Lib.hid ht
  have HS := Lib.hid hs
  clear ht hs hx2
  by_cases h0 : x = 0 ∨ x = 1 ∨ x = 2
  · rcases h0 with rfl | rfl | rfl
    all_goals
      go_wp2
      go_ret
      exact ⟨_, rfl, by decide, HS.out, HT.out⟩
  · have e0 : (x == 0) = false := by simp; omega
    have e1 : (x == 1) = false := by simp; omega
    have e2 : (x == 2) = false := by simp; omega
    clear h0
    by_cases h3 : x = 3
    · subst h3
      go_wp2_with fail
      refine (pick g _ 0 7 7 _ (HS.out.alloc _) (by omega) (by omega) HS.out.lt (litCells _ [1000000, 1000001, -1000000, -1000001, -999999999999999, -1000000000000001, 9223372036854775807] _ _ rfl (by decide))).mono ?_
      rintro e w2 ⟨y, rfl, hy, hs2, ht2⟩
      have HT2 := Lib.hid ((HT.out.alloc (Nat.le_of_lt HS.out.lt) _).trans ht2)
      have HS2 := Lib.hid hs2
      clear ht2 hs2
      go_wp2
      go_ret
      exact ⟨_, rfl, hy, HS2.out, HT2.out⟩
    · have e3 : (x == 3) = false := by simp; omega
      clear h3
      by_cases h4 : x = 4
      · subst h4
        go_wp2_with fail
        refine (next _ _ _ (by decide) HS.out).mono ?_
        rintro e w2 ⟨y, rfl, hy1, hy2, hs2, ht2⟩
        have hy3 : y < 2000 := by omega
        have HT2 := Lib.hid (HT.out.trans ht2)
        have HS2 := Lib.hid hs2
        clear ht2 hs2 hy2
        go_wp2
        go_ret
        exact ⟨_, rfl, wf_small _ (by omega) (by omega), HS2.out, HT2.out⟩
      · have e4 : (x == 4) = false := by simp; omega
        clear h4
        go_wp2_with fail
        refine (next _ _ _ (by decide) HS.out).mono ?_
        rintro e w2 ⟨y, rfl, hy1, hy2, hs2, ht2⟩
        have hy3 : y < 41 := by omega
        have HT2 := Lib.hid (HT.out.trans ht2)
        have HS2 := Lib.hid hs2
        clear ht2 hs2 hy2
        go_wp2
        go_ret
        exact ⟨_, rfl, wf_small _ (by omega) (by omega), HS2.out, HT2.out⟩
end Go.Proofs.YtgkceafhagfkhaaDoor.V

namespace Go.Proofs.YtgkceafhagfkhaaDoor.V
open Go.RowKit

/-- What a damaged text is. -/
def StrPost (m g : Nat) (w : World) (e : Ending) (w' : World) : Prop :=
  ∃ s : ByteArray, e = .returned (.string s) ∧ s.size ≤ m ∧ Src w' g ∧ Thr g w w'

theorem ex_size (t : ByteArray) (i j : Nat) : (t.extract i j).size ≤ min j t.size - i := by
  rw [ByteArray.size_extract]; omega
theorem cut_len (k : Nat) (t : ByteArray) : (t.extract 0 k).size ≤ t.size + 1 := by
  have := ex_size t 0 k
  omega
theorem cut2_len (k : Nat) (t : ByteArray) : (t.extract 0 k ++ t.extract (k + 1) t.size).size ≤ t.size + 1 := by
  have h1 := ex_size t 0 k
  have h2 := ex_size t (k + 1) t.size
  rw [ByteArray.size_append]
  omega
theorem cut3_len (k : Nat) (t x : ByteArray) (hx : x.size = 1) : (t.extract 0 k ++ x ++ t.extract k t.size).size ≤ t.size + 1 := by
  have h1 := ex_size t 0 k
  have h2 := ex_size t k t.size
  rw [ByteArray.size_append, ByteArray.size_append]
  omega
/-- The texts that may be put in. -/
def ins (c : Nat) : ByteArray := ⟨#[[48, 49, 32, 45, 46, 44, 10, 59].getD c 48]⟩
theorem ins_size (c : Nat) : (ins c).size = 1 := rfl
def insV : Array Value := #[.string ⟨#[48]⟩, .string ⟨#[49]⟩, .string ⟨#[32]⟩, .string ⟨#[45]⟩, .string ⟨#[46]⟩, .string ⟨#[44]⟩, .string ⟨#[10]⟩, .string ⟨#[59]⟩]
theorem ins_get (c : Nat) (hc : c < 8) : insV[c]? = some (.string (ins c)) := by
  match c, hc with
  | 0, _ => rfl
  | 1, _ => rfl
  | 2, _ => rfl
  | 3, _ => rfl
  | 4, _ => rfl
  | 5, _ => rfl
  | 6, _ => rfl
  | 7, _ => rfl
theorem ins_pick (c : Nat) (hc : c < 8) : [Value.string ⟨#[48]⟩, .string ⟨#[49]⟩, .string ⟨#[32]⟩, .string ⟨#[45]⟩, .string ⟨#[46]⟩, .string ⟨#[44]⟩, .string ⟨#[10]⟩, .string ⟨#[59]⟩][c] = .string (ins c) := by
  match c, hc with
  | 0, _ => rfl
  | 1, _ => rfl
  | 2, _ => rfl
  | 3, _ => rfl
  | 4, _ => rfl
  | 5, _ => rfl
  | 6, _ => rfl
  | 7, _ => rfl
theorem ins_cell (W : World) (T c : Nat) (hc : c < 8) : (W.alloc (.cells insV T)).cell? ⟨W.heap.size, c, none⟩ = some (.string (ins c)) := by
  have e : (W.alloc (.cells insV T)).heap[W.heap.size]? = some (.cells insV T (0, 0)) := by
    show (W.heap.push _)[W.heap.size]? = _
    simp
  simp only [World.cell?, e]
  simp [ins_get c hc]

theorem vtxt_len9 {t : ByteArray} {a : Int} (h : t = ⟨(vtxt a).toArray⟩) : t.size ≤ 900 := by
  subst h
  show (vtxt a).toArray.size ≤ 900
  rw [List.size_toArray, vtxt]
  split
  · rename_i hv
    obtain ⟨b1, b2⟩ := M.isVal_bound hv
    rw [txt]
    split
    · simp
    · rw [Go.Lib.itoa]
      have := M.dlen7 18
      split
      · have := this a.natAbs (by omega)
        simp
        omega
      · have := this a.toNat (by omega)
        omega
  · simp

set_option maxRecDepth 100000 in
set_option maxHeartbeats 1000000 in
set_option maxRecDepth 100000 in
theorem damage (g : Nat) (t : ByteArray) (w : World) (h : Src w g) (ht : t.size ≤ 100000) :
    Calls Tryd.prog 27 #[.pointer (some ⟨g, 0, none⟩), .string t] w (StrPost (t.size + 1) g w) := by
  have HW := Lib.hid h
  clear h
  go_enter Tryd.func27, Tryd.ntmps27
  go_wp2_with fail
  refine (next _ _ _ (wf_small _ (by omega) (by omega)) HW.out).mono ?_
  rintro e w1 ⟨k, rfl, hk1, hk2, hs, ht1⟩
  obtain ⟨k, rfl⟩ := Int.eq_ofNat_of_zero_le hk1
  have hk : k ≤ t.size := by omega
  have HT := Lib.hid ht1
  have HS := Lib.hid hs
  clear ht1 hs hk2
  go_wp2_with fail
  refine (next _ _ _ (by decide) HS.out).mono ?_
  rintro e w2 ⟨x, rfl, hx1, hx2, hs, ht2⟩
  have HT2 := Lib.hid (HT.out.trans ht2)
  have HS2 := Lib.hid hs
  clear ht2 hs hx2
  by_cases h0 : x = 0
  · subst h0
    go_wp2
    go_ret
    exact ⟨_, rfl, cut_len k t, HS2.out, HT2.out⟩
  · have e0 : (x == 0) = false := by simp; omega
    by_cases h1 : x = 1
    · subst h1
      go_wp2_with fail
      have l2 := HS2.out.lt
      go_region_with (first | (go_at_call 26; refine (next _ _ _ (by decide) (by first | exact HS2.out | exact HS2.out.alloc _)).mono ?_; rintro e w3 ⟨c, rfl, hc1, hc2, hs3, ht3⟩; obtain ⟨c, rfl⟩ := Int.eq_ofNat_of_zero_le hc1; have hc8 : c < 8 := (by omega); have hin : (ins c).size = 1 := rfl; have hpk := ins_pick c hc8; have hci : (c : Int) < 8 := (by omega); (try have hcell := (ht3.cell (p := ⟨_, c, none⟩) (by simp) (by show w2.heap.size ≠ g; omega)).trans (ins_cell _ _ c hc8)); (try have hcell := ins_cell w3 9 c hc8); have HT3 := Lib.hid ht3; have HS3 := Lib.hid hs3; clear hs3 ht3 hc2))
      all_goals
        go_wp2
        go_ret
      · exact ⟨_, rfl, cut3_len k t _ rfl, HS3.out, (HT2.out.drew.alloc (Nat.le_of_lt l2) _).trans HT3.out⟩
      · exact ⟨_, rfl, cut3_len k t _ rfl, HS3.out.alloc _, (HT2.out.drew.trans HT3.out).alloc (Nat.le_of_lt HS3.out.lt) _⟩
    · have e1 : (x == 1) = false := by simp; omega
      by_cases h2 : x = 2
      · subst h2
        by_cases hlt : k < t.size
        · have hki : (k : Int) < (t.size : Int) := by omega
          go_wp2_with fail
          go_region
          go_wp2
          go_ret
          exact ⟨_, rfl, cut2_len k t, HS2.out, HT2.out.drew⟩
        · have hki : ¬ (k : Int) < (t.size : Int) := by omega
          go_wp2_with fail
          go_ret
          exact ⟨_, rfl, by omega, HS2.out, HT2.out⟩
      · have e2 : (x == 2) = false := by simp; omega
        go_wp2_with fail
        go_ret
        exact ⟨_, rfl, by omega, HS2.out, HT2.out⟩

def DrawnV (w : World) (e : Ending) (w' : World) : Prop := ∃ x : Int, e = .returned (.int .i64 x) ∧ (Lit.int .i64 x).wf = true ∧ Below w.heap.size w w'
def DrawnS (w : World) (e : Ending) (w' : World) : Prop := ∃ s : ByteArray, e = .returned (.string s) ∧ s.size ≤ 200000 ∧ Below w.heap.size w w'


end Go.Proofs.YtgkceafhagfkhaaDoor.V

namespace Go.Proofs.YtgkceafhagfkhaaDoor.V
open Go.RowKit

theorem info64 : (Tryd.prog.info? 2).map (fun i => (i.zero, i.size, i.bytes)) = some (some (.int .i64 0), 1, 8) := by kernel_rfl
theorem infoS64 : (Tryd.prog.info? 39).map (fun i => (i.zero, i.size, i.bytes)) = some (some (.slice none 0 0), 1, 24) := by kernel_rfl

/-- A slice that the call owns, in blocks from B on, holding the integers l. -/
def Own (w : World) (B : Nat) (v : Value) (l : List Int) : Prop := w.ownsRow B 2 1 v l.length (l.map (Value.int .i64))

theorem own_lt {w : World} {B : Nat} {T : TypeId} {v : Value} {n : Nat} {xs : List Value} (h : w.ownsRow B T 1 v n xs) {k : Nat} (hk : v.ownBlock = some k) : B ≤ k ∧ k < w.heap.size := World.ownsRow.lt h k hk

theorem ownsRow_keep {w w' : World} {B : Nat} {T : TypeId} {v : Value} {n : Nat} {xs : List Value} (h : w.ownsRow B T 1 v n xs) (hk : ∀ k, v.ownBlock = some k → w'.heap[k]? = w.heap[k]?) : w'.ownsRow B T 1 v n xs := by
  obtain ⟨h1, h2⟩ := h
  refine ⟨h1, ?_⟩
  rcases h2 with h2 | ⟨g, cap, cur, hv, hg, hh, r⟩
  · exact .inl h2
  · exact .inr ⟨g, cap, cur, hv, hg, by rw [hk g (by subst hv; rfl)]; exact hh, r⟩
theorem Own.keep {w w' : World} {B : Nat} {v : Value} {l : List Int} (h : Own w B v l) (hk : ∀ k, B ≤ k → k < w.heap.size → w'.heap[k]? = w.heap[k]?) : Own w' B v l :=
  ownsRow_keep h fun k hv => hk k (own_lt h hv).1 (own_lt h hv).2
theorem Own.below {w w' : World} {B : Nat} {v : Value} {l : List Int} (h : Own w B v l) (hb : Below w.heap.size w w') : Own w' B v l :=
  h.keep (fun k _ h2 => hb.block k h2)
theorem Own.mono {w : World} {B B' : Nat} {v : Value} {l : List Int} (h : Own w B v l) (hb : B' ≤ B) : Own w B' v l := World.ownsRow.mono h hb

/-- The form of an owned slice. -/
theorem own_form {w : World} {B : Nat} {T : TypeId} {v : Value} {n : Nat} {xs : List Value} (h : w.ownsRow B T 1 v n xs) : ∃ a cap, v = .slice a n cap ∧ n ≤ cap ∧ cap ≤ maxLen ∧ (0 < n → ∃ g, a = some ⟨g, 0, none⟩ ∧ B ≤ g ∧ g < w.heap.size) := by
  have h' := h
  obtain ⟨h1, h2⟩ := h
  rcases h2 with ⟨hv, h0⟩ | ⟨g, cap, cur, hv, hg, hh, hn, hc, r⟩
  · subst h0; exact ⟨none, 0, hv, Nat.le_refl _, Nat.zero_le _, fun h => by omega⟩
  · subst hv
    exact ⟨_, cap, rfl, hn, hc, fun _ => ⟨g, rfl, hg, (own_lt h' rfl).2⟩⟩

/-- What an owned slice is: a slice of the integers l. -/
theorem Own.ints {w : World} {B : Nat} {v : Value} {l : List Int} (h : Own w B v l) : ∃ a cap, v = .slice a l.length cap ∧ Ints .i64 w a l.length l := by
  have h' := h
  obtain ⟨h1, h2⟩ := h
  rcases h2 with ⟨hv, h0⟩ | ⟨g, cap, cur, hv, hg, hh, hn, hc, r⟩
  · refine ⟨none, 0, by rw [h0]; exact hv, rfl, by omega, .inl h0⟩
  · subst hv
    refine ⟨some ⟨g, 0, none⟩, cap, rfl, rfl, by omega, ?_⟩
    by_cases h0 : l.length = 0
    · exact .inl h0
    · refine .inr ⟨g, 0, rfl, (own_lt h' rfl).2, fun i hi => ?_⟩
      have := World.ownsRow.cellAt h' i (by omega)
      rw [Nat.zero_add, this]
      simp [hi]

theorem Own.ints' {w : World} {B : Nat} {a : Option Addr} {n cap : Nat} {l : List Int} (h : Own w B (.slice a n cap) l) : Ints .i64 w a n l := by
  obtain ⟨a', c', hv, hI⟩ := h.ints
  injection hv with e1 e2 e3
  subst e1 e2
  exact hI

theorem own_lit0 (w : World) (B : Nat) (hB : B ≤ w.heap.size) : Own (w.alloc (.cells #[] 2)) B (.slice (some ⟨w.heap.size, 0, none⟩) 0 0) [] :=
  World.ownsRow_lit w #[] 0 hB (by decide) rfl

theorem own_made (w : World) (B n : Nat) (hB : B ≤ w.heap.size) (hn : n ≤ maxLen) : Own (w.alloc (.cells (madeCells #[.int .i64 0] n) 2)) B (.slice (some ⟨w.heap.size, 0, none⟩) n n) ((List.range n).map fun _ => 0) := by
  have h := World.rowIs_made w (.int .i64 0) n 2
  obtain ⟨c, hb, hs, hc⟩ := h
  refine ⟨by simp, .inr ⟨w.heap.size, n, c, by simp, hB, hb, by simp, hn, by simp [hs], ?_⟩⟩
  apply List.ext_getElem
  · simp [hs]
  · intro i h1 h2
    simp only [List.length_map, List.length_range] at h2
    have := hc i h2
    simp [List.getElem_take]
    rw [Array.getElem?_eq_getElem (by omega)] at this
    exact Option.some.inj this

theorem Own.len {w : World} {B n cap : Nat} {a : Option Addr} {l : List Int} (h : Own w B (.slice a n cap) l) : n = l.length := by
  obtain ⟨a', c, hv, _⟩ := own_form h
  injection hv
theorem Own.frozenAt {w : World} {B g n cap : Nat} {l : List Int} (h : Own w B (.slice (some ⟨g, 0, none⟩) n cap) l) (j : Nat) : w.frozen? ⟨g, j, none⟩ = false := by
  have e := h.len
  subst e
  exact World.ownsRow.frozenAt h j
theorem Own.cellAt {w : World} {B g n cap : Nat} {l : List Int} (h : Own w B (.slice (some ⟨g, 0, none⟩) n cap) l) (j : Nat) (hj : j < n) : w.cell? ⟨g, j, none⟩ = some (.int .i64 (l.getD j 0)) := by
  have e := h.len
  subst e
  rw [World.ownsRow.cellAt h j (by omega)]
  simp [hj]

/-- A store into an owned slice. -/
theorem Own.set {w : World} {B g n cap : Nat} {l : List Int} (h : Own w B (.slice (some ⟨g, 0, none⟩) n cap) l) (i : Nat) (x : Int) : Own (w.setCell ⟨g, i, none⟩ (.int .i64 x)) B (.slice (some ⟨g, 0, none⟩) n cap) (l.set i x) := by
  have hn : n = l.length := by
    obtain ⟨a, c, hv, _⟩ := own_form h
    injection hv
  subst hn
  have := (World.ownsRow.stored h i (.int .i64 x)).1
  unfold Own
  simpa [List.map_set] using this
end Go.Proofs.YtgkceafhagfkhaaDoor.V
