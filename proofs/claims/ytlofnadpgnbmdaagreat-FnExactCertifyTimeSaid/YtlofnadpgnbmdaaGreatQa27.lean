/- Texts laid together: Lve. -/
import Derived.Test.YtlofnadpgnbmdaaGreatQa26
import Derived.Test.YtlofnadpgnbmdaaGreatQa19
import Derived.Test.YtlofnadpgnbmdaaGreatQa18
import Derived.Test.YtlofnadpgnbmdaaGreatQa12
import Derived.Test.YtlofnadpgnbmdaaGreatQa15
import Derived.Test.YtlofnadpgnbmdaaGreatQa7
set_option linter.unusedSimpArgs false
set_option linter.unusedVariables false
set_option linter.unusedSectionVars false
namespace Go.Proofs.YtlofnadpgnbmdaaGreat
namespace M
def deadRes (x : Int) (l : List Pc) : List Int × Int := if isGr x l then (if (deadQ l x.toNat).length = 0 then ([], 4) else (deadQ l x.toNat, 0)) else ([], 1)
theorem deadRes_len (x : Int) (l : List Pc) : (deadRes x l).1.length ≤ 30 := by
  unfold deadRes
  split
  · next h =>
    have hx : x.toNat ≤ 10 := by
      unfold isGr inB at h
      simp only [Bool.and_eq_true, decide_eq_true_eq] at h
      omega
    split
    · simp
    · have := dead_len (l := l) hx
      show (deadQ l x.toNat).length ≤ 30
      omega
  · simp
def strRes (x : Int) (l : List Pc) : Bool × Int := if isGr x l then (strB l x.toNat, 0) else (false, 1)
def tdN (d : Int) : Int × Int := if d = -1000000000000000 then (0, 4) else (-d, 0)
def tokRes (x : Int) (l : List Pc) (f t : Int) : Int × Int := if isGr x l then (if inB f 0 (x - 1) && inB t 0 (x - 1) then tdN (tdF l x.toNat t.toNat f.toNat) else (0, 2)) else (0, 1)
def tdP (d k : Int) : Int × Int := if d = -1000000000000000 then (0, 4) else (k + -d, 0)
def bndRes (x : Int) (l : List Pc) (i : Int) : Int × Int := if isGr x l then (if inB i 0 ((l.length : Int) - 1) then tdP (tdF l x.toNat (l.getD i.toNat pz).1.toNat (l.getD i.toNat pz).2.1.toNat) (l.getD i.toNat pz).2.2.2 else (0, 2)) else (0, 1)
theorem gr_tok {x : Int} {l : List Pc} (h : isGr x l = true) : ∀ p ∈ l, 0 ≤ p.2.2.2 ∧ p.2.2.2 ≤ 5 := fun p hp => by
  unfold isGr at h
  simp only [Bool.and_eq_true, List.all_eq_true] at h
  have := h.2.2 p hp
  unfold plW inB at this
  simp only [Bool.and_eq_true, decide_eq_true_eq] at this
  omega
end M
namespace V
set_option maxRecDepth 100000
open Go.RowKit
def PPost (r : Int × Int) (w : World) (e : Ending) (w' : World) : Prop := e = .returned (.tuple #[.int .i64 r.1, .int .i64 r.2]) ∧ Below w.heap.size w w'
theorem PPost.mk' {r : Int × Int} {b c : Int} {w w' : World} (hr : r = (b, c)) (hb : Below w.heap.size w w') : PPost r w (.returned (.tuple #[.int .i64 b, .int .i64 c])) w' := by subst hr; exact ⟨rfl, hb⟩
/-- A valid graph has a number of events. -/
theorem gr_nat {x : Int} {l : List M.Pc} (h : M.isGr x l = true) : ∃ N : Nat, x = (N : Int) ∧ 1 ≤ N ∧ N ≤ 10 := by
  have hx : 1 ≤ x ∧ x ≤ 10 := by
    unfold M.isGr M.inB at h
    simp only [Bool.and_eq_true, decide_eq_true_eq] at h
    exact h.1
  exact ⟨x.toNat, by omega, by omega, by omega⟩
set_option maxRecDepth 100000 in
set_option maxHeartbeats 1000000 in
theorem tokenless (N : Nat) (a : Option Addr) (n cap : Nat) (l : List M.Pc) (w : World) (h : Pls w a n l) (hg : M.isGr (N : Int) l = true) :
    Calls Tryz.prog 160 #[.agg #[.int .i64 N, .slice a n cap]] w (MPost N (M.wtM M.fOne N l) w) := by
  have hb0 := b_alloc w (.cells #[.int .i64 N, .slice a n cap] 26)
  have HC := Lib.hid (weightedOne N a n cap l _ (h.below hb0) hg)
  have hGb := gBox_new w N a n cap 26
  obtain ⟨wb, hwb⟩ : ∃ z, z = w.alloc (.cells #[.int .i64 N, .slice a n cap] 26) := ⟨_, rfl⟩
  rw [← hwb] at hb0 hGb HC
  obtain ⟨g0, g1⟩ := hGb
  have HB0 := Lib.hid hb0
  clear h hg hb0
  go_enter Tryz.func160, Tryz.ntmps160
  go_wp2_with fail
  rw [← hwb]
  clear hwb
  refine HC.out.mono ?_
  rintro e w1 ⟨b, c, rfl, ho, hb⟩
  have HO := Lib.hid (ho.mono HB0.out.size)
  have HB := Lib.hid (HB0.out.trans (hb.mono HB0.out.size))
  clear ho hb g0 g1
  go_wp2
  go_ret
  exact ⟨_, _, rfl, HO.out, HB.out⟩
end V
end Go.Proofs.YtlofnadpgnbmdaaGreat
