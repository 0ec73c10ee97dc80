/- Texts laid together: Dr4. -/
import Derived.Test.YtlljnfljcdljaabGreatQz37
import Derived.Test.YtlljnfljcdljaabGreatQz47
set_option linter.unusedSimpArgs false
set_option linter.unusedVariables false
set_option linter.unusedSectionVars false
namespace Go.Proofs.YtlljnfljcdljaabGreat.V
set_option maxRecDepth 100000
open Go.RowKit
theorem ownM_two (w : World) (B : Nat) (hB : B ≤ w.heap.size) {v1 v2 : Value} {l1 l2 : List Int} (h1 : Own w B v1 l1) (h2 : Own w B v2 l2) (hne : ∀ k, v1.ownBlock = some k → v2.ownBlock ≠ some k) :
    OwnM (w.alloc (.cells #[v1, v2] 32)) B (.slice (some ⟨w.heap.size, 0, none⟩) 2 2) [l1, l2] := by
  have lt1 : ∀ k, v1.ownBlock = some k → k < w.heap.size := fun k hk => (own_lt h1 hk).2
  have lt2 : ∀ k, v2.ownBlock = some k → k < w.heap.size := fun k hk => (own_lt h2 hk).2
  refine ⟨[v1, v2], rfl, World.ownsRow_lit w #[v1, v2] 2 hB (by decide) rfl, fun i hi => ?_, fun i hi k hk => ?_, fun i j hi hj hij k hk => ?_⟩
  · have : i = 0 ∨ i = 1 := by simp at hi; omega
    rcases this with rfl | rfl
    · exact h1.below (b_alloc w _)
    · exact h2.below (b_alloc w _)
  · have hk2 : k < w.heap.size := by
      have : i = 0 ∨ i = 1 := by simp at hi; omega
      rcases this with rfl | rfl
      · exact lt1 k hk
      · exact lt2 k hk
    intro e
    simp only [Value.ownBlock, Option.some.injEq] at e
    omega
  · have hi' : i = 0 ∨ i = 1 := by simp at hi; omega
    have hj' : j = 0 ∨ j = 1 := by simp at hj; omega
    rcases hi' with rfl | rfl <;> rcases hj' with rfl | rfl
    · omega
    · exact hne k hk
    · intro e; exact hne k e hk
    · omega
theorem ownLit2D (w : World) (B : Nat) (hB : B ≤ w.heap.size) (x y : Int) : Own (w.alloc (.cells #[.int .i64 x, .int .i64 y] 2)) B (.slice (some ⟨w.heap.size, 0, none⟩) 2 2) [x, y] := World.ownsRow_lit w #[.int .i64 x, .int .i64 y] 2 hB (by decide) rfl
set_option maxRecDepth 100000 in
set_option maxHeartbeats 2000000 in
theorem draw4 (g : Nat) (w : World) (h : Src w g) : Calls Tryz.prog 64 #[.pointer (some ⟨g, 0, none⟩)] w (DrawMB g w) := by
  have HS := Lib.hid h
  have hgl := h.lt
  clear h
  go_enter Tryz.func64, Tryz.ntmps64
  go_wp2_with fail
  refine (drawSquareB g _ HS.out).mono ?_
  rintro e w2 ⟨a2, n2, c2, R, rfl, hn2, ho, hs2, ht2⟩
  have HO2 := Lib.hid ho
  have HS2 := Lib.hid hs2
  have HT2 := Lib.hid ht2
  clear ho hs2 ht2
  go_wp2_with fail
  refine (next g 30 _ (by decide) HS2.out).mono ?_
  rintro e w3 ⟨x, rfl, -, -, hs3, ht3⟩
  have HO3 := Lib.hid (HO2.out.thr ht3 hgl)
  have HS3 := Lib.hid hs3
  have HT3 := Lib.hid (HT2.out.trans ht3)
  clear hs3 ht3 HO2 HS2 HT2
  by_cases hx0 : x = 0
  · subst hx0
    have hg3 := HS3.out.lt
    go_wp2_with fail
    refine (pick g _ 0 2 2 _ (HS3.out.alloc _) (by omega) (by omega) hg3 (litCells _ [1000000, 999983] _ _ rfl (by decide))).mono ?_
    rintro e w4 ⟨p1, rfl, -, hs4, ht4⟩
    have HS4 := Lib.hid hs4
    have HT4 := Lib.hid ((HT3.out.alloc (by omega) _).trans ht4)
    have hg4 := hs4.lt
    clear hs4 ht4
    have hg0 : g < w.heap.size := hgl
    have hz4 : w.heap.size ≤ w4.heap.size := HT4.out.below.size
    obtain ⟨wr, hwr⟩ : ∃ x, x = w4.alloc (.cells #[.int .i64 (-1000000000000000), .int .i64 p1] 2) := ⟨_, rfl⟩
    have HR1 : Hid (Own wr w.heap.size (.slice (some ⟨w4.heap.size, 0, none⟩) 2 2) [-1000000000000000, p1]) := by show Own _ _ _ _; rw [hwr]; exact ownLit2D _ _ hz4 _ _
    have HSr : Hid (Src wr g) := by show Src _ _; rw [hwr]; exact HS4.out.alloc _
    have HTr : Hid (Thr g w wr) := by show Thr _ _ _; rw [hwr]; exact HT4.out.alloc (by omega) _
    have hzr : wr.heap.size = w4.heap.size + 1 := by rw [hwr]; simp
    have hlit := litCells wr [1000000, -7] #[.int .i64 1000000, .int .i64 (-7)] 2 rfl (by decide)
    rw [hzr] at hlit
    have HLit := Lib.hid hlit
    have HZr := Lib.hid hzr
    clear hlit hzr
    go_wp2_with fail
    simp only [← hwr]
    clear hwr
    refine (pick g (w4.heap.size + 1) 0 2 2 _ (HSr.out.alloc _) (by omega) (by omega) (by omega) HLit.out).mono ?_
    rintro e w5 ⟨p2, rfl, -, hs5, ht5⟩
    have hzr := HZr.out
    have HS5 := Lib.hid hs5
    have ht5' : Thr g wr w5 := ((Thr.refl g wr).alloc (by omega) _).trans ht5
    have HT5 := Lib.hid (HTr.out.trans ht5')
    have HR5 := Lib.hid (HR1.out.thr ht5' hgl)
    have hz5 : w4.heap.size < w5.heap.size := by have := ht5'.below; have h2 := ht5.below.size; simp at h2; omega
    clear hs5 ht5 ht5' HR1 hzr
    have hz5b : w.heap.size ≤ w5.heap.size := by omega
    have hO := ownM_two (w5.alloc (.cells #[.int .i64 p2, .int .i64 (-1000000000000000)] 2)) w.heap.size (by simp; omega) (HR5.out.below (b_alloc _ _)) (ownLit2D w5 w.heap.size hz5b p2 (-1000000000000000)) (fun k hk e => by
      simp only [Value.ownBlock, Option.some.injEq] at hk e
      omega)
    have hzz : (w5.alloc (.cells #[.int .i64 p2, .int .i64 (-1000000000000000)] 2)).heap.size = w5.heap.size + 1 := by simp
    rw [hzz] at hO
    have HO := Lib.hid hO
    have HSf := Lib.hid ((HS5.out.alloc (.cells #[.int .i64 p2, .int .i64 (-1000000000000000)] 2)).alloc (.cells #[.slice (some ⟨w4.heap.size, 0, none⟩) 2 2, .slice (some ⟨w5.heap.size, 0, none⟩) 2 2] 32))
    have HTf := Lib.hid ((HT5.out.alloc (by omega) (.cells #[.int .i64 p2, .int .i64 (-1000000000000000)] 2)).alloc (by simp; omega) (.cells #[.slice (some ⟨w4.heap.size, 0, none⟩) 2 2, .slice (some ⟨w5.heap.size, 0, none⟩) 2 2] 32))
    clear hO hzz HR5
    go_wp2
    go_ret
    exact ⟨_, _, _, _, rfl, by omega, HO.out, HSf.out, HTf.out⟩
  · have ex : (x == 0) = false := by simpa using hx0
    go_wp2
    go_ret
    exact ⟨_, _, _, R, rfl, hn2, HO3.out, HS3.out, HT3.out⟩
/-- A drawn matrix, of few rows, and a drawn number. -/
def DrawNB (g : Nat) (w : World) (e : Ending) (w' : World) : Prop :=
  ∃ (a : Option Addr) (n cap : Nat) (R : List (List Int)) (x : Int), e = .returned (.tuple #[.slice a n cap, .int .i64 x]) ∧ n ≤ 200 ∧ OwnM w' w.heap.size (.slice a n cap) R ∧ Src w' g ∧ Thr g w w'
end Go.Proofs.YtlljnfljcdljaabGreat.V
