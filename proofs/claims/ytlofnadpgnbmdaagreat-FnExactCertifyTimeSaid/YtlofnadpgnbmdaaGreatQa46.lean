/- Texts laid together: Cjf. -/
import Derived.Test.YtlofnadpgnbmdaaGreatQa42
import Derived.Test.YtlofnadpgnbmdaaGreatQa43
import Derived.Test.YtlofnadpgnbmdaaGreatQa45
import Derived.Test.YtlofnadpgnbmdaaGreatQa10
import Derived.Deep.RegionHeld3
set_option linter.unusedSimpArgs false
set_option linter.unusedVariables false
set_option linter.unusedSectionVars false
namespace Go.Proofs.YtlofnadpgnbmdaaGreat
namespace M
def isCirB (x : Int) (l : List Pc) (c : List Int) : Bool := isGr x l && cirB l c
def cratRes (x : Int) (l : List Pc) (c : List Int) : (Int × Int) × Int :=
  if isGr x l then (if cirB l c then (if tkS l c = 0 then ((0, 0), 5) else (cirQ l c, 0)) else ((0, 0), 4)) else ((0, 0), 1)
end M
namespace V
set_option maxRecDepth 100000
open Go.RowKit
/-- The box of a ratio that is written. -/
def RR (w : World) (g : Nat) (p : Int × Int) : Prop := w.rowIs g 37 2 fun j => .int .i64 (if j = 0 then p.1 else p.2)
theorem RR.c {w : World} {g : Nat} {p : Int × Int} (h : RR w g p) : w.cell? ⟨g, 0, none⟩ = some (.int .i64 p.1) ∧ w.cell? ⟨g, 1, none⟩ = some (.int .i64 p.2) := ⟨World.rowIs.cell h (i := 0) (by omega), World.rowIs.cell h (i := 1) (by omega)⟩
theorem RR.frozen {w : World} {g : Nat} {p : Int × Int} (h : RR w g p) (j : Nat) : w.frozen? ⟨g, j, none⟩ = false := World.rowIs.frozen h j
theorem RR.lt {w : World} {g : Nat} {p : Int × Int} (h : RR w g p) : g < w.heap.size := World.rowIs.lt h
theorem RR.eq {w w' : World} {g : Nat} {p : Int × Int} (h : RR w g p) (e : w'.heap[g]? = w.heap[g]?) : RR w' g p := World.rowIs.of_block h e
theorem RR.below {w w' : World} {g : Nat} {p : Int × Int} (h : RR w g p) (hb : Below w.heap.size w w') : RR w' g p := h.eq (hb.block g h.lt)
theorem RR.new (w : World) (p0 p1 : Int) : RR (w.alloc (.cells #[.int .i64 p0, .int .i64 p1] 37)) w.heap.size (p0, p1) :=
  World.rowIs_alloc w _ _ _ (fun i hi => by
    have : i = 0 ∨ i = 1 := by simp at hi; omega
    rcases this with rfl | rfl <;> rfl)
theorem RR.put {w : World} {g : Nat} {p : Int × Int} (h : RR w g p) (q0 q1 : Int) : RR ((w.setCell ⟨g, 0, none⟩ (.int .i64 q0)).setCell ⟨g, 1, none⟩ (.int .i64 q1)) g (q0, q1) :=
  (World.rowIs.set (World.rowIs.set h 0 _) 1 _).congr fun i hi => by
    have : i = 0 ∨ i = 1 := by omega
    rcases this with rfl | rfl <;> rfl
/-- What a call keeps: the box of the graph, and a box for the answer. -/
def KR (w0 w : World) (g x0 r : Nat) (x : Int) (a : Option Addr) (n cap : Nat) : Prop := GBox w g x a n cap ∧ (∃ p, RR w r p) ∧ Below x0 w0 w
theorem KR.step {w0 w w' : World} {g x0 r : Nat} {x : Int} {a : Option Addr} {n cap : Nat} (h : KR w0 w g x0 r x a n cap) (hb : Below w.heap.size w w') (hx : x0 ≤ w0.heap.size) : KR w0 w' g x0 r x a n cap :=
  ⟨h.1.below hb, ⟨_, h.2.1.choose_spec.below hb⟩, h.2.2.trans (hb.mono (Nat.le_trans hx h.2.2.size))⟩
theorem KR.put {w0 w : World} {g x0 r : Nat} {x : Int} {a : Option Addr} {n cap : Nat} (h : KR w0 w g x0 r x a n cap) (hg : g ≠ r) (hx : x0 ≤ r) (q0 q1 : Int) : KR w0 ((w.setCell ⟨r, 0, none⟩ (.int .i64 q0)).setCell ⟨r, 1, none⟩ (.int .i64 q1)) g x0 r x a n cap := by
  obtain ⟨h1, ⟨p, h2⟩, h3⟩ := h
  have e : ((w.setCell ⟨r, 0, none⟩ (.int .i64 q0)).setCell ⟨r, 1, none⟩ (.int .i64 q1)).heap[g]? = w.heap[g]? := by rw [Below.heap_setCell _ _ _ _ hg, Below.heap_setCell _ _ _ _ hg]
  exact ⟨h1.eq e, ⟨_, h2.put q0 q1⟩, (h3.setCell (p := ⟨r, 0, none⟩) hx _).setCell (p := ⟨r, 1, none⟩) hx _⟩
theorem keepK {w0 w w' : World} {g x0 r : Nat} {x : Int} {a : Option Addr} {n cap : Nat} {P Q : Prop} (h : P ∧ Q ∧ KR w0 w g x0 r x a n cap) (hx : x0 ≤ w0.heap.size) (hb : Below w.heap.size w w') : w'.cell? ⟨g, 0, none⟩ = some (.int .i64 x) ∧ w'.cell? ⟨g, 1, none⟩ = some (.slice a n cap) ∧ KR w0 w' g x0 r x a n cap :=
  ⟨(h.2.2.step hb hx).1.1, (h.2.2.step hb hx).1.2, h.2.2.step hb hx⟩
theorem keepKp {w0 w : World} {g x0 r : Nat} {x : Int} {a : Option Addr} {n cap : Nat} {P Q : Prop} (h : P ∧ Q ∧ KR w0 w g x0 r x a n cap) (hg : g ≠ r) (hx : x0 ≤ r) (q0 q1 : Int) : ((w.setCell ⟨r, 0, none⟩ (.int .i64 q0)).setCell ⟨r, 1, none⟩ (.int .i64 q1)).cell? ⟨g, 0, none⟩ = some (.int .i64 x) ∧ ((w.setCell ⟨r, 0, none⟩ (.int .i64 q0)).setCell ⟨r, 1, none⟩ (.int .i64 q1)).cell? ⟨g, 1, none⟩ = some (.slice a n cap) ∧ KR w0 ((w.setCell ⟨r, 0, none⟩ (.int .i64 q0)).setCell ⟨r, 1, none⟩ (.int .i64 q1)) g x0 r x a n cap :=
  ⟨(h.2.2.put hg hx q0 q1).1.1, (h.2.2.put hg hx q0 q1).1.2, h.2.2.put hg hx q0 q1⟩
set_option maxRecDepth 100000 in
set_option maxHeartbeats 2000000 in
theorem cirratio (N : Nat) (a : Option Addr) (n cap : Nat) (l : List M.Pc) (ca : Option Addr) (m cc : Nat) (c : List Int) (w : World) (h : Pls w a n l) (hg : M.isGr (N : Int) l = true) (hI : Ints .i64 w ca m c) (hc : M.cirB l c = true) (ht : M.tkS l c ≠ 0) :
    Calls Tryz.prog 65 #[.slice ca m cc, .agg #[.int .i64 N, .slice a n cap]] w fun e w' => e = .returned (.agg #[.int .i64 (M.cirQ l c).1, .int .i64 (M.cirQ l c).2]) ∧ Below w.heap.size w w' := by
  obtain ⟨he, N1, N2, l30⟩ := M.gr_ev hg
  obtain ⟨d0, d1, t0, t1⟩ := M.sums_bd he N2 hc
  have hlen := M.cir_len he hc
  have hM : c.length = m := hI.1
  have hm : m ≤ 1048576 := by omega
  have hnd : M.nodesB n c = true := by rw [← h.1]; exact (M.cir_t hc).2.1
  have hw0 := (b_alloc w (.cells #[.int .i64 N, .slice a n cap] 26))
  have hK0 : KR w ((w.alloc (.cells #[.int .i64 N, .slice a n cap] 26)).alloc (.cells #[.int .i64 0, .int .i64 0] 37)).drew w.heap.size w.heap.size (w.heap.size + 1) N a n cap := by
    have := RR.new (w.alloc (.cells #[.int .i64 N, .slice a n cap] 26)) 0 0
    rw [World.size_alloc] at this
    exact ⟨((gBox_new w N a n cap 26).below (b_alloc _ _)).eq rfl, ⟨_, this.eq rfl⟩, (b_alloc2 w _ _).drew⟩
  have HK0 := Lib.hid hK0
  have HCd : Hid (∀ W, Below w.heap.size w W → Calls Tryz.prog 114 #[.slice ca m cc, .agg #[.int .i64 N, .slice a n cap]] W fun e w' => e = .returned (.int .i64 (M.dlS l c)) ∧ Below W.heap.size W w') := fun W hW => cirdelay N a n cap l N ca m cc c W (h.below hW) he (hI.below hW) hnd hm
  have HCt : Hid (∀ W, Below w.heap.size w W → Calls Tryz.prog 89 #[.slice ca m cc, .agg #[.int .i64 N, .slice a n cap]] W fun e w' => e = .returned (.int .i64 (M.tkS l c)) ∧ Below W.heap.size W w') := fun W hW => cirtokens N a n cap l N ca m cc c W (h.below hW) he (hI.below hW) hnd hm
  show Calls _ _ _ _ fun e w' => e = .returned (.agg #[.int .i64 (M.ratN (M.dlS l c) (M.tkS l c)), .int .i64 (M.ratD (M.dlS l c) (M.tkS l c))]) ∧ Below w.heap.size w w'
  obtain ⟨D, hD⟩ : ∃ D, D = M.dlS l c := ⟨_, rfl⟩
  obtain ⟨T, hT⟩ : ∃ T, T = M.tkS l c := ⟨_, rfl⟩
  rw [← hD] at d0 d1 HCd ⊢
  rw [← hT] at t0 t1 ht HCt ⊢
  clear h hI hg hc hD hT hK0 hw0 hlen hM hnd he
  obtain ⟨⟨g0, g1⟩, -, -⟩ := HK0.out
  go_enter Tryz.func65, Tryz.ntmps65
  go_wp2
  go_region_held3 (fun w' => w'.cell? ⟨w.heap.size, 0, none⟩ = some (.int .i64 N) ∧ w'.cell? ⟨w.heap.size, 1, none⟩ = some (.slice a n cap) ∧ KR w w' w.heap.size w.heap.size (w.heap.size + 1) N a n cap)
    (first
      | exact ⟨g0, g1, HK0.out⟩
      | exact keepK ‹_ ∧ _ ∧ KR _ _ _ _ _ _ _ _ _› (Nat.le_refl _) hb1
      | exact keepK ‹_ ∧ _ ∧ KR _ _ _ _ _ _ _ _ _› (Nat.le_refl _) hb2
      | exact keepK ‹_ ∧ _ ∧ KR _ _ _ _ _ _ _ _ _› (Nat.le_refl _) hb3
      | exact keepKp (keepK ‹_ ∧ _ ∧ KR _ _ _ _ _ _ _ _ _› (Nat.le_refl _) hb3) (by omega) (by omega) _ _
      | exact keepKp ‹_ ∧ _ ∧ KR _ _ _ _ _ _ _ _ _› (by omega) (by omega) _ _)
    (first
      | (go_at_call 114; refine (HCd.out _ (‹_ ∧ _ ∧ KR _ _ _ _ _ _ _ _ _›).2.2.2.2).mono ?_; rintro e w1 ⟨rfl, hb1⟩)
      | (go_at_call 89; refine (HCt.out _ (‹_ ∧ _ ∧ KR _ _ _ _ _ _ _ _ _›).2.2.2.2).mono ?_; rintro e w2 ⟨rfl, hb2⟩)
      | (go_at_call 113; refine (reduced _ _ _ (by omega) (by omega) (by omega) (by omega) (by omega)).mono ?_; rintro e w3 ⟨rfl, hb3⟩; obtain ⟨-, -, -, ⟨⟨p0, p1⟩, hR⟩, hBl⟩ := keepK ‹_ ∧ _ ∧ KR _ _ _ _ _ _ _ _ _› (Nat.le_refl _) hb3; obtain ⟨e0, e1⟩ := hR.c; have f0 := hR.frozen 0; have f1 := hR.frozen 1; have z0 := hR.lt))
  all_goals
    go_wp2
    exact bodyPost_ret (v := .agg #[.int .i64 (M.ratN D T), .int .i64 (M.ratD D T)]) (by simp [results, Tryz.results65, go_sem, e0, e1, z0]) rfl ⟨rfl, (hBl.setCell (p := ⟨w.heap.size + 1, 0, none⟩) (by show w.heap.size ≤ w.heap.size + 1; omega) _).setCell (p := ⟨w.heap.size + 1, 1, none⟩) (by show w.heap.size ≤ w.heap.size + 1; omega) _⟩
end V
end Go.Proofs.YtlofnadpgnbmdaaGreat
