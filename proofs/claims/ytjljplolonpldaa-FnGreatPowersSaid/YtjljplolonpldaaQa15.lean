/- Texts laid together: Hv3, Vals, Vals2, Spe, Ent, Ors. -/
import Derived.Test.YtjljplolonpldaaRows
import Derived.Test.YtjljplolonpldaaQa1
import Derived.Test.YtjljplolonpldaaQa9
import Derived.Test.YtjljplolonpldaaQa2
import Derived.Test.YtjljplolonpldaaQa3
import Derived.Test.YtjljplolonpldaaQa14
import Derived.WalkKit
import Derived.ProofKit
import Derived.WalkSmall
import Derived.Lib.Hide
import Derived.Deep.OwnRows
import Derived.Maps.AppendAt
import Derived.Deep.QuietTactic
import Derived.BigQuiet
import Derived.BigRegion
import Derived.Deep.Draws
import Derived.Test.YtjljplolonpldaaQa6
import Derived.Test.YtjljplolonpldaaQa12
import Derived.Test.YtjljplolonpldaaQa11
set_option linter.unusedSimpArgs false
set_option linter.unusedVariables false
set_option linter.unusedSectionVars false
namespace Go.Proofs.Ytjljplolonpldaa.V
open Go.RowKit

/-- The matrices P, n rows each, in a list of its own; each was made at a world of its own and has stayed since. -/
def Pws (w : World) (B : Nat) (v : Value) (m n : Nat) (P : Nat → List (List Int)) : Prop :=
  ∃ V : List Value, V.length = m ∧ w.ownsRow B 22 1 v m V ∧
    ∀ i, i < m → ∃ (wi : World) (lo : Nat) (b : Option Addr) (c : Nat), V.getD i (.slice none 0 0) = .slice b n c ∧ OwnM wi lo (.slice b n c) (P i) ∧ wi.heap.size ≤ w.heap.size ∧ Same lo wi.heap.size wi w ∧ ∀ k, v.ownBlock = some k → ¬(lo ≤ k ∧ k < wi.heap.size)

theorem OwnM.same {wi w : World} {lo : Nat} {v : Value} {R : List (List Int)} (h : OwnM wi lo v R) (hs : Same lo wi.heap.size wi w) : OwnM w lo v R :=
  h.keep hs
theorem Pws.below {w w' : World} {B : Nat} {v : Value} {m n : Nat} {P : Nat → List (List Int)} (h : Pws w B v m n P) (hb : Below w.heap.size w w') : Pws w' B v m n P := by
  obtain ⟨V, h1, h2, h3⟩ := h
  refine ⟨V, h1, ownsRow_keep h2 (fun k hv => hb.block k (own_lt h2 hv).2), fun i hi => ?_⟩
  obtain ⟨wi, lo, b, c, e, ho, hz, hs, hk⟩ := h3 i hi
  exact ⟨wi, lo, b, c, e, ho, Nat.le_trans hz hb.size, hs.below hb hz, hk⟩
/-- One of the matrices. -/
theorem Pws.at {w : World} {B : Nat} {a : Option Addr} {m n cap : Nat} {P : Nat → List (List Int)} (h : Pws w B (.slice a m cap) m n P) (i : Nat) (hi : i < m) :
    ∃ g b c, a = some ⟨g, 0, none⟩ ∧ w.cell? ⟨g, i, none⟩ = some (.slice b n c) ∧ Mat w b n (P i) := by
  obtain ⟨V, h1, h2, h3⟩ := h
  obtain ⟨a', c', hv, hc, hm, hg⟩ := own_form h2
  injection hv with e1 e2 e3
  subst e1 e3
  obtain ⟨g, rfl, hB, hlt⟩ := hg (by omega)
  obtain ⟨wi, lo, b, c, e, ho, hz, hs, hk⟩ := h3 i hi
  refine ⟨g, b, c, rfl, ?_, (ho.same hs).mat⟩
  rw [World.ownsRow.cellAt h2 i (by omega), ← e]
  simp [show i < V.length by omega]
theorem Pws.caps {w : World} {B : Nat} {a : Option Addr} {m n cap : Nat} {P : Nat → List (List Int)} (h : Pws w B (.slice a m cap) m n P) : m ≤ cap ∧ cap ≤ maxLen := by
  obtain ⟨V, h1, h2, _⟩ := h
  obtain ⟨a', c', hv, k1, k2, _⟩ := own_form h2
  injection hv with e1 e2 e3
  subst e3
  exact ⟨k1, k2⟩
theorem pws_lit1 (w : World) (B n : Nat) (hB : B ≤ w.heap.size) {b : Option Addr} {c : Nat} {M : List (List Int)} (ho : OwnM w B (.slice b n c) M) (P : Nat → List (List Int)) (hP : P 0 = M) :
    Pws (w.alloc (.cells #[.slice b n c] 22)) B (.slice (some ⟨w.heap.size, 0, none⟩) 1 1) 1 n P := by
  refine ⟨[.slice b n c], rfl, World.ownsRow_lit w #[.slice b n c] 1 hB (by decide) rfl, fun i hi => ?_⟩
  obtain rfl : i = 0 := by omega
  refine ⟨w, B, b, c, rfl, by rw [hP]; exact ho, (b_alloc w _).size, (Same.refl B w.heap.size w).below (b_alloc w _) (Nat.le_refl _), fun k hk => ?_⟩
  simp only [Value.ownBlock, Option.some.injEq] at hk
  omega
theorem infoM64 : (Try.prog.info? 22).map (fun i => (i.zero, i.size, i.bytes)) = some (some (.slice none 0 0), 1, 24) := by kernel_rfl

set_option maxRecDepth 100000 in
set_option maxHeartbeats 400000 in
theorem sNode (a : Option Addr) (n cap : Nat) (x : Int) (w : World) (hn : n ≤ 1000) : Calls Try.prog 73 #[.slice a n cap, .int .i64 x] w fun e w' => e = .returned (.bool (M.inN n x)) ∧ w = w' := by
  go_enter Try.func73, Try.ntmps73
  go_wp2_with fail
  refine (sIn _ _ _ _).mono ?_
  rintro e w' ⟨rfl, rfl⟩
  go_wp2
  go_ret
  exact ⟨retB (by unfold M.inN; rw [Bool.eq_iff_iff]; simp; omega), rfl⟩
theorem sNode_b (a : Option Addr) (n cap : Nat) (x : Int) (w : World) (b : Bool) (hb : M.inN n x = b) (hn : n ≤ 1000) : Calls Try.prog 73 #[.slice a n cap, .int .i64 x] w fun e w' => e = .returned (.bool b) ∧ w = w' := by
  subst hb; exact sNode a n cap x w hn
end Go.Proofs.Ytjljplolonpldaa.V

namespace Go.Proofs.Ytjljplolonpldaa.V
open Go.RowKit

set_option maxRecDepth 100000 in
set_option maxHeartbeats 400000 in
theorem checked (a : Int) (w : World) : Calls Try.prog 85 #[.int .i64 a] w fun e w' => e = .returned (.tuple #[.int .i64 (M.chk a).1, .int .i64 (M.chk a).2]) ∧ w = w' := by
  by_cases h : M.isVal a = true
  · go_enter Try.func85, Try.ntmps85
    go_wp2_with (first | (go_at_call 134; refine (isValid _ _).mono ?_; rintro e w' ⟨rfl, rfl⟩))
    go_ret2
    exact ⟨retP (by simp [M.chk, h]), rfl⟩
  · simp only [Bool.not_eq_true] at h
    go_enter Try.func85, Try.ntmps85
    go_wp2_with (first | (go_at_call 134; refine (isValid _ _).mono ?_; rintro e w' ⟨rfl, rfl⟩))
    go_ret2
    exact ⟨retP (by simp [M.chk, h]), rfl⟩

set_option maxRecDepth 100000 in
set_option maxHeartbeats 400000 in
theorem sValue (a : Int) (w : World) : Calls Try.prog 77 #[.int .i64 a] w fun e w' => e = .returned (.tuple #[.int .i64 (M.chk a).1, .int .i64 (M.chk a).2]) ∧ w = w' := by
  by_cases h : M.isVal a = true
  · go_enter Try.func77, Try.ntmps77
    go_wp2_with (first | (go_at_call 131; refine (sIsValue _ _).mono ?_; rintro e w' ⟨rfl, rfl⟩))
    go_ret2
    exact ⟨retP (by simp [M.chk, h]), rfl⟩
  · simp only [Bool.not_eq_true] at h
    go_enter Try.func77, Try.ntmps77
    go_wp2_with (first | (go_at_call 131; refine (sIsValue _ _).mono ?_; rintro e w' ⟨rfl, rfl⟩))
    go_ret2
    exact ⟨retP (by simp [M.chk, h]), rfl⟩

set_option maxRecDepth 100000 in
set_option maxHeartbeats 400000 in
theorem times (a b : Int) (w : World) (ha : M.isVal a = true) (hb : M.isVal b = true) : Calls Try.prog 84 #[.int .i64 a, .int .i64 b] w fun e w' => e = .returned (.int .i64 (M.times a b)) ∧ w = w' := by
  have ba := M.isVal_bound ha
  have bb := M.isVal_bound hb
  clear ha hb
  obtain ⟨ba1, ba2⟩ := ba
  obtain ⟨bb1, bb2⟩ := bb
  by_cases h : a = -1000000000000000
  · subst h
    go_enter Try.func84, Try.ntmps84
    go_wp2
    all_goals go_ret; exact ⟨retI (by simp [M.times]), rfl⟩
  · have h' : (a == -1000000000000000) = false := by simpa using h
    by_cases h2 : b = -1000000000000000
    · subst h2
      go_enter Try.func84, Try.ntmps84
      go_wp2
      all_goals go_ret; exact ⟨retI (by simp [M.times]), rfl⟩
    · have h2' : (b == -1000000000000000) = false := by simpa using h2
      go_enter Try.func84, Try.ntmps84
      go_wp2
      all_goals go_ret; exact ⟨retI (by simp [M.times, h, h2]), rfl⟩

set_option maxRecDepth 100000 in
set_option maxHeartbeats 400000 in
theorem sTimes (a b : Int) (w : World) (ha : M.isVal a = true) (hb : M.isVal b = true) : Calls Try.prog 78 #[.int .i64 a, .int .i64 b] w fun e w' => e = .returned (.int .i64 (M.times a b)) ∧ w = w' := by
  have ba := M.isVal_bound ha
  have bb := M.isVal_bound hb
  clear ha hb
  obtain ⟨ba1, ba2⟩ := ba
  obtain ⟨bb1, bb2⟩ := bb
  by_cases h : a = -1000000000000000
  · subst h
    go_enter Try.func78, Try.ntmps78
    go_wp2
    all_goals go_ret; exact ⟨retI (by simp [M.times]), rfl⟩
  · have h' : (a == -1000000000000000) = false := by simpa using h
    by_cases h2 : b = -1000000000000000
    · subst h2
      go_enter Try.func78, Try.ntmps78
      go_wp2
      all_goals go_ret; exact ⟨retI (by simp [M.times]), rfl⟩
    · have h2' : (b == -1000000000000000) = false := by simpa using h2
      go_enter Try.func78, Try.ntmps78
      go_wp2
      all_goals go_ret; exact ⟨retI (by simp [M.times, h, h2]), rfl⟩
end Go.Proofs.Ytjljplolonpldaa.V

namespace Go.Proofs.Ytjljplolonpldaa.V
open Go.RowKit

end Go.Proofs.Ytjljplolonpldaa.V

namespace Go.Proofs.Ytjljplolonpldaa.V
set_option maxRecDepth 100000
open Go.RowKit
def NPost (r : Int × Int) (w : World) (e : Ending) (w' : World) : Prop :=
  e = .returned (.tuple #[.int .i64 r.1, .int .i64 r.2]) ∧ Below w.heap.size w w'
theorem rect_flat {X : List (List Int)} {n L i j : Nat} (h : Rect X n L) (hi : i < n) (hj : j < L) : X.flatten.getD (i * L + j) 0 = M.ent X i j :=
  M.flat_at X i j (fun k hk => h.2 k (by have := h.1; omega)) (by have := h.1; omega) hj
theorem wid_small {x : Int} (h1 : -200000000000 ≤ x) (h2 : x ≤ 200000000000) : Wid x := ⟨by omega, by omega⟩
set_option maxRecDepth 100000 in
set_option maxHeartbeats 4000000 in
theorem sPowerEntry (a : Option Addr) (n cap : Nat) (R : List (List Int)) (N i j : Int) (w : World) (h : Mat w a n R) : Calls Try.prog 16 #[.slice a n cap, .int .i64 N, .int .i64 i, .int .i64 j] w (NPost (M.peRes R N i j) w) := by
  have HA := Lib.hid h
  obtain ⟨b1, hb1⟩ : ∃ b, b = (decide ((0 : Int) ≤ N) && decide (N ≤ 100000)) := ⟨_, rfl⟩
  obtain ⟨b2, hb2⟩ : ∃ b, b = M.inN n i := ⟨_, rfl⟩
  obtain ⟨b3, hb3⟩ : ∃ b, b = M.inN n j := ⟨_, rfl⟩
  by_cases hs : M.sqB R = true
  · have HS := Lib.hid hs
    have hRn : R.length = n := h.1
    obtain ⟨-, n1, n2, -⟩ := sq_parts7 h hs
    have HC1 : Hid (∀ w, Calls Try.prog 72 #[.int .i64 N, .int .i64 0, .int .i64 100000] w fun e w' => e = .returned (.bool b1) ∧ w = w') := fun w => by rw [hb1]; exact sIn N 0 100000 w
    have HC2 : Hid (∀ w, Calls Try.prog 73 #[.slice a n cap, .int .i64 i] w fun e w' => e = .returned (.bool b2) ∧ w = w') := fun w => by rw [hb2]; exact sNode a n cap i w (by omega)
    have HC3 : Hid (∀ w, Calls Try.prog 73 #[.slice a n cap, .int .i64 j] w fun e w' => e = .returned (.bool b3) ∧ w = w') := fun w => by rw [hb3]; exact sNode a n cap j w (by omega)
    have hnod : M.nodesB R.length [i, j] = (b2 && b3) := by rw [hb2, hb3, hRn]; simp [M.nodesB]
    have hrg : (0 ≤ N ∧ N ≤ 100000) ↔ b1 = true := by rw [hb1]; simp
    by_cases hc : b1 = true ∧ b2 = true ∧ b3 = true
    · obtain ⟨e1, e2, e3⟩ := hc
      subst e1 e2 e3
      obtain ⟨N1, N2⟩ := hrg.2 rfl
      have hi := hb2.symm
      have hj := hb3.symm
      unfold M.inN at hi hj
      rw [Bool.and_eq_true, decide_eq_true_eq, decide_eq_true_eq] at hi hj
      obtain ⟨Nn, rfl⟩ := Int.eq_ofNat_of_zero_le N1
      obtain ⟨i, rfl⟩ := Int.eq_ofNat_of_zero_le hi.1
      obtain ⟨j, rfl⟩ := Int.eq_ofNat_of_zero_le hj.1
      have i2 : i < n := by omega
      have j2 : j < n := by omega
      have hNn : Nn ≤ 100000 := by omega
      have HE : Hid (M.peRes R Nn i j = if (M.fnd R (M.unitM n)).2.2.2 = 0 then M.chk (M.peVal R Nn i j (M.fnd R (M.unitM n)).1 (M.fnd R (M.unitM n)).2.1 (M.fnd R (M.unitM n)).2.2.1) else (0, (M.fnd R (M.unitM n)).2.2.2)) := by
        show _ = _
        unfold M.peRes
        rw [if_pos hs, if_pos ⟨N1, N2, by rw [hnod]; rfl⟩, hRn]
      clear h hs hb1 hb2 hb3 hnod hrg hi hj N1 N2
      go_enter Try.func16, Try.ntmps16
      go_wp2_with fail
      refine (sSquare_b _ _ _ R _ true HS.out HA.out).mono ?_
      rintro e w' ⟨rfl, qd, rfl⟩
      go_wp2_with fail
      refine (HC1.out _).mono ?_
      rintro e w' ⟨rfl, rfl⟩
      go_wp2_with fail
      refine (HC2.out _).mono ?_
      rintro e w' ⟨rfl, rfl⟩
      go_wp2_with fail
      refine (HC3.out _).mono ?_
      rintro e w' ⟨rfl, rfl⟩
      go_wp2_with fail
      refine (sUnit n _ (by omega)).mono ?_
      rintro e w2 ⟨bu, cu, rfl, ho, hb⟩
      have HO2 := Lib.hid ho
      have HB2 := Lib.hid ((below_drewN (Below.refl w.heap.size w) qd).trans hb)
      clear ho hb
      go_wp2_with fail
      refine (sStart7 w a n cap n R (M.unitM n) bu cu _ HB2.out HO2.out unit_rect n2 n1 n2).mono ?_
      rintro e w3 ⟨p, rfl, hs⟩
      have HS3 := Lib.hid hs
      clear hs
      go_wp2_with fail
      refine (sFind w a n cap n R (M.unitM n) p _ (serB_unit HA.out HS.out) HS3.out (okTo_unit n1 n2)).mono ?_
      rintro e w4 ⟨s, c, g, d, hf, rfl, hb, hser⟩
      have HB4 := Lib.hid hb
      have HE4 : Hid (M.peRes R Nn i j = if d = 0 then M.chk (M.peVal R Nn i j s c g) else (0, d)) := by
        show _ = _
        rw [HE.out, hf]
      by_cases hd : d = 0
      · subst hd
        obtain ⟨sn, cn, k, rfl, rfl, c1, hk, hk2, hok, hsr⟩ := hser rfl
        obtain ⟨g1, g2⟩ : -2000000 ≤ g ∧ g ≤ 2000000 := (M.fnd_bd (by omega) (by unfold M.unitM; simp; omega) (okTo_unit n1 n2 0 (Nat.le_refl _)) hf).2.2
        have hat := M.pe_bd (n := Nn) (s := sn) (c := cn) (k := k) c1 hk
        have hro := M.pe_ro (n := Nn) (s := sn) (c := cn) hNn
        have hmu := M.pe_mul hro.1 hro.2 g1 g2
        have hSB := serB_unit HA.out HS.out
        obtain ⟨q, hq⟩ : ∃ q, q = M.peAt Nn sn cn := ⟨_, rfl⟩
        obtain ⟨r, hr⟩ : ∃ r, r = M.peRo Nn sn cn := ⟨_, rfl⟩
        rw [← hq] at hat
        rw [← hr] at hro hmu
        obtain ⟨hrc, hvl⟩ := hSB.sq (hok q hat)
        have hln : (M.sq7 R (M.unitM n) q).flatten.length = n * n := flat_rect hrc
        obtain ⟨hb0, hp, b5, c5, b6, c6, hrow, -, ho2⟩ := id hsr
        obtain ⟨g6, q6, rc6, rfl, hcr, hro6, -, -⟩ := ho2.rowg q (by omega) (by rw [M.sqL_get (show q < k + 1 by omega), hln]; exact Nat.mul_pos n1 n1)
        rw [M.sqL_get (show q < k + 1 by omega), hln] at hcr hro6
        have s2 : w4.cell? ⟨p, 2, none⟩ = some (.slice (some ⟨g6, 0, none⟩) (k + 1) c6) := World.rowIs.cell hrow (i := 2) (by omega)
        have hij : i * n + j < n * n := by
          have : i * n + n ≤ n * n := by rw [← Nat.succ_mul]; exact Nat.mul_le_mul_right n i2
          omega
        have hx := hro6.cellAt (i * n + j) hij
        rw [rect_flat hrc i2 j2] at hx
        have hv := wid_val (hvl i j i2 j2)
        have HX : Hid (M.peRes R Nn i j = M.chk (M.times (M.ent (M.sq7 R (M.unitM n) q) i j) (r * g))) := by
          show _ = _
          rw [HE4.out, if_pos rfl]
          unfold M.peVal
          rw [HA.out.1, Int.toNat_natCast, Int.toNat_natCast, ← hq, ← hr]
        have HB5 := Lib.hid hb
        have hqk : (q : Int) < (k : Int) + 1 := by omega
        have hij2 : (i : Int) * (n : Int) + (j : Int) < ((n * n : Nat) : Int) := by
          have : (((i * n + j : Nat)) : Int) < ((n * n : Nat) : Int) := by omega
          simpa using this
        have hnn : n * n ≤ 100 := Nat.mul_le_mul n2 n2
        clear hser hf hb hok hsr hSB hrc hvl hln hb0 hrow ho2 hro6
        obtain ⟨m, hm⟩ : ∃ m, m = n * n := ⟨_, rfl⟩
        rw [← hm] at hcr hij hij2 hnn
        generalize M.ent (M.sq7 R (M.unitM n) q) i j = x at *
        have hwd : Wid (r * g) := wid_small hmu.1 hmu.2
        have hsn : sn ≤ 100 := by omega
        have hcn : cn ≤ 100 := by omega
        by_cases hlt : sn < Nn
        · obtain ⟨p1, p2⟩ := M.pe_great (c := cn) hlt
          rw [p1] at hr
          rw [p2] at hq
          have hlt' : (sn : Int) < (Nn : Int) := by omega
          obtain ⟨D, hD⟩ : ∃ D, D = Nn - sn := ⟨_, rfl⟩
          rw [← hD] at hr hq
          have hD1 : (Nn : Int) - (sn : Int) = (D : Int) := by omega
          obtain ⟨mm, hmm⟩ : ∃ mm, mm = D % cn := ⟨_, rfl⟩
          have hD2 : (D : Int) % (cn : Int) = (mm : Int) := by rw [hmm]; exact (Int.natCast_emod D cn).symm
          have hmb : mm < cn := by rw [hmm]; exact Nat.mod_lt _ (by omega)
          rw [← hmm] at hq
          have hD3 : (sn : Int) + (mm : Int) = (q : Int) := by omega
          have hDb : D ≤ 100000 := by omega
          clear hmm
          have hD4 : Int.tdiv (D : Int) (cn : Int) = r := by rw [hr]; rfl
          have hcz : ¬ (cn : Int) = 0 := by omega
          have hro1 := hro.1
          have hro2 := hro.2
          have hrg : g * r = r * g := Int.mul_comm _ _
          obtain ⟨z, hz⟩ : ∃ z, z = r * g := ⟨_, rfl⟩
          rw [← hz] at hwd hmu hrg HX
          have hmu1 := hmu.1
          have hmu2 := hmu.2
          clear p1 p2 hlt hm hr hq hD hro hmu hz
          go_wp2_with (go_at_call 78; refine (sTimesW _ _ _ hv hwd).mono ?_; rintro e w' ⟨rfl, rfl⟩)
          refine (sValue _ _).mono ?_
          rintro e w' ⟨rfl, rfl⟩
          go_wp2
          go_ret2
          exact ⟨by rw [HX.out]; rfl, HB5.out⟩
        · obtain ⟨p1, p2⟩ := M.pe_small (c := cn) (show Nn ≤ sn by omega)
          rw [p1] at hr
          rw [p2] at hq
          have hlt' : ¬ ((sn : Int) < (Nn : Int)) := by omega
          subst hr
          subst hq
          rw [Int.zero_mul] at HX hwd
          clear p1 p2 hlt hmu hm
          go_wp2_with (go_at_call 78; refine (sTimesW _ _ _ hv hwd).mono ?_; rintro e w' ⟨rfl, rfl⟩)
          refine (sValue _ _).mono ?_
          rintro e w' ⟨rfl, rfl⟩
          go_wp2
          go_ret2
          exact ⟨by rw [HX.out]; rfl, HB5.out⟩
      · have HE5 : Hid (M.peRes R Nn i j = (0, d)) := Lib.hid (HE4.out.trans (if_neg hd))
        clear hser hf hb
        go_wp2
        go_ret2
        exact ⟨by rw [HE5.out]; rfl, HB4.out⟩
    · have HE : Hid (M.peRes R N i j = (0, 2)) := by
        show _ = _
        unfold M.peRes
        rw [if_pos hs, if_neg (by rw [hnod, Bool.and_eq_true]; rintro ⟨z1, z2, z3, z4⟩; exact hc ⟨hrg.1 ⟨z1, z2⟩, z3, z4⟩)]
      clear h hs hb1 hb2 hb3 hnod hrg hRn
      cases b1 with
      | false =>
        clear hc
        go_enter Try.func16, Try.ntmps16
        go_wp2_with fail
        refine (sSquare_b _ _ _ R _ true HS.out HA.out).mono ?_
        rintro e w' ⟨rfl, qd, rfl⟩
        go_wp2_with fail
        refine (HC1.out _).mono ?_
        rintro e w' ⟨rfl, rfl⟩
        go_wp2
        go_ret2
        exact ⟨by rw [HE.out]; rfl, below_drewN (Below.refl _ _) qd⟩
      | true =>
        cases b2 with
        | false =>
          clear hc
          go_enter Try.func16, Try.ntmps16
          go_wp2_with fail
          refine (sSquare_b _ _ _ R _ true HS.out HA.out).mono ?_
          rintro e w' ⟨rfl, qd, rfl⟩
          go_wp2_with fail
          refine (HC1.out _).mono ?_
          rintro e w' ⟨rfl, rfl⟩
          go_wp2_with fail
          refine (HC2.out _).mono ?_
          rintro e w' ⟨rfl, rfl⟩
          go_wp2
          go_ret2
          exact ⟨by rw [HE.out]; rfl, below_drewN (Below.refl _ _) qd⟩
        | true =>
          obtain rfl : b3 = false := by cases b3 with
            | true => exact absurd ⟨rfl, rfl, rfl⟩ hc
            | false => rfl
          clear hc
          go_enter Try.func16, Try.ntmps16
          go_wp2_with fail
          refine (sSquare_b _ _ _ R _ true HS.out HA.out).mono ?_
          rintro e w' ⟨rfl, qd, rfl⟩
          go_wp2_with fail
          refine (HC1.out _).mono ?_
          rintro e w' ⟨rfl, rfl⟩
          go_wp2_with fail
          refine (HC2.out _).mono ?_
          rintro e w' ⟨rfl, rfl⟩
          go_wp2_with fail
          refine (HC3.out _).mono ?_
          rintro e w' ⟨rfl, rfl⟩
          go_wp2
          go_ret2
          exact ⟨by rw [HE.out]; rfl, below_drewN (Below.refl _ _) qd⟩
  · have hs' : M.sqB R = false := by simpa using hs
    have HS := Lib.hid hs'
    have HE : Hid (M.peRes R N i j = (0, 1)) := by show _ = _; unfold M.peRes; rw [if_neg hs]
    clear h hs hs' hb1 hb2 hb3
    go_enter Try.func16, Try.ntmps16
    go_wp2_with fail
    refine (sSquare_b _ _ _ R _ false HS.out HA.out).mono ?_
    rintro e w' ⟨rfl, qd, rfl⟩
    go_wp2
    go_ret2
    exact ⟨by rw [HE.out]; rfl, below_drewN (Below.refl _ _) qd⟩
end Go.Proofs.Ytjljplolonpldaa.V

namespace Go.Proofs.Ytjljplolonpldaa.V
set_option maxRecDepth 100000
open Go.RowKit
theorem elV_ent {X : List (List Int)} {i j : Nat} (hi : i < X.length) (hj : j < M.wid X) (h1 : i < 10) (h2 : j < 10) : (elV X)[i * 10 + j]? = some (.int .i64 (M.times (M.ent X i j) (-(M.maxL X.flatten)))) := by
  rw [elV_pat (by omega), List.getElem?_map]
  have := M.patC_get (X := X) (h := M.maxL X.flatten) hi hj h1 h2
  rw [List.getD_eq_getElem?_getD] at this
  have hl : i * 10 + j < (M.patC X (M.maxL X.flatten)).length := by rw [M.patC_len]; omega
  rw [List.getElem?_eq_getElem hl] at this ⊢
  rw [Option.getD_some] at this
  rw [this]; rfl
set_option maxRecDepth 100000 in
set_option maxHeartbeats 1000000 in
theorem elEntry (X : List (List Int)) (i j : Nat) (w : World) (hm : M.isMat X = true) (hi : i < X.length) (hj : j < M.wid X) :
    Calls Try.prog 83 #[.agg (elV X).toArray, .int .i64 i, .int .i64 j] w fun e w' => e = .returned (.int .i64 (M.times (M.times (M.ent X i j) (-(M.maxL X.flatten))) (M.maxL X.flatten))) ∧ Below w.heap.size w w' := by
  obtain ⟨m1, m2, m3, m4, -⟩ := M.isMat_t hm
  have i10 : i < 10 := by omega
  have j10 : j < 10 := by omega
  obtain ⟨wa, hwa⟩ : ∃ x, x = w.alloc (.cells (elV X).toArray 93) := ⟨_, rfl⟩
  have HWA := Lib.hid hwa
  have hb : Below w.heap.size w wa := by rw [hwa]; exact b_alloc _ _
  have hg : wa.heap[w.heap.size]? = some (.cells (elV X).toArray 93 (0, 0)) := by rw [hwa]; exact heap_alloc_last _ _
  have s1 : wa.cell? ⟨w.heap.size, i * 10 + j, none⟩ = some (.int .i64 (M.times (M.ent X i j) (-(M.maxL X.flatten)))) := by
    rw [cell_of_row _ _ _ _ _ _ hg]
    simpa using elV_ent hi hj i10 j10
  have s2 : wa.cell? ⟨w.heap.size, 100, none⟩ = some (.int .i64 (M.maxL X.flatten)) := by
    rw [cell_of_row _ _ _ _ _ _ hg]
    simpa using elV_top (X := X)
  have hx := M.isVal_t (M.maxL_vals (M.flat_vals hm))
  have he := M.isVal_t ((M.isMat_t hm).2.2.2.2.2 i hi j hj)
  have ht : Wid (M.times (M.ent X i j) (-(M.maxL X.flatten))) := by
    unfold M.times
    split
    · exact ⟨by omega, by omega⟩
    · unfold Wid; omega
  have hx' : Wid (M.maxL X.flatten) := ⟨by omega, by omega⟩
  have HB := Lib.hid hb
  have HTm : Hid (∀ w : World, Calls Try.prog 84 #[.int .i64 (M.times (M.ent X i j) (-(M.maxL X.flatten))), .int .i64 (M.maxL X.flatten)] w fun e w' => e = .returned (.int .i64 (M.times (M.times (M.ent X i j) (-(M.maxL X.flatten))) (M.maxL X.flatten))) ∧ w = w') := Lib.hid (fun w => timesW _ _ w ht hx')
  generalize M.times (M.times (M.ent X i j) (-(M.maxL X.flatten))) (M.maxL X.flatten) = z at *
  generalize M.times (M.ent X i j) (-(M.maxL X.flatten)) = x at *
  generalize M.maxL X.flatten = y at *
  have hel : (elV X).length = 101 := elV_len X
  clear hwa hb hg hx he ht hx' hm m1 m2 m3 m4 hi hj
  go_enter Try.func83, Try.ntmps83
  go_wp2
  rw [← HWA.out]
  have hi' : (i : Int) < 10 := by omega
  have hj' : (j : Int) < 10 := by omega
  go_quiet (exact Calls.quiet_of_same ((HTm.out _).mono fun e w' h => ⟨h.1, h.2.symm⟩))
  go_wp2
  go_ret
  exact ⟨rfl, below_drewN HB.out _⟩
end Go.Proofs.Ytjljplolonpldaa.V

namespace Go.Proofs.Ytjljplolonpldaa
namespace M
/-- The column of a vector. -/
def colF (n : Nat) (x : List Int) : List (List Int) := mk n 1 fun i _ => x.getD i 0
theorem isVec_iff {l : List Int} (h1 : 1 ≤ l.length) (h2 : l.length ≤ 10) : isVec l = true ↔ ∀ i, i < l.length → isVal (l.getD i 0) = true := ⟨fun h => (isVec_t h).2.2, fun h => isVec_of h1 h2 h⟩
theorem ok_col {R : List (List Int)} {x : List Int} (hx : x.length = R.length) (n1 : 1 ≤ R.length) (n2 : R.length ≤ 10) (k : Nat) : okQ R (colF R.length x) k = isVec (orb R x k) := by
  unfold okQ colF
  rw [sq7_col hx]
  have hl := orb_len hx k
  apply Bool.eq_iff_iff.2
  rw [isVec_iff (by omega) (by omega)]
  constructor
  · intro h i hi
    have := (isMat_t h).2.2.2.2.2 i (by simpa [← hl] using hi) 0 (by rw [mk_wid _ _ _ (by omega)]; omega)
    rw [ent_mk _ _ _ _ _ (by omega) (by omega)] at this
    exact this
  · intro h
    exact isMat_mk n1 n2 (Nat.le_refl _) (by omega) fun i hi j hj => h i (by omega)
theorem sqL_col {R : List (List Int)} {x : List Int} (hx : x.length = R.length) (k : Nat) : sqL R (colF R.length x) k = orbL R x k := List.map_congr_left fun i _ => orb_flat hx i
end M
namespace V
set_option maxRecDepth 100000
open Go.RowKit
set_option maxRecDepth 100000 in
set_option maxHeartbeats 400000 in
theorem sCode7 (a : Option Addr) (n cap : Nat) (R : List (List Int)) (a' : Option Addr) (N cap' : Nat) (l : List Int) (w : World) (h : Mat w a n R) (h' : Ints .i64 w a' N l) :
    Calls Try.prog 86 #[.slice a n cap, .slice a' N cap'] w fun e w' => e = .returned (.int .i64 (M.orbCode R l)) ∧ Below w.heap.size w w' := by
  have HA := Lib.hid h
  have HI := Lib.hid h'
  have hRn : R.length = n := h.1
  have hln : l.length = N := h'.1
  obtain ⟨v1, hv1⟩ : ∃ v, v = M.sqB R := ⟨_, rfl⟩
  have HV1 := Lib.hid hv1.symm
  cases v1 with
  | false =>
    have HE : Hid (M.orbCode R l = 1) := by show _ = _; unfold M.orbCode; rw [← hv1]; rfl
    clear h h' hv1 hRn hln
    go_enter Try.func86, Try.ntmps86
    go_wp2_with (go_at_call 71; refine (sSquare_b _ _ _ R _ false HV1.out HA.out).mono ?_; rintro e w' ⟨rfl, q, rfl⟩)
    go_ret
    rw [HE.out]
    exact ⟨rfl, b_draws _ _⟩
  | true =>
    obtain ⟨v2, hv2⟩ : ∃ v, v = M.isVec l := ⟨_, rfl⟩
    have HV2 := Lib.hid hv2.symm
    cases v2 with
    | false =>
      have HE : Hid (M.orbCode R l = 1) := by show _ = _; unfold M.orbCode; rw [← hv1, ← hv2]; rfl
      clear h h' hv1 hv2 hRn hln
      go_enter Try.func86, Try.ntmps86
      go_wp2_with (first | (go_at_call 71; refine (sSquare_b _ _ _ R _ true HV1.out HA.out).mono ?_; rintro e w' ⟨rfl, q, rfl⟩) | (go_at_call 90; refine (sVector_b _ _ _ l _ false HV2.out (HI.out.below (b_draws _ _))).mono ?_; rintro e w' ⟨rfl, rfl⟩))
      go_ret
      rw [HE.out]
      exact ⟨rfl, b_draws _ _⟩
    | true =>
      by_cases hl : N = n
      · subst hl
        have HE : Hid (M.orbCode R l = 0) := by show _ = _; unfold M.orbCode; rw [← hv1, ← hv2, if_pos (by rfl), if_pos (by omega)]
        clear h h' hv1 hv2 hRn hln
        go_enter Try.func86, Try.ntmps86
        go_wp2_with (first | (go_at_call 71; refine (sSquare_b _ _ _ R _ true HV1.out HA.out).mono ?_; rintro e w' ⟨rfl, q, rfl⟩) | (go_at_call 90; refine (sVector_b _ _ _ l _ true HV2.out (HI.out.below (b_draws _ _))).mono ?_; rintro e w' ⟨rfl, rfl⟩))
        go_ret
        rw [HE.out]
        exact ⟨rfl, b_draws _ _⟩
      · have HE : Hid (M.orbCode R l = 5) := by show _ = _; unfold M.orbCode; rw [← hv1, ← hv2, if_pos (by rfl), if_neg (by omega)]
        have hne : ((N : Int) != (n : Int)) = true := by simp; omega
        clear h h' hv1 hv2 hRn hln
        go_enter Try.func86, Try.ntmps86
        go_wp2_with (first | (go_at_call 71; refine (sSquare_b _ _ _ R _ true HV1.out HA.out).mono ?_; rintro e w' ⟨rfl, q, rfl⟩) | (go_at_call 90; refine (sVector_b _ _ _ l _ true HV2.out (HI.out.below (b_draws _ _))).mono ?_; rintro e w' ⟨rfl, rfl⟩))
        go_ret
        rw [HE.out]
        exact ⟨rfl, b_draws _ _⟩
set_option maxRecDepth 100000 in
set_option maxHeartbeats 400000 in
theorem sColumn7 (a : Option Addr) (n cap : Nat) (l : List Int) (w : World) (h : Ints .i64 w a n l) (n1 : 1 ≤ n) (n2 : n ≤ 10) :
    Calls Try.prog 87 #[.slice a n cap] w (MPost n (M.colF n l) w) := by
  have HI := Lib.hid h
  have HE : Hid (M.mk n 1 (fun i j => M.ent [l] j i) = M.colF n l) := by
    show _ = _
    exact M.mk_congr fun i _ j hj => by obtain rfl : j = 0 := by omega
                                        rfl
  have H1T : Hid (Rect [l] 1 n) := ⟨rfl, fun i hi => by obtain rfl : i = 0 := by omega
                                                        exact h.1⟩
  clear h
  go_enter Try.func87, Try.ntmps87
  go_wp2_with fail
  refine (sTurn _ _ _ n [l] _ (mat_one w _ _ _ l HI.out) H1T.out (by omega) (by omega) n1 n2).mono ?_
  rintro e w1 ⟨a1, cap1, rfl, ho1, hb1⟩
  rw [HE.out] at ho1
  have HB1 := Lib.hid (bel1 hb1)
  have HO1 := Lib.hid (ho1.mono (B' := w.heap.size) (by simp))
  clear ho1 hb1
  go_wp2
  go_ret
  exact ⟨_, _, rfl, HO1.out, HB1.out⟩
theorem serB_col {w : World} {a : Option Addr} {n : Nat} {R : List (List Int)} {x : List Int} (h : Mat w a n R) (hs : M.sqB R = true) : SerB w a n 1 R (M.colF n x) := by
  obtain ⟨hr, n1, n2, hsm⟩ := sq_parts7 h hs
  exact ⟨h, hr, n1, n2, hsm, by unfold M.colF; simp, by unfold M.colF; exact M.mk_wid _ _ _ (by omega), Nat.le_refl _, by omega⟩
set_option maxRecDepth 100000 in
set_option maxHeartbeats 4000000 in
theorem sOrbitOf (a : Option Addr) (n cap : Nat) (R : List (List Int)) (a' : Option Addr) (N cap' : Nat) (l : List Int) (m : Int) (w : World) (h : Mat w a n R) (h' : Ints .i64 w a' N l) :
    Calls Try.prog 30 #[.slice a n cap, .slice a' N cap', .int .i64 m] w (MRes (M.orbRes R l m) w) := by
  have HA := Lib.hid h
  have HI := Lib.hid h'
  obtain ⟨k0, hk0⟩ : ∃ k, k = M.orbCode R l := ⟨_, rfl⟩
  have HK := Lib.hid hk0.symm
  by_cases hk : k0 = 0
  · subst hk
    obtain ⟨hs, hx, hl⟩ := M.orbCode_t hk0.symm
    obtain ⟨hr, n1, n2, hsm⟩ := sq_parts7 h hs
    have hRn : R.length = n := h.1
    have hNn : N = n := by rw [← h'.1, hl]; exact hRn
    subst hNn
    by_cases hm : 0 ≤ m ∧ m ≤ 100
    · obtain ⟨q, rfl⟩ := Int.eq_ofNat_of_zero_le hm.1
      have hq : q ≤ 100 := by omega
      have hd : (decide ((0 : Int) ≤ (q : Int)) && decide ((q : Int) ≤ 100)) = true := by simp; omega
      have HE : Hid (M.orbRes R l (q : Int) = if (M.orbL R l (q + 1)).all M.isVec then (M.orbL R l (q + 1), 0) else ([], 3)) := by show _ = _; unfold M.orbRes; rw [← hk0, if_pos rfl, if_pos hm]; rfl
      have HSB : Hid (∀ w' : World, Below w.heap.size w w' → SerB w' a N 1 R (M.colF N l)) := fun w' hb => serB_col (HA.out.below hb) hs
      have HOc : Hid (∀ k, M.okQ R (M.colF N l) k = M.isVec (M.orb R l k)) := fun k => by rw [← hRn]; exact M.ok_col hl (by omega) (by omega) k
      have HLc : Hid (∀ k, M.sqL R (M.colF N l) k = M.orbL R l k) := fun k => by rw [← hRn]; exact M.sqL_col hl k
      have HFr : Hid (Rect (M.colF N l) N 1) := rect_mk _ _ _
      have H0 : Hid (M.okTo R (M.colF N l) 0) := fun j hj => by
        obtain rfl : j = 0 := by omega
        rw [HOc.out]; exact hx
      clear h h' hk0 hs hx hl hr hsm hRn hm
      go_enter Try.func30, Try.ntmps30
      go_wp2_with (first | (go_at_call 86; refine (sCode7 _ _ _ R _ _ _ l _ HA.out HI.out).mono ?_; rintro e w1 ⟨rfl, hb⟩; have HB1 := Lib.hid hb; clear hb; rw [HK.out]) | (go_at_call 72; refine (sIn _ _ _ _).mono ?_; rintro e w' ⟨rfl, rfl⟩; rw [hd]))
      refine (sColumn7 _ _ _ l _ (HI.out.below HB1.out) n1 n2).mono ?_
      rintro e w2 ⟨b2, c2, rfl, ho, hb⟩
      have HO2 := Lib.hid ho
      have HB2 := Lib.hid hb
      clear ho hb
      go_wp2_with fail
      refine (sStart7 w1 a N cap 1 R (M.colF N l) b2 c2 _ HB2.out HO2.out HFr.out n2 (Nat.le_refl _) (by omega)).mono ?_
      rintro e w3 ⟨p, rfl, hs⟩
      have HS3 := Lib.hid hs
      clear hs
      go_wp2_with fail
      refine (sAt7 w1 a N cap 1 R (M.colF N l) p 0 q _ (HSB.out _ HB1.out) HS3.out H0.out (by omega)).mono ?_
      rintro e w4 (⟨k1, hk1, -, hk2, hok, hs, ra, m4, rc, rfl, -⟩ | ⟨j, hj1, hj2, -, hno, rfl, hb⟩)
      · have hkq : k1 = q := by omega
        subst hkq
        have HAll : Hid ((M.orbL R l (k1 + 1)).all M.isVec = true) := by
          show _ = _
          rw [List.all_eq_true]
          intro x hx
          obtain ⟨i, hi, rfl⟩ := List.mem_map.1 hx
          rw [← HOc.out]
          exact hok i (by have := List.mem_range.1 hi; omega)
        obtain ⟨hb0, hp, b1, c1, b5, c5, hrow, -, ho2⟩ := hs
        rw [HLc.out] at ho2
        have s2 : w4.cell? ⟨p, 2, none⟩ = some (.slice b5 (k1 + 1) c5) := World.rowIs.cell hrow (i := 2) (by omega)
        have HO4 := Lib.hid ho2.toM
        have HB4 := Lib.hid (HB1.out.trans (hb0.mono HB1.out.size))
        clear hb0 hrow ho2 hok
        go_wp2
        go_ret2
        rw [HE.out, HAll.out]
        exact ⟨_, _, _, rfl, HO4.out.mono HB1.out.size, HB4.out⟩
      · have HAll : Hid ((M.orbL R l (q + 1)).all M.isVec = false) := M.orb_all_not (k := j) (by omega) (by rw [← HOc.out]; exact hno)
        have HB4 := Lib.hid (HB1.out.trans (hb.mono HB1.out.size))
        clear hno hb
        go_wp2
        go_ret2
        exact MRes.nil (by rw [HE.out, HAll.out]; rfl) HB4.out
    · have HE : Hid (M.orbRes R l m = ([], 2)) := by show _ = _; unfold M.orbRes; rw [← hk0, if_pos rfl, if_neg hm]
      have hd : (decide ((0 : Int) ≤ m) && decide (m ≤ 100)) = false := by
        cases e : (decide ((0 : Int) ≤ m) && decide (m ≤ 100)) with
        | false => rfl
        | true => simp at e; exact absurd e hm
      clear h h' hk0 hs hx hl hr hsm hRn hm
      go_enter Try.func30, Try.ntmps30
      go_wp2_with (first | (go_at_call 86; refine (sCode7 _ _ _ R _ _ _ l _ HA.out HI.out).mono ?_; rintro e w1 ⟨rfl, hb⟩; have HB1 := Lib.hid hb; clear hb; rw [HK.out]) | (go_at_call 72; refine (sIn _ _ _ _).mono ?_; rintro e w' ⟨rfl, rfl⟩; rw [hd]))
      go_ret2
      exact MRes.nil HE.out HB1.out
  · have HE : Hid (M.orbRes R l m = ([], k0)) := by show _ = _; unfold M.orbRes; rw [← hk0, if_neg hk]
    have hk2 : (k0 != 0) = true := by simpa using hk
    have hk3 : (k0 == 0) = false := by simpa using hk
    clear h h' hk0 hk
    go_enter Try.func30, Try.ntmps30
    go_wp2_with (first | (go_at_call 86; refine (sCode7 _ _ _ R _ _ _ l _ HA.out HI.out).mono ?_; rintro e w1 ⟨rfl, hb⟩; have HB1 := Lib.hid hb; clear hb; rw [HK.out]))
    go_ret2
    exact MRes.nil HE.out HB1.out
end V
end Go.Proofs.Ytjljplolonpldaa
