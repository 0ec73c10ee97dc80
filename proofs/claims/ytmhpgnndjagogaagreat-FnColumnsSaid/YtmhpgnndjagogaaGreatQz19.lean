/- Texts laid together: Cpt, Srt, Nds, Cpi, Clp, Egv, Cty. -/
import Derived.Test.YtmhpgnndjagogaaGreatQz18
import Derived.Ground.SlgnProg
import Derived.Shelf.SlicesG.CompactI
import Derived.Shelf.SlicesG.Cells
import Derived.Ground.SlgmProg
import Derived.Shelf.SortM.Plain
import Derived.Shelf.SortM.SortNone
import Derived.Test.YtmhpgnndjagogaaGreatProg
import Derived.Test.YtmhpgnndjagogaaGreatQz16
import Derived.Sort.OwnSortedInts
import Derived.Laws.IdiomRangeMap
import Derived.Test.YtmhpgnndjagogaaGreatQz17
import Derived.Test.YtmhpgnndjagogaaGreatQz15
import Derived.Test.YtmhpgnndjagogaaGreatQz9
import Derived.Test.YtmhpgnndjagogaaGreatQz14
set_option linter.unusedSimpArgs false
set_option linter.unusedVariables false
set_option linter.unusedSectionVars false
namespace Go.Proofs.YtmhpgnndjagogaaGreat
namespace M
def cutF (A : Nat → Nat → Int) (S : Nat → Nat → Bool) (i j : Nat) : Int := if S j i then A i j else -1000000000000000
end M
namespace V
set_option maxRecDepth 100000
open Go.RowKit Go.Maps
set_option maxRecDepth 100000 in
set_option maxHeartbeats 4000000 in
theorem criticalPart (a : Option Addr) (n cap : Nat) (R : List (List Int)) (bm m0 : Nat) (S : Nat → Nat → Bool) (w : World) (h : Mat w a n R) (hr : Rect R n n) (n1 : 1 ≤ n) (n2 : n ≤ 10) (hI : IsArcs w bm n m0 S) :
    Calls Tryz.prog 154 #[.slice a n cap, .map (some bm)] w (MPost n (M.mk n n (M.cutF (M.ent R) S)) w) := by
  have HA := Lib.hid h
  have HR := Lib.hid hr
  have HI := Lib.hid hI
  have HRe : Hid (M.mk n n (M.midG (M.cutF (M.ent R) S) (M.ent R) 0 0) = R) := by
    show _ = _
    rw [M.midG_zero]
    have e := M.mk_self R n (fun i hi => hr.2 i (by rw [← hr.1]; exact hi))
    rw [hr.1] at e
    exact e
  clear h hr hI
  go_enter Tryz.func154, Tryz.ntmps154
  go_wp2_with fail
  refine (copiedMatrix _ _ _ R n _ HA.out HR.out n1 n2 n1 n2).mono ?_
  rintro e w2 ⟨a2, cap2, rfl, hO, hb⟩
  rw [← HRe.out] at hO
  obtain ⟨g, -, -, -, -, rfl, -⟩ := hO.tri (rect_mk _ _ _) 0 0 0 (by omega) (by omega) (by omega)
  have HO0 := Lib.hid hO
  have HB0 := Lib.hid hb
  clear hO hb
  go_wp2
  go_loopw [6, 7, 13] (fun _ _ i wr => ∃ s : Nat, s ≤ n ∧ i = .int .i64 s ∧ Hid (OwnM wr w.heap.size (.slice (some ⟨g, 0, none⟩) n cap2) (M.mk n n (M.midG (M.cutF (M.ent R) S) (M.ent R) s 0))) ∧ Hid (Below w.heap.size w wr)) (fun _ _ i _ => n - (intOf i).toNat)
  case atStart => exact ⟨0, Nat.zero_le _, rfl, HO0, HB0⟩
  case round =>
    obtain ⟨s, hs, rfl, HOs, HBs⟩ := hrel
    obtain ⟨wp, rfl⟩ : ∃ x, x = wr := ⟨_, rfl⟩
    clear HO0 HB0
    by_cases hsl : s < n
    · have hsi : (s : Int) < (n : Int) := by omega
      obtain ⟨g2, q, c, -, -, hgg, -, hrow, -⟩ := HOs.out.tri (rect_mk _ _ _) s 0 0 hsl (by omega) (by omega)
      injection hgg with hgg
      injection hgg with hgg
      subst hgg
      have HRow := Lib.hid hrow
      go_wp2
      clear hrow
      go_loopw [8, 20] (fun _ j wr => ∃ t : Nat, t ≤ n ∧ j = .int .i64 t ∧ Hid (wr.cell? ⟨g, s, none⟩ = some (.slice (some ⟨q, 0, none⟩) n c)) ∧ Hid (OwnM wr w.heap.size (.slice (some ⟨g, 0, none⟩) n cap2) (M.mk n n (M.midG (M.cutF (M.ent R) S) (M.ent R) s t))) ∧ Hid (Below w.heap.size w wr)) (fun _ j _ => n - (intOf j).toNat)
      case atStart => exact ⟨0, Nat.zero_le _, rfl, HRow, HOs, HBs⟩
      case round =>
        clear HOs HBs HRow
        obtain ⟨t, ht, rfl, HRt, HOt, HBt⟩ := hrel
        by_cases htl : t < n
        · have hti : (t : Int) < (n : Int) := by omega
          obtain ⟨g2, q2, c2, q', c', hgg, hq, h1, h2, -, h4, -, h6, ho⟩ := HOt.out.tri (rect_mk _ _ _) s t t hsl htl htl
          injection hgg with hgg
          injection hgg with hgg
          subst hgg
          rw [HRt.out] at h1
          injection h1 with h1
          injection h1 with h1 _ h1c
          injection h1 with h1
          injection h1 with h1
          subst h1
          clear h1c
          rw [M.ent_mk _ _ _ _ _ hsl htl, M.midG_at] at h2
          have hne := row_ne h2 h4
          have HLk := (HI.out.below HBt.out HI.out.lt).look n2 t s htl hsl
          obtain ⟨x, hx⟩ : ∃ x, x = S t s := ⟨_, rfl⟩
          rw [← hx] at HLk
          cases x with
          | true =>
            have e : M.cutF (M.ent R) S s t = M.ent R s t := by unfold M.cutF; rw [← hx, if_pos rfl]
            have HO3 : Hid (OwnM wr w.heap.size (.slice (some ⟨g, 0, none⟩) n cap2) (M.mk n n (M.midG (M.cutF (M.ent R) S) (M.ent R) s (t + 1)))) := by
              show OwnM _ _ _ _; rw [← M.midG_same _ _ _ _ _ e]; exact HOt.out
            clear e ho hx h4 h6
            go_wp2
            go_roundw
            case rel => exact ⟨t + 1, by omega, by go_num, HRt, HO3, HBt⟩
            case measure => simp [intOf]; omega
          | false =>
            have e : M.cutF (M.ent R) S s t = -1000000000000000 := by unfold M.cutF; rw [← hx]; rfl
            have hN := ho (-1000000000000000)
            rw [← e, M.midG_next _ _ _ _ _ hsl, e] at hN
            have HN5 := Lib.hid hN
            have HRn : Hid ((wr.setCell ⟨q, t, none⟩ (.int .i64 (-1000000000000000))).cell? ⟨g, s, none⟩ = some (.slice (some ⟨q, 0, none⟩) n c)) :=
              (World.cell?_of_block (w := wr) (a := ⟨g, s, none⟩) (Below.heap_setCell wr ⟨q, t, none⟩ _ g (fun e => hne e.symm))).trans HRt.out
            have hcr := HRt.out
            clear e ho hN hx h4
            go_wp2
            go_roundw
            case rel => exact ⟨t + 1, by omega, by go_num, HRn, HN5, HBt.out.setCell hq _⟩
            case measure => simp [intOf]; omega
        · obtain rfl : t = n := by omega
          have HO5 : Hid (OwnM wr w.heap.size (.slice (some ⟨g, 0, none⟩) t cap2) (M.mk t t (M.midG (M.cutF (M.ent R) S) (M.ent R) (s + 1) 0))) := by
            show OwnM _ _ _ _; rw [← M.midG_row_end]; exact HOt.out
          go_wp2
          go_roundw
          case rel => exact ⟨s + 1, by omega, by go_num, HO5, HBt⟩
          case measure => simp [intOf]; omega
    · obtain rfl : s = n := by omega
      have HO5 : Hid (OwnM wp w.heap.size (.slice (some ⟨g, 0, none⟩) s cap2) (M.mk s s (M.cutF (M.ent R) S))) := by
        show OwnM _ _ _ _; rw [← M.midG_end]; exact HOs.out
      go_wp2
      go_ret
      exact ⟨_, _, rfl, HO5.out, HBs.out⟩
theorem criticalArcs_no (a : Option Addr) (n cap : Nat) (R : List (List Int)) (w : World) (h : Mat w a n R) (hc : M.crCode R ≠ 0) :
    Calls Tryz.prog 85 #[.slice a n cap] w fun e w' => e = .returned (.tuple #[.map none, .int .i64 (M.crCode R)]) ∧ Below w.heap.size w w' := by
  have HA := Lib.hid h
  have hRn : R.length = n := h.1
  by_cases hs : M.sqB R = true
  · have HS := Lib.hid hs
    have HQ := Lib.hid (sq_of h hs)
    have HSm := Lib.hid (sq_parts h hs).2.2.2
    have hcy : M.hasCyc (M.ent R) n = false := by
      cases e : M.hasCyc (M.ent R) n with
      | false => rfl
      | true => exact absurd (M.cr_code_of hs (by rw [hRn]; exact e)) hc
    have HNo := Lib.hid hcy
    have HE : Hid (M.crCode R = 4) := by show _ = _; unfold M.crCode; rw [if_pos hs, hRn, hcy]; rfl
    clear h hs hc hRn hcy
    go_enter Tryz.func85, Tryz.ntmps85
    go_wp2_with fail
    refine (isSquare_b _ _ _ R _ true HS.out HA.out).mono ?_
    rintro e w' ⟨rfl, rfl⟩
    go_wp2_with fail
    refine (hasCycle _ _ _ R _ HQ.out HSm.out).mono ?_
    rintro e w1 ⟨rfl, hb⟩
    rw [HNo.out]
    have HB1 := Lib.hid hb
    clear hb
    go_wp2
    go_ret2
    rw [HE.out]
    exact ⟨rfl, HB1.out⟩
  · simp only [Bool.not_eq_true] at hs
    have HS := Lib.hid hs
    have HE : Hid (M.crCode R = 1) := by show _ = _; unfold M.crCode; rw [if_neg (by rw [hs]; exact Bool.false_ne_true)]
    clear h hs hc hRn
    go_enter Tryz.func85, Tryz.ntmps85
    go_wp2_with fail
    refine (isSquare_b _ _ _ R _ false HS.out HA.out).mono ?_
    rintro e w' ⟨rfl, rfl⟩
    go_wp2
    go_ret2
    rw [HE.out]
    exact ⟨rfl, Below.refl _ _⟩
end V
end Go.Proofs.YtmhpgnndjagogaaGreat

namespace Go.Proofs
open Go.Shelf
def Tryz.laysSlN43_f146_ren : Go.Shelf.Ren := ⟨fun | 43 => 146 | n => n, fun | 22 => 28 | 23 => 2 | 3 => 3 | 4 => 4 | 0 => 0 | n => n, fun | n => n⟩
theorem Tryz.laysSlN43_f146 : Go.Proofs.SlLaysN.n43 Tryz.prog Tryz.laysSlN43_f146_ren := {
  mixed := by kernel_rfl
  f43 := ⟨Tryz.f146.name, by decide, Tryz.func146.trans (congrArg some (by kernel_rfl))⟩
  t0 := Tryz.underlying0
  a0 := Tryz.isAgg0
  z0 := Tryz.sizeOf0
  v0 := Tryz.zeroValue0
  t3 := Tryz.underlying3
  a3 := Tryz.isAgg3
  z3 := Tryz.sizeOf3
  v3 := Tryz.zeroValue3
  t4 := Tryz.underlying4
  a4 := Tryz.isAgg4
  z4 := Tryz.sizeOf4
  v4 := Tryz.zeroValue4
  t22 := Tryz.underlying28
  a22 := Tryz.isAgg28
  z22 := Tryz.sizeOf28
  v22 := Tryz.zeroValue28
  t23 := Tryz.underlying2
  a23 := Tryz.isAgg2
  z23 := Tryz.sizeOf2
  v23 := Tryz.zeroValue2
  i23 := by kernel_rfl }
def Tryz.laysSlM5_f145_ren : Go.Shelf.Ren := ⟨fun | 5 => 145 | 8 => 176 | 7 => 175 | 19 => 193 | 20 => 194 | 10 => 184 | 11 => 185 | 12 => 186 | 13 => 187 | 14 => 188 | 15 => 189 | 16 => 190 | 17 => 191 | 18 => 192 | 30 => 199 | 31 => 200 | 32 => 201 | 33 => 202 | 34 => 203 | 35 => 174 | 40 => 206 | n => n, fun | 23 => 28 | 25 => 2 | 3 => 3 | 32 => 150 | 22 => 28 | 0 => 0 | 44 => 168 | 46 => 170 | 4 => 4 | 36 => 160 | 35 => 159 | 41 => 165 | 5 => 5 | 9 => 9 | 53 => 174 | 57 => 178 | 63 => 183 | 64 => 184 | n => n, fun | n => n⟩
theorem Tryz.laysSlM5_f145 : Go.Proofs.SlLaysM.n5 Tryz.prog Tryz.laysSlM5_f145_ren := {
  mixed := by kernel_rfl
  f5 := ⟨Tryz.f145.name, by decide, Tryz.func145.trans (congrArg some (by kernel_rfl))⟩
  f7 := ⟨Tryz.f175.name, by decide, Tryz.func175.trans (congrArg some (by kernel_rfl))⟩
  f8 := Tryz.func176.trans (congrArg some (by kernel_rfl))
  f10 := ⟨Tryz.f184.name, by decide, Tryz.func184.trans (congrArg some (by kernel_rfl))⟩
  f11 := ⟨Tryz.f185.name, by decide, Tryz.func185.trans (congrArg some (by kernel_rfl))⟩
  f12 := ⟨Tryz.f186.name, by decide, Tryz.func186.trans (congrArg some (by kernel_rfl))⟩
  f13 := ⟨Tryz.f187.name, by decide, Tryz.func187.trans (congrArg some (by kernel_rfl))⟩
  f14 := ⟨Tryz.f188.name, by decide, Tryz.func188.trans (congrArg some (by kernel_rfl))⟩
  f15 := ⟨Tryz.f189.name, by decide, Tryz.func189.trans (congrArg some (by kernel_rfl))⟩
  f16 := ⟨Tryz.f190.name, by decide, Tryz.func190.trans (congrArg some (by kernel_rfl))⟩
  f17 := ⟨Tryz.f191.name, by decide, Tryz.func191.trans (congrArg some (by kernel_rfl))⟩
  f18 := ⟨Tryz.f192.name, by decide, Tryz.func192.trans (congrArg some (by kernel_rfl))⟩
  f19 := Tryz.func193.trans (congrArg some (by kernel_rfl))
  f20 := Tryz.func194.trans (congrArg some (by kernel_rfl))
  f30 := ⟨Tryz.f199.name, by decide, Tryz.func199.trans (congrArg some (by kernel_rfl))⟩
  f31 := Tryz.func200.trans (congrArg some (by kernel_rfl))
  f32 := Tryz.func201.trans (congrArg some (by kernel_rfl))
  f33 := ⟨Tryz.f202.name, by decide, Tryz.func202.trans (congrArg some (by kernel_rfl))⟩
  f34 := ⟨Tryz.f203.name, by decide, Tryz.func203.trans (congrArg some (by kernel_rfl))⟩
  f35 := ⟨Tryz.f174.name, by decide, Tryz.func174.trans (congrArg some (by kernel_rfl))⟩
  f40 := ⟨Tryz.f206.name, by decide, Tryz.func206.trans (congrArg some (by kernel_rfl))⟩
  t0 := Tryz.underlying0
  a0 := Tryz.isAgg0
  z0 := Tryz.sizeOf0
  v0 := Tryz.zeroValue0
  t3 := Tryz.underlying3
  a3 := Tryz.isAgg3
  z3 := Tryz.sizeOf3
  v3 := Tryz.zeroValue3
  t4 := Tryz.underlying4
  a4 := Tryz.isAgg4
  z4 := Tryz.sizeOf4
  v4 := Tryz.zeroValue4
  t5 := Tryz.underlying5
  a5 := Tryz.isAgg5
  z5 := Tryz.sizeOf5
  v5 := Tryz.zeroValue5
  t9 := Tryz.underlying9
  a9 := Tryz.isAgg9
  z9 := Tryz.sizeOf9
  v9 := Tryz.zeroValue9
  t22 := Tryz.underlying28
  a22 := Tryz.isAgg28
  z22 := Tryz.sizeOf28
  v22 := Tryz.zeroValue28
  t23 := Tryz.underlying28
  a23 := Tryz.isAgg28
  z23 := Tryz.sizeOf28
  v23 := Tryz.zeroValue28
  t25 := Tryz.underlying2
  a25 := Tryz.isAgg2
  z25 := Tryz.sizeOf2
  v25 := Tryz.zeroValue2
  t32 := Tryz.underlying150
  a32 := Tryz.isAgg150
  z32 := Tryz.sizeOf150
  v32 := Tryz.zeroValue150
  t35 := Tryz.underlying159
  a35 := Tryz.isAgg159
  z35 := Tryz.sizeOf159
  v35 := Tryz.zeroValue159
  t36 := Tryz.underlying160
  a36 := Tryz.isAgg160
  z36 := Tryz.sizeOf160
  v36 := Tryz.zeroValue160
  t41 := Tryz.underlying165
  a41 := Tryz.isAgg165
  z41 := Tryz.sizeOf165
  v41 := Tryz.zeroValue165
  t44 := Tryz.underlying168
  a44 := Tryz.isAgg168
  z44 := Tryz.sizeOf168
  v44 := Tryz.zeroValue168
  t46 := Tryz.underlying170
  a46 := Tryz.isAgg170
  z46 := Tryz.sizeOf170
  v46 := Tryz.zeroValue170
  t53 := Tryz.underlying174
  a53 := Tryz.isAgg174
  z53 := Tryz.sizeOf174
  v53 := Tryz.zeroValue174
  t57 := Tryz.underlying178
  a57 := Tryz.isAgg178
  z57 := Tryz.sizeOf178
  v57 := Tryz.zeroValue178
  t63 := Tryz.underlying183
  a63 := Tryz.isAgg183
  z63 := Tryz.sizeOf183
  v63 := Tryz.zeroValue183
  t64 := Tryz.underlying184
  a64 := Tryz.isAgg184
  z64 := Tryz.sizeOf184
  v64 := Tryz.zeroValue184 }
open Go.RowKit Go.Lib Go.Sort in
theorem Tryz.slices_Compact_int (blk off cap : Nat) (zs : List Int) (w : World) (hH : Holds (Value.int .i64) w blk off zs.toArray) (hsz : zs.length ≤ 9223372036854775807) (hcap : zs.length ≤ cap) :
    Calls Tryz.prog 146 #[.slice (some ⟨blk, off, none⟩) zs.length cap] w fun e w' => e = .returned (.slice (some ⟨blk, off, none⟩) (Lib.compact zs).length cap) ∧ ∃ q, w' = putRow (Value.int .i64) (Sort.ahead w q) blk off (Lib.compact zs ++ List.replicate (zs.length - (Lib.compact zs).length) 0).toArray := AnyG.slices_Compact_int Tryz.laysSlN43_f146 blk off cap zs w hH hsz hcap
open Go.RowKit Go.Lib Go.Sort in
theorem Tryz.slices_Compact_int_empty (a : Option Addr) (cap : Nat) (w : World) :
    Calls Tryz.prog 146 #[.slice a 0 cap] w fun e w' => e = .returned (.slice a 0 cap) ∧ w' = w := AnyG.slices_Compact_int_empty Tryz.laysSlN43_f146 a cap w
open Go.RowKit Go.Lib Go.Sort in
theorem Tryz.slices_Sort_int (blk off cap : Nat) (zs : List Int) (w : World) (hH : Holds (Value.int .i64) w blk off zs.toArray) (hblk : blk < w.heap.size) (hsz : zs.length < 4611686018427387904) :
    Calls Tryz.prog 145 #[.slice (some ⟨blk, off, none⟩) zs.length cap] w fun e w' =>
      e = .returned (.tuple #[]) ∧ ∃ n os, w' = grow (putRow (Value.int .i64) (Sort.ahead w n) blk off (zs.mergeSort fun x y => decide (x ≤ y)).toArray) os := AnyM.slices_Sort_int Tryz.laysSlM5_f145 blk off cap zs w hH hblk hsz
open Go.RowKit Go.Lib Go.Sort in
theorem Tryz.slices_Sort_int_none (p : Option Addr) (cap : Nat) (w : World) :
    Calls Tryz.prog 145 #[.slice p 0 cap] w fun e w' => e = .returned (.tuple #[]) ∧ w' = w := AnyM.slices_Sort_int_none Tryz.laysSlM5_f145 p cap w
end Go.Proofs

namespace Go.Proofs.YtmhpgnndjagogaaGreat.V
set_option maxRecDepth 100000
open Go.RowKit Go.Maps Go.Sort
theorem putRow_grow0 (w : World) (g off q : Nat) (d : Array Int) : putRow (Value.int .i64) (Sort.ahead w q) g off d = Sort.grow (putRow (Value.int .i64) (Sort.ahead w q) g off d) #[] := by
  unfold Sort.grow putRow mapBlock Sort.ahead
  simp
set_option maxRecDepth 100000 in
set_option maxHeartbeats 400000 in
theorem sortInts (B : Nat) (b : Option Addr) (c : Nat) (l : List Int) (w : World) (h : Own w B (.slice b l.length c) l) (hl : l.length ≤ 1000) :
    Calls Tryz.prog 145 #[.slice b l.length c] w fun e w' => e = .returned (.tuple #[]) ∧ Own w' B (.slice b l.length c) (l.mergeSort fun x y => decide (x ≤ y)) ∧ w.grownBy w' (Value.slice b l.length c).ownBlock := by
  by_cases h0 : l.length = 0
  · obtain rfl : l = [] := List.eq_nil_of_length_eq_zero h0
    refine (Tryz.slices_Sort_int_none b c w).mono ?_
    rintro e w' ⟨rfl, rfl⟩
    exact ⟨rfl, by simpa using h, ⟨rfl, rfl, rfl, Nat.le_refl _, fun _ _ _ => rfl⟩⟩
  · rcases h.2 with ⟨-, hn⟩ | ⟨g, cap, cur, hv, hbase, hb, h1, h2, h3, h4⟩
    · exact absurd hn h0
    · injection hv with e1 e2 e3
      subst e1 e3
      rw [Nat.mul_one] at h4
      refine (Tryz.slices_Sort_int g 0 c l w (holds_of_blockI hb h4) (Array.getElem?_eq_some_iff.1 hb).1 (by omega)).mono ?_
      rintro e w' ⟨rfl, nn, os, rfl⟩
      have hlen : (l.mergeSort fun x y => decide (x ≤ y)).length = l.length := by simp
      refine ⟨rfl, ?_, grownBy_sortedI _⟩
      show World.ownsRow _ _ _ _ _ (List.mergeSort _ _).length _
      rw [hlen]
      exact ownsRow_sortedI hlen hbase hb h1 h2 h3
set_option maxRecDepth 100000 in
set_option maxHeartbeats 400000 in
theorem compactInts (B : Nat) (b : Option Addr) (c : Nat) (l : List Int) (w : World) (h : Own w B (.slice b l.length c) l) (hl : l.length ≤ 1000) :
    Calls Tryz.prog 146 #[.slice b l.length c] w fun e w' => e = .returned (.slice b (Lib.compact l).length c) ∧ Own w' B (.slice b (Lib.compact l).length c) (Lib.compact l) ∧ w.grownBy w' (Value.slice b l.length c).ownBlock := by
  by_cases h0 : l.length = 0
  · obtain rfl : l = [] := List.eq_nil_of_length_eq_zero h0
    refine (Tryz.slices_Compact_int_empty b c w).mono ?_
    rintro e w' ⟨rfl, rfl⟩
    have e0 : Lib.compact ([] : List Int) = [] := by simp [Lib.compact, Lib.compactUpTo]
    rw [e0]
    exact ⟨rfl, h, ⟨rfl, rfl, rfl, Nat.le_refl _, fun _ _ _ => rfl⟩⟩
  · rcases h.2 with ⟨-, hn⟩ | ⟨g, cap, cur, hv, hbase, hb, h1, h2, h3, h4⟩
    · exact absurd hn h0
    · injection hv with e1 e2 e3
      subst e1 e3
      rw [Nat.mul_one] at h4
      have hcl := Lib.compact_length_le l
      refine (Tryz.slices_Compact_int g 0 c l w (holds_of_blockI hb h4) (by omega) h1).mono ?_
      rintro e w' ⟨rfl, q, rfl⟩
      have hlen : (Lib.compact l ++ List.replicate (l.length - (Lib.compact l).length) 0).length = l.length := by simp; omega
      refine ⟨rfl, ?_, ?_⟩
      · rw [putRow_grow0]
        have ho := ownsRow_sortedI (w := w) (n := q) (os := #[]) (ss := l) (ts := Lib.compact l ++ List.replicate (l.length - (Lib.compact l).length) 0) hlen hbase hb h1 h2 h3
        rcases ho.2 with ⟨he, -⟩ | ⟨g', cap', cur', hv', hb1, hb2, hb3, hb4, hb5, hb6⟩
        · cases he
        · injection hv' with e1 e2 e3
          injection e1 with e1
          injection e1 with e1
          subst e1 e3
          refine ⟨by simp, .inr ⟨g, c, cur', rfl, hb1, hb2, by omega, hb4, hb5, ?_⟩⟩
          have hk := congrArg (List.take (Lib.compact l).length) hb6
          have hz : List.take (Lib.compact l).length (List.map (Value.int .i64) (Lib.compact l)) = List.map (Value.int .i64) (Lib.compact l) := List.take_of_length_le (by simp)
          rw [List.take_take, Nat.min_eq_left (by omega), List.map_append, List.take_append_of_le_length (by simp), hz] at hk
          rw [Nat.mul_one]
          exact hk
      · rw [putRow_grow0]; exact grownBy_sortedI _
theorem append1A (w : World) {ops : Array Oper} {rest : List Oper} {o : Oper} {a : Act} {Q : Exit → Act → World → Prop} (hgd : o.guard = none) (s x : Operand)
    (ho : o.op = .call { callee := .builtin .append, args := #[s, x], argTypes := #[28, 28] }) (B : Nat) (v : Value) (l : List Int) (y : Int) (n : Nat) (hn : l.length = n) (hs : a.eval s = v) (hown : Own w B v l)
    {A : Nat} (hx : a.eval x = .slice (some ⟨A, 0, none⟩) 1 1) (hA : A = w.heap.size) (hlen : l.length ≤ 2000000) (hB : B ≤ w.heap.size)
    (h : ∀ b' c' w', Own w' B (.slice b' (n + 1) c') (l ++ [y]) → Below B w w' → wpList Tryz.prog ops Q rest (a.put o.dst (.slice b' (n + 1) c')) w') :
    wpList Tryz.prog ops Q (o :: rest) a (w.alloc (.cells #[.int .i64 y] 2)) :=
  append1 w hgd s x ho B v l y n hn hs hown (by rw [hx, hA]) hlen hB fun b' c' w' h1 h2 _ => h b' c' w' h1 h2
set_option maxRecDepth 100000 in
set_option maxHeartbeats 4000000 in
theorem criticalNodes (n m b : Nat) (S : Nat → Nat → Bool) (w : World) (hI : IsArcs w b n m S) (n2 : n ≤ 10) (hm : m ≤ 100) :
    Calls Tryz.prog 87 #[.map (some b)] w fun e w' => ∃ (bb : Option Addr) (c : Nat) (l : List Int), e = .returned (.slice bb l.length c) ∧ Own w' w.heap.size (.slice bb l.length c) l ∧ (∃ ss : List Int, l = Lib.compact (ss.mergeSort fun x y => decide (x ≤ y)) ∧ ∀ x, x ∈ ss ↔ ∃ f t : Nat, f < n ∧ t < n ∧ S f t = true ∧ x = f) ∧ Below w.heap.size w w' := by
  have HI := Lib.hid hI
  have hbl := hI.lt
  clear hI
  go_enter Tryz.func87, Tryz.ntmps87
  go_wp2_with (first | (at_range; refine wpList_rangeA _ rfl _ rfl b n m S rfl HI.out ?_; intro w0 cnt hr hcm hg hz))
  go_frame
  have HR0 := Lib.hid hr
  have HG0 := Lib.hid hg
  have HZ0 := Lib.hid hz
  have HB0 : Hid (Below w.heap.size w w0) := (Below.refl _ _).grown hg (Nat.le_refl _) (fun j hj => by cases hj)
  clear hr hg hz
  go_loopw [3, 4] (fun sv _ wr => ∃ (L : Nat → Nat → Bool) (ss : List Int) (k : Nat) (bb : Option Addr) (c : Nat), sv = .slice bb ss.length c ∧ Hid (RngA wr b w.heap.size n m S L k) ∧ Hid (Own wr (w.heap.size + 1) (.slice bb ss.length c) ss) ∧ ss.length + k ≤ 100 ∧ Hid (∀ x, x ∈ ss ↔ ∃ f t : Nat, f < n ∧ t < n ∧ S f t = true ∧ L f t = false ∧ x = f) ∧ Hid (Below w.heap.size w wr) ∧ w.heap.size + 1 ≤ wr.heap.size) (fun _ _ wr => wr.rangeLeft b w.heap.size)
  case atStart =>
    exact ⟨S, [], cnt, none, 0, rfl, HR0, own_nil _ _, by simp; omega, fun x => ⟨fun h => by simp at h, fun ⟨f, t, _, _, h1, h2, _⟩ => by rw [h1] at h2; cases h2⟩, HB0, by rw [HZ0.out]; exact Nat.le_refl _⟩
  case round =>
    obtain ⟨L, ss, k, bb, c, rfl, HR, HO, hk, HM, HB, hsz⟩ := hrel
    clear HR0 HG0 HB0
    go_wp2_with (first | (at_next; refine wpList_nextA _ rfl _ rfl b _ n m S L k n2 rfl HR.out ?_ ?_))
    · intro hl0
      have HMs : Hid (∀ x, x ∈ ss ↔ ∃ f t : Nat, f < n ∧ t < n ∧ S f t = true ∧ x = f) := fun x => (HM.out x).trans ⟨fun ⟨f, t, h1, h2, h3, _, h5⟩ => ⟨f, t, h1, h2, h3, h5⟩, fun ⟨f, t, h1, h2, h3, h5⟩ => ⟨f, t, h1, h2, h3, hl0 f t h1 h2, h5⟩⟩
      have HOb : Hid (∀ j, (Value.slice bb ss.length c).ownBlock = some j → w.heap.size ≤ j) := fun j hj => by have := (own_lt HO.out hj).1; omega
      clear hl0
      go_wp2_with fail
      refine (sortInts (w.heap.size + 1) bb c ss _ HO.out (by omega)).mono ?_
      rintro e w1 ⟨rfl, ho, hg1⟩
      have hlen : (ss.mergeSort fun x y => decide (x ≤ y)).length = ss.length := by simp
      have HB1 := Lib.hid (HB.out.grown hg1 (by omega) (fun j hj => HOb.out j hj))
      have hz1 : w.heap.size ≤ w1.heap.size := HB1.out.size
      have hcc := compactInts (w.heap.size + 1) bb c (ss.mergeSort fun x y => decide (x ≤ y)) w1 (by rw [hlen]; exact ho) (by rw [hlen]; omega)
      rw [hlen] at hcc
      have HCC := Lib.hid hcc
      clear hcc hlen ho hg1
      go_wp2_with fail
      refine HCC.out.mono ?_
      rintro e w2 ⟨rfl, ho2, hg2⟩
      have HO2 := Lib.hid (ho2.mono (B' := w.heap.size) (by omega))
      have HB2 := Lib.hid (HB1.out.grown hg2 hz1 (fun j hj => HOb.out j hj))
      clear ho2 hg2
      go_wp2
      go_ret
      exact ⟨bb, c, _, rfl, HO2.out, ⟨ss, rfl, HMs.out⟩, HB2.out⟩
    · intro f t w1 k1 hf ht hl hs hr1 hlt hg1 hs1 hen
      have HR1 := Lib.hid hr1
      have HOb : Hid (Own (w1.alloc (.cells #[.int .i64 (f : Int), .int .i64 (t : Int)] 133)) (w.heap.size + 1) (.slice bb ss.length c) ss) := by
        show Own _ _ _ _
        refine (HO.out.keep (w' := w1) fun j h1 h2 => hg1.block j h2 (by intro e; injection e with e; omega)).below (b_alloc _ _)
      have HB1 := Lib.hid (HB.out.grown hg1 (by omega) (fun j hj => by cases hj; exact Nat.le_refl _))
      have HLt := Lib.hid hlt
      have HMs : Hid (∀ x, x ∈ ss ++ [(f : Int)] ↔ ∃ f' t' : Nat, f' < n ∧ t' < n ∧ S f' t' = true ∧ strike L f t f' t' = false ∧ x = f') := fun x => by
        rw [List.mem_append, HM.out x, List.mem_singleton]
        constructor
        · rintro (⟨f', t', h1, h2, h3, h4, h5⟩ | rfl)
          · exact ⟨f', t', h1, h2, h3, by unfold strike; rw [h4]; rfl, h5⟩
          · exact ⟨f, t, hf, ht, hs, by unfold strike; simp, rfl⟩
        · rintro ⟨f', t', h1, h2, h3, h4, h5⟩
          unfold strike at h4
          by_cases hq : f' = f ∧ t' = t
          · right; rw [h5, hq.1]
          · left
            refine ⟨f', t', h1, h2, h3, ?_, h5⟩
            have : (decide (f' = f) && decide (t' = t)) = false := by
              by_cases p1 : f' = f
              · by_cases p2 : t' = t
                · exact absurd ⟨p1, p2⟩ hq
                · simp [p2]
              · simp [p1]
            rw [this] at h4
            simpa using h4
      have HS1 := Lib.hid hs1
      have hszA : w.heap.size + 1 ≤ (w1.alloc (.cells #[.int .i64 (f : Int), .int .i64 (t : Int)] 133)).heap.size := by simp; omega
      have HSzA := Lib.hid hszA
      clear hr1 hg1 hs1 hl hs hlt hszA
      go_wp2_with (at_builtin; refine append1A _ rfl (.tmp 11) (.tmp 14) rfl (w.heap.size + 1) _ ss (f : Int) _ rfl rfl HOb.out rfl (by simp) (by omega) HSzA.out ?_)
      intro b4 c4 w4 hO4 hb4
      have HO4 := Lib.hid hO4
      have hb5 : Below (w.heap.size + 1) w1 w4 := ((b_alloc w1 (.cells #[.int .i64 (f : Int), .int .i64 (t : Int)] 133)).mono (by have := HS1.out; omega)).trans hb4
      have HR4 := Lib.hid (HR1.out.blocks (hb5.block b (by omega)) (hb5.block w.heap.size (by omega)))
      have HB4 := Lib.hid (HB1.out.trans (hb5.mono (by omega)))
      have hsz4 : w.heap.size + 1 ≤ w4.heap.size := by have := hb5.size; have := HS1.out; omega
      have hk1 : (ss ++ [(f : Int)]).length + k1 ≤ 100 := by rw [List.length_append]; have := HLt.out; simp; omega
      clear hO4 hb4 hb5 hen
      go_wp2
      go_roundw
      case rel => exact ⟨strike L f t, ss ++ [(f : Int)], k1, b4, c4, by rw [List.length_append]; rfl, HR4, by show Own _ _ _ _; rw [List.length_append]; exact HO4.out, hk1, HMs, HB4, hsz4⟩
      case measure => rw [HR4.out.left_eq, HR.out.left_eq]; exact HLt.out
set_option maxRecDepth 100000 in
set_option maxHeartbeats 400000 in
/-- .. of no map. -/
theorem criticalNodes_nil (w : World) :
    Calls Tryz.prog 87 #[.map none] w fun e w' => e = .returned (.slice none 0 0) ∧ Below w.heap.size w w' := by
  have hr := run_range_nilMap (P := Tryz.prog) w 87 133 4 Tryz.underlying87
  have hn := fun ty => run_next_nilMap (P := Tryz.prog) w ty 0 0 #[]
  go_enter Tryz.func87, Tryz.ntmps87
  go_wp2
  refine wp_loop_rounds 1 ?_
  rw [rounds_succ]
  go_wp2_with fail
  refine (Tryz.slices_Sort_int_none none 0 _).mono ?_
  rintro e w1 ⟨rfl, rfl⟩
  go_wp2_with fail
  refine (Tryz.slices_Compact_int_empty none 0 _).mono ?_
  rintro e w2 ⟨rfl, rfl⟩
  go_wp2
  go_ret
  exact ⟨rfl, b_alloc _ _⟩
end Go.Proofs.YtmhpgnndjagogaaGreat.V

namespace Go.Proofs.YtmhpgnndjagogaaGreat
namespace M
theorem kept_ids (L : List (List Int)) (p : List Int → Bool) (k : Nat) : kept (fun i => p (L.getD i [])) k = idsK L p k := rfl
theorem cut_crM {R : List (List Int)} {n : Nat} (hn : R.length = n) : mk n n (cutF (ent R) (crB R)) = crM R := by subst hn; rfl
theorem comps_one {A : Nat → Nat → Int} {n : Nat} (h : 1 ≤ n) : 1 ≤ (compsL A n).length := by
  obtain ⟨L, e, -⟩ := compsL_first (A := A) h
  rw [e]; simp
end M
namespace V
set_option maxRecDepth 100000
open Go.RowKit
set_option maxRecDepth 100000 in
set_option maxHeartbeats 1000000 in
theorem compDel (nb : Nat) (b3 : Option Addr) (N c3 : Nat) (ns : List Int) (ra : Option Addr) (m rc : Nat) (l : List Int) (t : Bool) (w : World) (hc : w.cell? ⟨nb, 0, none⟩ = some (.slice b3 N c3)) (hns : Ints .i64 w b3 N ns) (hl : Ints .i64 w ra m l) (hm : 1 ≤ m) (ht : M.hasB ns (l.getD 0 0) = t) :
    Calls Tryz.prog 155 #[.slice ra m rc, .pointer (some ⟨nb, 0, none⟩)] w fun e w' => e = .returned (.bool (!t)) ∧ ∃ q, w' = w.drewN q := by
  obtain ⟨q, qo, x0, hra, -, hx0, cx0⟩ := hl.at 0 (by omega)
  subst hra
  rw [Nat.add_zero] at cx0
  rw [← hx0] at ht
  have HC : Hid (∀ q, Calls Tryz.prog 78 #[.slice b3 N c3, .int .i64 x0] (w.drewN q) fun e w' => e = .returned (.bool t) ∧ (w.drewN q) = w') := fun q => containsI b3 N c3 ns x0 t _ (hns.below (b_draws _ _)) (by rw [← ht]; exact M.hasB_iff)
  have hm0 : (0 : Int) < (m : Int) := by omega
  clear hns hl hx0 ht
  go_enter Tryz.func155, Tryz.ntmps155
  go_wp2
  go_quiet ((go_at_call 78; exact q_one_s (HC.out _)))
  go_wp2
  go_ret
  exact ⟨rfl, _, rfl⟩
set_option maxRecDepth 100000 in
set_option maxHeartbeats 4000000 in
theorem criticalComponents (a : Option Addr) (n cap : Nat) (R : List (List Int)) (bm m : Nat) (w : World) (h : Mat w a n R) (hs : M.sqB R = true) (hI : IsArcs w bm n m (M.crB R)) (hm : m ≤ 100) :
    Calls Tryz.prog 94 #[.slice a n cap, .map (some bm)] w fun e w' => ∃ b mm c, e = .returned (.slice b mm c) ∧ OwnM w' w.heap.size (.slice b mm c) (M.crComps R) ∧ Below w.heap.size w w' := by
  have HA := Lib.hid h
  have HRn := Lib.hid h.1
  have HI := Lib.hid hI
  have hbl := hI.lt
  obtain ⟨hr, n1, n2, -⟩ := sq_parts h hs
  have HR := Lib.hid hr
  have HSm := Lib.hid (M.crM_sm hs h.1)
  have HRc : Hid (Rect (M.crM R) n n) := by show Rect _ _ _; rw [← h.1]; exact rect_mk _ _ _
  have HCut := Lib.hid (M.cut_crM h.1)
  clear h hs hr hI
  go_enter Tryz.func94, Tryz.ntmps94
  go_wp2_with fail
  refine (criticalNodes n m bm _ _ HI.out n2 hm).mono ?_
  rintro e w1 ⟨b1, c1, l, rfl, ho, ⟨ss, hl, hss⟩, hb⟩
  have hN : l = M.nodesL R := by rw [hl]; exact M.srt_nodes fun x => by rw [HRn.out]; exact hss x
  subst hN
  clear hl hss
  have HO1 := Lib.hid ho
  have HB1 := Lib.hid hb
  have hz1 := hb.size
  clear ho hb
  obtain ⟨wb, hwb⟩ : ∃ x, x = w1.alloc (.cells #[.slice b1 (M.nodesL R).length c1] 28) := ⟨_, rfl⟩
  have HX : Hid (wb.cell? ⟨w1.heap.size, 0, none⟩ = some (.slice b1 (M.nodesL R).length c1) ∧ wb.heap.size = w1.heap.size + 1 ∧ Below w1.heap.size w1 wb) := by
    show _ ∧ _
    rw [hwb]
    exact ⟨by simp [go_sem], by simp, b_alloc _ _⟩
  have HBb := Lib.hid (HB1.out.trans (HX.out.2.2.mono hz1))
  have hzb : w.heap.size ≤ wb.heap.size := HBb.out.size
  go_wp2_with fail
  rw [← hwb]
  clear hwb
  refine (criticalPart _ _ _ R bm m _ _ (HA.out.below HBb.out) HR.out n1 n2 (HI.out.below HBb.out hbl)).mono ?_
  rintro e w2 ⟨b2, c2, rfl, ho, hb⟩
  rw [HCut.out] at ho
  have HQ2 : Hid (Sq w2 b2 n (M.crM R)) := ⟨ho.mat, HRc.out, fun i j hi hj => M.sm_wide (HSm.out i j hi hj), n1, n2⟩
  have HB2 := Lib.hid hb
  have hz2 : wb.heap.size ≤ w2.heap.size := hb.size
  clear ho hb
  go_wp2_with fail
  refine (componentsOf _ _ _ (M.crM R) _ HQ2.out).mono ?_
  rintro e w3 ⟨b3, m3, c3, rfl, ho, hb⟩
  have hm3 := ho.len
  have hone := M.comps_one (A := M.ent (M.crM R)) n1
  have hln : (M.compsL (M.ent (M.crM R)) n).length ≤ n := M.compsP_len _ _ _
  have HRow := Lib.hid (fun k (hk : k < (M.compsL (M.ent (M.crM R)) n).length) => M.crRow HRn.out hk)
  have HEnd := Lib.hid (M.crComps_ids HRn.out)
  have HB3 := Lib.hid hb
  have hz3 : w2.heap.size ≤ w3.heap.size := hb.size
  obtain ⟨V, hV⟩ := ho
  have hcap : (M.compsL (M.ent (M.crM R)) n).length ≤ c3 := by
    obtain ⟨a', c', hv, hc, -⟩ := own_form hV.2.1
    injection hv with e1 e2 e3
    omega
  generalize M.compsL (M.ent (M.crM R)) n = L at *
  subst hm3
  obtain ⟨g, -, -, hg3, -⟩ := hV.cell 0 (by omega)
  subst hg3
  have hgB := own_lt hV.2.1 (k := g) rfl
  have HV := Lib.hid hV
  have HNd : Hid (Own w3 w.heap.size (.slice b1 (M.nodesL R).length c1) (M.nodesL R)) := by
    show Own _ _ _ _
    exact ((HO1.out.below HX.out.2.2).below (HB2.out)).below (HB3.out)
  have hcell3 : w3.cell? ⟨w1.heap.size, 0, none⟩ = some (.slice b1 (M.nodesL R).length c1) := by
    have hx2 := HX.out.2.1
    rw [HB3.out.cell (p := ⟨w1.heap.size, 0, none⟩) (by show w1.heap.size < _; omega), HB2.out.cell (p := ⟨w1.heap.size, 0, none⟩) (by show w1.heap.size < _; omega)]
    exact HX.out.1
  have HD := Lib.hid (deleteF w2.heap.size g L.length c3 (.pointer (some ⟨w1.heap.size, 0, none⟩)) V (fun i => M.crPick R (L.getD i [])) w3 (by omega) hV.2.1 hcap (fun k hk => by
      obtain ⟨g', ra, rc, -, hv, -⟩ := hV.cell k hk
      exact ⟨ra, _, rc, hv⟩) (fun W k hk hc => by
      obtain ⟨g', ra, rc, -, hv, -⟩ := hV.cell k hk
      have hro : Own W w2.heap.size (.slice ra (L.getD k []).length rc) (L.getD k []) := by
        rw [← hv]
        exact (hV.2.2.1 k hk).chg hc fun kk e1 e2 => hV.2.2.2.1 k hk kk e1 (by rw [e2]; rfl)
      have hno : Own W w.heap.size (.slice b1 (M.nodesL R).length c1) (M.nodesL R) := HNd.out.chg hc fun kk e1 e2 => by
        have h1 := own_lt HO1.out e1
        have hx2 := HX.out.2.1
        have e3 : kk = g := e2
        omega
      rw [hv]
      obtain ⟨r1, r2⟩ := HRow.out k hk
      refine compDel w1.heap.size b1 _ c1 (M.nodesL R) ra _ rc (L.getD k []) _ W ?_ hno.ints' hro.ints' r1 r2
      rw [← hcell3]
      have hx2 := HX.out.2.1
      exact World.cell?_of_block (hc.other w1.heap.size (by omega))))
  clear hV hcell3
  have hb3 : Below wb.heap.size wb w3 := HB2.out.trans (HB3.out.mono hz2)
  have HBz := Lib.hid (HBb.out.trans (hb3.mono hzb))
  clear hb3
  go_wp2_with fail
  refine (HD.out).mono ?_
  rintro e w4 ⟨rfl, ho, hc⟩
  rw [M.kept_ids] at ho ⊢
  have HP : Hid (OwnM w4 w.heap.size (.slice (some ⟨g, 0, none⟩) (M.idsK L (M.crPick R) L.length).length c3) (M.crComps R)) := by
    show OwnM _ _ _ _
    rw [← HEnd.out]
    refine OwnM.mono (B := w2.heap.size) ⟨_, OwnV.pick HV.out _ (M.idsK_up _ _ _) (fun i hi => M.idsK_lt hi) ho fun i kk hi e => ?_⟩ (by omega)
    have hlt := own_lt (HV.out.2.2.1 i hi) e
    have hne := HV.out.2.2.2.1 i hi kk e
    exact ⟨hc.other kk fun e2 => hne (by rw [e2]; rfl), hlt.1, hne⟩
  have HB4 := Lib.hid (HBz.out.trans (hc.below (B := w.heap.size) fun k hk => by have e3 : k = g := hk; omega))
  clear ho hc
  generalize (M.idsK L (M.crPick R) L.length).length = mm at *
  go_wp2
  go_ret
  exact ⟨_, _, _, rfl, HP.out, HB4.out⟩
set_option maxRecDepth 100000 in
set_option maxHeartbeats 1000000 in
theorem criticalComponentsX (a : Option Addr) (n cap : Nat) (R : List (List Int)) (w : World) (h : Mat w a n R) :
    Calls Tryz.prog 39 #[.slice a n cap] w (MRes (M.compRes R) w) := by
  have HA := Lib.hid h
  by_cases hc : M.crCode R = 0
  · obtain ⟨h1, h2⟩ := M.cr_code hc
    have H1 := Lib.hid h1
    have H2 := Lib.hid h2
    have HE : Hid (M.compRes R = (M.crComps R, 0)) := by show _ = _; unfold M.compRes; rw [if_pos hc]
    clear h hc h1 h2
    go_enter Tryz.func39, Tryz.ntmps39
    go_wp2_with fail
    refine (criticalArcs _ _ _ R _ HA.out H1.out H2.out).mono ?_
    rintro e w1 ⟨b1, m1, rfl, -, hm1, hI, hb⟩
    have HI := Lib.hid hI
    have HB := Lib.hid hb
    clear hI hb
    go_wp2_with fail
    refine (criticalComponents _ _ _ R _ _ _ (HA.out.below HB.out) H1.out HI.out hm1).mono ?_
    rintro e w2 ⟨b2, m2, c2, rfl, ho, hb⟩
    have HO := Lib.hid (ho.mono HB.out.size)
    have HB2 := Lib.hid (HB.out.trans (hb.mono HB.out.size))
    clear ho hb
    go_wp2
    go_ret2
    rw [HE.out]
    exact ⟨_, _, _, rfl, HO.out, HB2.out⟩
  · have HC := Lib.hid hc
    obtain ⟨k, hk⟩ : ∃ k, k = M.crCode R := ⟨_, rfl⟩
    have HE : Hid (M.compRes R = ([], k)) := by show _ = _; unfold M.compRes; rw [if_neg hc, hk]
    have HK := Lib.hid hk
    have hk0 : (k != 0) = true := by rw [hk]; simpa using hc
    clear h hc hk
    go_enter Tryz.func39, Tryz.ntmps39
    go_wp2_with fail
    refine (criticalArcs_no _ _ _ R _ HA.out HC.out).mono ?_
    rintro e w1 ⟨rfl, hb⟩
    rw [← HK.out]
    have HB := Lib.hid hb
    clear hb
    go_wp2
    go_ret2
    exact MRes.nil HE.out HB.out
end V
end Go.Proofs.YtmhpgnndjagogaaGreat

namespace Go.Proofs.YtmhpgnndjagogaaGreat
namespace V
set_option maxRecDepth 100000
open Go.RowKit
theorem row_nil (w : World) (B : Nat) : w.ownsRow B 28 1 (.slice none 0 0) 0 [] := ⟨rfl, .inl ⟨rfl, rfl⟩⟩
set_option maxRecDepth 100000 in
set_option maxHeartbeats 1000000 in
theorem eigenColumns (a : Option Addr) (n cap : Nat) (R : List (List Int)) (w : World) (h : Mat w a n R) :
    Calls Tryz.prog 42 #[.slice a n cap] w (MRes (M.colsRes R) w) := by
  have HA := Lib.hid h
  by_cases hk : M.crCode R = 0
  · obtain ⟨hs, hc⟩ := M.cr_code hk
    have hRn : R.length = n := h.1
    have HRn := Lib.hid hRn
    have HQ := Lib.hid (sq_of h hs)
    have HCr : Hid (M.compRes R = (M.crComps R, 0)) := by show _ = _; unfold M.compRes; rw [if_pos hk]
    have HE : Hid (M.colsRes R = if (M.colsL R).all M.isVec then (M.colsL R, 0) else ([], 3)) := by show _ = _; unfold M.colsRes; rw [if_pos hk]
    obtain ⟨hr, n1, n2, hsm⟩ := sq_parts h hs
    have HR := Lib.hid hr
    have HSm := Lib.hid hsm
    obtain ⟨hnear, -, hp⟩ := M.cr_t hs hc
    have hS : M.crS R = M.shf (M.ent R) (M.bestR (M.ent R) n).1 (M.bestR (M.ent R) n).2 := by
      funext i j; unfold M.crS; rw [hRn]
    have HCol := Lib.hid (fun k (hk : k < (M.crComps R).length) => M.col_at hRn hk)
    have HCl := Lib.hid (M.colsL_len R)
    have HCm : Hid ((M.crComps R).length ≤ n) := by show _; rw [← hRn]; exact M.crComps_len R
    have HMt := Lib.hid (M.cols_mat hs hc)
    have HUp := Lib.hid (M.colIds_up R)
    have HLt : Hid (∀ i, i ∈ M.colIds R → i < n) := fun i hi => by rw [← hRn]; exact M.colIds_lt hi
    have HCd : Hid (M.colsL R = (M.colIds R).map fun i => (M.stcM (M.crS R) n).getD i []) := by show _ = _; unfold M.colsL; rw [hRn]
    have HIl : Hid ((M.colIds R).length = (M.crComps R).length) := by show _ = _; unfold M.colIds; simp
    rw [hRn] at hc hnear hp
    obtain ⟨r, hrr⟩ : ∃ r, r = M.bestR (M.ent R) n := ⟨_, rfl⟩
    rw [← hrr] at hnear hS
    rw [hS] at hp
    have HSe := Lib.hid hS
    have HNear := Lib.hid hnear
    have HP := Lib.hid hp
    have HRr := Lib.hid hrr
    have HCy := Lib.hid hc
    obtain ⟨r1, r2⟩ := r
    clear h hk hs hr hsm hc hnear hp hrr hS hRn
    go_enter Tryz.func42, Tryz.ntmps42
    go_wp2_with fail
    refine (criticalComponentsX _ _ _ R _ HA.out).mono ?_
    rintro e w1 ⟨b1, m1, c1, rfl, ho, hb⟩
    rw [HCr.out] at ho ⊢
    have HM1 : Hid (m1 = (M.crComps R).length) := ho.len
    have HL1 : Hid (Mat w1 b1 m1 (M.crComps R)) := ho.mat
    have HB1 := Lib.hid hb
    clear ho hb
    go_wp2_with fail
    refine (powerMean _ _ _ R _ ⟨HA.out.below HB1.out, HQ.out.2.1, HQ.out.2.2.1, n1, n2⟩ HSm.out HCy.out).mono ?_
    rintro e w2 ⟨rfl, hb⟩
    rw [← HRr.out]
    have HL2 := Lib.hid (HL1.out.below hb)
    have HB2 := Lib.hid (HB1.out.trans (hb.mono HB1.out.size))
    clear hb HL1
    go_wp2_with fail
    refine (starColumns _ _ _ R r1 r2 _ (HA.out.below HB2.out) HR.out n1 n2 HSm.out HNear.out HP.out).mono ?_
    rintro e w3 ⟨b3, c3, rfl, ho, hb⟩
    rw [← HSe.out] at ho
    obtain ⟨g3, ra3, rc3, rfl, -⟩ := ho.row 0 (by omega)
    obtain ⟨V, hV⟩ := ho
    have hVl : (M.stcM (M.crS R) n).length = n := (M.rect_stc _ _).1
    have HTl : Hid (∀ c, c < n → ((M.stcM (M.crS R) n).getD c []).length = n) := fun c hc => (M.rect_stc _ _).2 c hc
    have HV3 := Lib.hid hV
    have HL3 := Lib.hid (HL2.out.below hb)
    have HB3 := Lib.hid (HB2.out.trans (hb.mono HB2.out.size))
    have hz2 := HB2.out.size
    have hcl := HCl.out
    have hcm := HCm.out
    have hil := HIl.out
    clear hb hV HL2
    rw [← HM1.out] at hcl hcm hil
    have HIm := Lib.hid hil
    clear hcl hil
    generalize M.stcM (M.crS R) n = T at *
    generalize M.crComps R = LC at *
    generalize hLn : M.colsL R = LN at *
    clear hLn
    generalize hids : M.colIds R = ids at *
    clear hids
    go_wp2
    go_loopw [7, 9, 25] (fun o _ kv wr => ∃ (k : Nat) (b : Option Addr) (c : Nat), k ≤ m1 ∧ kv = .int .i64 k ∧ o = .slice b k c ∧ Hid (wr.ownsRow w3.heap.size 28 1 (.slice b k c) k ((ids.take k).map fun i => V.getD i (.slice none 0 0))) ∧ Hid (Below w3.heap.size w3 wr)) (fun _ _ kv _ => m1 - (intOf kv).toNat)
    case atStart => exact ⟨0, none, 0, Nat.zero_le _, rfl, rfl, row_nil _ _, Below.refl _ _⟩
    case round =>
      obtain ⟨k, b, c, hk, rfl, rfl, HO, HB⟩ := hrel
      obtain ⟨wo, rfl⟩ : ∃ x, x = wr := ⟨_, rfl⟩
      by_cases hkl : k < m1
      · have hki : (k : Int) < (m1 : Int) := by omega
        obtain ⟨cc, hcc, hlen, hfst, -, hids⟩ := HCol.out k (by have := HM1.out; omega)
        obtain ⟨gb, go_, rb, ro, L7, rc7, x7, hb6, hL7, hx7, q1, q2⟩ := (HL3.out.below HB.out).ent k 0 hkl (by omega)
        subst hb6
        rw [Nat.add_zero] at q2
        have hx8 : x7 = (cc : Int) := by rw [hx7]; exact hfst
        subst hx8
        obtain ⟨g7, ra7, rc8, hgg, hvv, hcr, -⟩ := (HV3.out.below HB.out).cell cc hcc
        injection hgg with hgg
        injection hgg with hgg
        subst hgg
        rw [HTl.out cc hcc] at hvv hcr
        have HVv := Lib.hid hvv
        have HIx := Lib.hid hids
        have hci : (cc : Int) < (n : Int) := by omega
        have hL0 : (0 : Int) < (L7 : Int) := by omega
        clear hx7 hfst hL7 hids hvv hlen
        go_wp2_with (at_builtin; refine appendVal wo rfl (.tmp 29) (.tmp 36) rfl w3.heap.size _ _ ra7 n rc8 _ rfl HO.out rfl (by omega) HB.out.size ?_)
        intro b4 c4 w8 hO4 hb4 _
        have HO8 := Lib.hid hO4
        have HB8 := Lib.hid (HB.out.trans hb4)
        clear hO4 hb4
        go_wp2
        go_roundw
        case rel => exact ⟨k + 1, b4, c4, by omega, by go_num, rfl, by show World.ownsRow _ _ _ _ _ _ _; rw [HIx.out, List.map_append]; have := HO8.out; rw [← HVv.out] at this; (try rw [← List.map_take] at this); exact this, HB8⟩
        case measure => simp [intOf]; omega
      · obtain rfl : k = m1 := by omega
        have hta : ids.take k = ids := List.take_of_length_le (by have := HIm.out; omega)
        have HOf : Hid (OwnM wo w2.heap.size (.slice b k c) LN) := by
          show OwnM _ _ _ _
          rw [HCd.out]
          have ho := HO.out
          rw [hta] at ho
          refine ⟨_, OwnV.pick HV3.out _ HUp.out (fun i hi => by rw [hVl]; exact HLt.out i hi) (by rw [HIm.out]; exact World.ownsRow.mono ho (by have h1 := own_lt HV3.out.2.1 (k := g3) rfl; omega)) fun i kk hi e => ?_⟩
          have hlt := own_lt (HV3.out.2.2.1 i hi) e
          refine ⟨HB.out.block kk (by omega), by omega, fun e2 => ?_⟩
          have := own_lt ho e2
          omega
        obtain ⟨bv, hbv⟩ : ∃ x, x = LN.all M.isVec := ⟨_, rfl⟩
        have HBv := Lib.hid hbv
        have HMb : Hid (M.isMat LN = bv) := HMt.out.trans hbv.symm
        clear hta hbv HO
        have HBf := Lib.hid (HB3.out.trans (HB.out.mono HB3.out.size))
        cases bv with
        | false =>
          have HCi : Hid (Calls Tryz.prog 75 #[.slice b k c] wo fun e w' => e = .returned (.tuple #[.slice none 0 0, .int .i64 3]) ∧ wo = w') := checkedMatrix_f _ _ _ LN _ HMb.out HOf.out.mat
          go_wp2_with fail
          refine (HCi.out).mono ?_
          rintro e w' ⟨rfl, rfl⟩
          go_wp2
          go_ret2
          exact MRes.nil (by rw [HE.out, ← HBv.out]; rfl) HBf.out
        | true =>
          have HCi : Hid (Calls Tryz.prog 75 #[.slice b k c] wo fun e w' => e = .returned (.tuple #[.slice b k c, .int .i64 0]) ∧ wo = w') := checkedMatrix_t _ _ _ LN _ HMb.out HOf.out.mat
          go_wp2_with fail
          refine (HCi.out).mono ?_
          rintro e w' ⟨rfl, rfl⟩
          go_wp2
          go_ret2
          rw [HE.out, ← HBv.out]
          exact ⟨_, _, _, rfl, HOf.out.mono hz2, HBf.out⟩
  · obtain ⟨k, hkk⟩ : ∃ k, k = M.crCode R := ⟨_, rfl⟩
    have HE : Hid (M.colsRes R = ([], k)) := by show _ = _; unfold M.colsRes; rw [if_neg hk, hkk]
    have HCr : Hid (M.compRes R = ([], k)) := by show _ = _; unfold M.compRes; rw [if_neg hk, hkk]
    have hk0 : (k != 0) = true := by rw [hkk]; simpa using hk
    clear h hk hkk
    go_enter Tryz.func42, Tryz.ntmps42
    go_wp2_with fail
    refine (criticalComponentsX _ _ _ R _ HA.out).mono ?_
    rintro e w1 ⟨b1, m1, c1, rfl, ho, hb⟩
    rw [HCr.out]
    have HB := Lib.hid hb
    clear ho hb
    go_wp2
    go_ret2
    exact MRes.nil HE.out HB.out
end V
end Go.Proofs.YtmhpgnndjagogaaGreat

namespace Go.Proofs.YtmhpgnndjagogaaGreat
namespace M
def eigL (R : List (List Int)) : List Int := (List.range R.length).map fun i => starF (shf (ent R) (bestR (ent R) R.length).1 (bestR (ent R) R.length).2) R.length i (vx (bestCyc R) 0)
def eigOk (R : List (List Int)) : List Int × (Int × Int) × Int := if isVec (eigL R) then (eigL R, bestR (ent R) R.length, 0) else ([], (0, 0), 3)
def eigRes (R : List (List Int)) : List Int × (Int × Int) × Int := if (cycMeanRes R).2 = 0 then eigOk R else ([], (0, 0), (cycMeanRes R).2)
/-- What is at hand where there is a cycle mean. -/
theorem eig_t {R : List (List Int)} (h : (cycMeanRes R).2 = 0) : ∃ (c : Nat) (L : List Int), sqB R = true ∧ hasCyc (ent R) R.length = true ∧ Near (bestR (ent R) R.length).1 (bestR (ent R) R.length).2 ∧ noPos (shf (ent R) (bestR (ent R) R.length).1 (bestR (ent R) R.length).2) R.length = true ∧ bestCyc R = (c : Int) :: L ∧ c < R.length ∧ vx (bestCyc R) 0 = c ∧
    overL (bestF (shf (ent R) (bestR (ent R) R.length).1 (bestR (ent R) R.length).2) R.length) R.length (-1) = bestCyc R := by
  obtain ⟨h1, h2, h3, h4⟩ := cyc_t h
  obtain ⟨n1, n2, hA⟩ := sq_sm h1
  obtain ⟨hbest, hnear, -⟩ := bestR_best n2 hA h2
  have hp := noPos_of_walk n2 hA hnear fun v s w _ _ h3 h4 _ h6 => hbest.2.2.1 v s w h3 h4 h6
  obtain ⟨q1, -, q3, q4⟩ := best_cyc h1 h2
  have hn : nodesB R.length (bestCyc R) = true := by
    unfold cycB at q1
    rw [Bool.and_eq_true, Bool.and_eq_true, Bool.and_eq_true] at q1
    exact q1.1.1.2
  have hlt := vx_lt hn (k := 0) (by omega)
  have hat := nodesB_at hn (k := 0) (by omega)
  cases e : bestCyc R with
  | nil => rw [e] at q3; simp at q3
  | cons y L =>
    rw [e] at hlt hat
    have hy : vx (y :: L) 0 = y.toNat := rfl
    have hy0 : (y :: L).getD 0 0 = y := rfl
    refine ⟨y.toNat, L, h1, h2, hnear, hp, ?_, by rw [hy] at hlt; exact hlt, hy, by rw [best_over n2 (sh_sm hA hnear) hp, ← e]; rfl⟩
    have : (0 : Int) ≤ y := by rw [hy0] at hat; omega
    congr 1
    omega
theorem eig_row {R : List (List Int)} {c : Nat} (hc : c < R.length) (hv : vx (bestCyc R) 0 = c) :
    (stcM (shf (ent R) (bestR (ent R) R.length).1 (bestR (ent R) R.length).2) R.length).getD c [] = eigL R := by
  unfold stcM
  rw [mk_row _ _ _ _ hc]
  unfold eigL
  refine List.map_congr_left fun i hi => ?_
  rw [ent_mk _ _ _ _ _ (List.mem_range.1 hi) hc, hv]
theorem eigRes_len (R : List (List Int)) : (eigRes R).1.length ≤ 10 := by
  unfold eigRes eigOk
  split
  · split
    · next h => exact (isVec_t h).2.1
    · simp
  · simp
theorem eigL_len (R : List (List Int)) : (eigL R).length = R.length := by unfold eigL; simp
end M
namespace V
set_option maxRecDepth 100000
open Go.RowKit
def EPost (r : List Int × (Int × Int) × Int) (w : World) (e : Ending) (w' : World) : Prop :=
  ∃ b m c, e = .returned (.tuple #[.slice b m c, .agg #[.int .i64 r.2.1.1, .int .i64 r.2.1.2], .int .i64 r.2.2]) ∧ Own w' w.heap.size (.slice b m c) r.1 ∧ Below w.heap.size w w'
theorem EPost.nil {r : List Int × (Int × Int) × Int} {c : Int} {w w' : World} (hr : r = ([], (0, 0), c)) (hb : Below w.heap.size w w') : EPost r w (.returned (.tuple #[.slice none 0 0, .agg #[.int .i64 0, .int .i64 0], .int .i64 c])) w' := by
  subst hr; exact ⟨none, 0, 0, rfl, own_nil _ _, hb⟩
theorem keep2' {w0 w1 w2 : World} {b i : Nat} {x : Value} (hb0 : b < w0.heap.size) (h : w1.cell? ⟨b, i, none⟩ = some x ∧ Below w0.heap.size w0 w1) (hb : Below w1.heap.size w1 w2) : w2.cell? ⟨b, i, none⟩ = some x ∧ Below w0.heap.size w0 w2 := by
  have hs := h.2.size
  exact ⟨(hb.cell (p := ⟨b, i, none⟩) (by show b < _; omega)).trans h.1, h.2.trans (hb.mono hs)⟩
theorem keep2 {w0 w1 w2 : World} {b i : Nat} {x : Value} (hb0 : b < w0.heap.size) (h : w1.cell? ⟨b, i, none⟩ = some x ∧ Below w0.heap.size w0 w1) (hb : Below w1.heap.size w1 w2) : w2.cell? ⟨b, i, none⟩ = some x ∧ Below w0.heap.size w0 w2 := by
  have hs := h.2.size
  exact ⟨(hb.cell (p := ⟨b, i, none⟩) (by show b < _; omega)).trans h.1, h.2.trans (hb.mono hs)⟩
end V
end Go.Proofs.YtmhpgnndjagogaaGreat

namespace Go.Proofs.YtmhpgnndjagogaaGreat
namespace V
set_option maxRecDepth 100000
open Go.RowKit
/-- A ratio, two slices, made one after the other, and a code. -/
def CPost4 (r : (Int × Int) × List Int × List Int × Int) (w : World) (e : Ending) (w' : World) : Prop :=
  ∃ (wm : World) (b : Option Addr) (m c : Nat) (b' : Option Addr) (m' c' : Nat), e = .returned (.tuple #[.agg #[.int .i64 r.1.1, .int .i64 r.1.2], .slice b m c, .slice b' m' c', .int .i64 r.2.2.2]) ∧ Own wm w.heap.size (.slice b' m' c') r.2.2.1 ∧ Below w.heap.size w wm ∧ Own w' wm.heap.size (.slice b m c) r.2.1 ∧ Below wm.heap.size wm w'
theorem CPost4.nil {r : (Int × Int) × List Int × List Int × Int} {c : Int} {w w' : World} (hr : r = ((0, 0), [], [], c)) (hb : Below w.heap.size w w') : CPost4 r w (.returned (.tuple #[.agg #[.int .i64 0, .int .i64 0], .slice none 0 0, .slice none 0 0, .int .i64 c])) w' := by
  subst hr; exact ⟨w, none, 0, 0, none, 0, 0, rfl, own_nil _ _, Below.refl _ _, own_nil _ _, hb⟩
theorem below_set2 {a b : World} {B : Nat} (h : Below B a b) (p : Addr) (hp : p.block < B) (v : Value) : Below B (a.setCell p v) (b.setCell p v) := by
  refine ⟨h.os, h.tape, h.output, by simpa [World.setCell] using h.size, fun k hk => ?_⟩
  have e := h.block k hk
  unfold World.setCell
  simp only [Array.getElem?_modify, e]
theorem low3' {B : Nat} {w1 w2 : World} {P Q : Prop} (h : P ∧ Q ∧ Below B w1 w2) : Below B w1 w2 := h.2.2
theorem keepB {w0 w1 w2 : World} {B b i j : Nat} {x y : Value} (hB : B ≤ w0.heap.size) (h : w1.cell? ⟨b, i, none⟩ = some x ∧ w1.cell? ⟨b, j, none⟩ = some y ∧ Below B w0 w1) (hb : Below w1.heap.size w1 w2) : w2.cell? ⟨b, i, none⟩ = some x ∧ w2.cell? ⟨b, j, none⟩ = some y ∧ Below B w0 w2 := by
  have hs := h.2.2.size
  exact ⟨(hb.cell (p := ⟨b, i, none⟩) (cell_lt h.1)).trans h.1, (hb.cell (p := ⟨b, j, none⟩) (cell_lt h.2.1)).trans h.2.1, h.2.2.trans (hb.mono (by omega))⟩
theorem keepS {w0 w1 : World} {B b i j c k l : Nat} {x y u v : Value} (hc : c ≠ b) (hB : B ≤ c) (h : w1.cell? ⟨b, i, none⟩ = some x ∧ w1.cell? ⟨b, j, none⟩ = some y ∧ Below B w0 w1) :
    ((w1.setCell ⟨c, k, none⟩ u).setCell ⟨c, l, none⟩ v).cell? ⟨b, i, none⟩ = some x ∧ ((w1.setCell ⟨c, k, none⟩ u).setCell ⟨c, l, none⟩ v).cell? ⟨b, j, none⟩ = some y ∧ Below B w0 ((w1.setCell ⟨c, k, none⟩ u).setCell ⟨c, l, none⟩ v) := by
  have e : ((w1.setCell ⟨c, k, none⟩ u).setCell ⟨c, l, none⟩ v).heap[b]? = w1.heap[b]? := (Below.heap_setCell _ ⟨c, l, none⟩ _ b (Ne.symm hc)).trans (Below.heap_setCell _ ⟨c, k, none⟩ _ b (Ne.symm hc))
  exact ⟨(World.cell?_of_block (w := w1) (a := ⟨b, i, none⟩) e).trans h.1, (World.cell?_of_block (w := w1) (a := ⟨b, j, none⟩) e).trans h.2.1, (h.2.2.setCell (p := ⟨c, k, none⟩) hB u).setCell (p := ⟨c, l, none⟩) hB v⟩
set_option maxRecDepth 100000 in
set_option maxHeartbeats 4000000 in
theorem certifyMean (a : Option Addr) (n cap : Nat) (R : List (List Int)) (w : World) (h : Mat w a n R) :
    Calls Tryz.prog 13 #[.slice a n cap] w (CPost4 (M.certRes R) w) := by
  have HA := Lib.hid h
  have hRn : R.length = n := h.1
  have HB0 : Hid (Below w.heap.size w (w.alloc (.cells #[.int .i64 0, .int .i64 0] 27))) := b_alloc _ _
  by_cases hc : (M.cycMeanRes R).2 = 0
  · obtain ⟨c, L, hs, hcyc, hnear, hp, hq, hcl, hvx, hov⟩ := M.eig_t hc
    have hcm := (M.cyc_t hc).2.2.2
    rw [hRn] at hcyc hnear hp hcl hov hcm
    obtain ⟨hr, n1, n2, hsm⟩ := sq_parts h hs
    have HR := Lib.hid hr
    have HSm := Lib.hid hsm
    obtain ⟨r, hrr⟩ : ∃ r, r = M.bestR (M.ent R) n := ⟨_, rfl⟩
    rw [← hrr] at hnear hp hov hcm
    have HNear := Lib.hid hnear
    have HP := Lib.hid hp
    have HOv := Lib.hid hov
    have HCm := Lib.hid hcm
    obtain ⟨r1, r2⟩ := r
    have HBm : Hid (∀ i j, i < n → j < n → M.Sm 1000001000000 (M.bestF (M.shf (M.ent R) r1 r2) n i j)) := fun i j hi hj => by
      unfold M.bestF
      split
      · exact M.sh_sm HSm.out HNear.out i j hi hj
      · exact .inl rfl
    obtain ⟨p, hpp⟩ : ∃ p, p = M.potRes R r1 r2 := ⟨_, rfl⟩
    have HPp := Lib.hid hpp.symm
    have hE : M.certRes R = if p.2 = 0 then ((r1, r2), M.bestCyc R, p.1, 0) else ((0, 0), [], [], p.2) := by
      unfold M.certRes; rw [if_pos hc, hcm, hpp]
    have HE := Lib.hid hE
    obtain ⟨pl, pc⟩ := p
    generalize M.bestCyc R = q at *
    clear h hc hs hcyc hnear hp hq hvx hov hcm hr hsm hrr hpp hE hRn hcl
    by_cases hpc : pc = 0
    · subst hpc
      go_enter Tryz.func13, Tryz.ntmps13
      go_wp2_with fail
      refine (cycleMean _ _ _ R _ (HA.out.below HB0.out)).mono ?_
      rintro e w1 ⟨rfl, hb⟩
      rw [HCm.out]
      have HB1 := Lib.hid hb
      clear hb
      obtain ⟨wb, hwb⟩ : ∃ x, x = w1.alloc (rbox r1 r2) := ⟨_, rfl⟩
      have HX : Hid (Boxed w1 wb r1 r2) := by show Boxed _ _ _ _; rw [hwb]; exact boxed _ _ _
      have HBx := Lib.hid (HB1.out.trans (HX.out.below.mono HB1.out.size))
      have HBy := Lib.hid (HB0.out.trans (HBx.out.mono HB0.out.size))
      go_wp2_with fail
      change Calls _ _ _ (w1.alloc (rbox r1 r2)) _
      rw [← hwb]
      clear hwb
      refine (potentialOf _ _ _ R r1 r2 _ (HA.out.below HBy.out)).mono ?_
      rintro e w2 ⟨b2, m2, c2, rfl, ho, hb⟩
      rw [HPp.out] at ho ⊢
      have HO2 := Lib.hid ho
      have HB2 := Lib.hid hb
      have HBz := Lib.hid (HBy.out.trans (hb.mono HBy.out.size))
      obtain ⟨p0, p1⟩ := HX.out.cells hb
      clear ho hb
      go_wp2
      have HBw := Lib.hid (HBx.out.trans (HB2.out.mono HBx.out.size))
      have hzq : w1.heap.size < w2.heap.size := by have := HB2.out.size; have := HX.out.size; omega
      have hwz : w.heap.size ≤ w2.heap.size := HBz.out.size
      have hwne : w.heap.size ≠ w1.heap.size := by have := HB1.out.size; simp at this; omega
      go_region_held3 (fun w' => w'.cell? ⟨w1.heap.size, 0, none⟩ = some (.int .i64 r1) ∧ w'.cell? ⟨w1.heap.size, 1, none⟩ = some (.int .i64 r2) ∧ Below w.heap.size w2 w') (first | exact ⟨p0, p1, (Below.refl _ _).drew⟩ | exact keepB hwz ‹_ ∧ _ ∧ Below _ _ _› hb | exact keepS hwne (Nat.le_refl _) ‹_ ∧ _ ∧ Below _ _ _›) (first | (go_at_call 53; refine (bestArcs _ _ _ R r1 r2 _ ?hm HR.out n1 n2 HSm.out HNear.out HP.out).mono ?_; (case hm => exact HA.out.below (HBz.out.trans (V.low3' ‹_ ∧ _ ∧ Below _ _ _›))); rintro e w3 ⟨b3, c3, rfl, ho, hb⟩; have HSq3 : Hid (Sq w3 b3 n (M.mk n n (M.bestF (M.shf (M.ent R) r1 r2) n))) := ⟨ho.mat, rect_mk _ _ _, fun i j hi hj => (by rw [M.ent_mk _ _ _ _ _ hi hj]; exact HBm.out i j hi hj), n1, n2⟩; have HB3 : Hid (Below w2.heap.size w2 w3) := (by first | exact hb | exact ((Below.refl w2.heap.size w2).drew).trans hb | exact (below_drewN (Below.refl w2.heap.size w2) _).trans hb); clear ho) | (go_at_call 52; refine (smallestCycle0 _ _ _ (M.mk n n (M.bestF (M.shf (M.ent R) r1 r2) n)) _ ?hm2).mono ?_; (case hm2 => exact HSq3.out); rintro e w4 ⟨b4, n4, c4, rfl, ho, hb⟩; rw [M.over_congr (A := M.bestF (M.shf (M.ent R) r1 r2) n) n2 HBm.out fun i j hi hj => M.ent_mk _ _ _ _ _ hi hj, HOv.out] at ho; have HO4 := Lib.hid ho; have HB4 := Lib.hid (HB3.out.trans (hb.mono HB3.out.size)); have hb8 := HBw.out.trans (HB4.out.mono HBw.out.size); have hz8 := hb8.size; simp at hz8; have HB8 := Lib.hid hb8; obtain ⟨hcc, hff⟩ := bcell hb8; have z1 : w.heap.size < w4.heap.size := (by omega); clear ho hb8))
      all_goals (try go_wp2)
      all_goals
        have hlt2 : w.heap.size < w2.heap.size := by have := HBx.out.size; have := HB2.out.size; simp at *; omega
        have hHE : M.certRes R = ((r1, r2), q, pl, 0) := HE.out
        refine bodyPost_ret (v := .tuple #[.agg #[.int .i64 r1, .int .i64 r2], .slice b4 n4 c4, .slice b2 m2 c2, .int .i64 0]) (by simp [results, Tryz.results13, go_sem, z1, hcc]) rfl ?_
        rw [hHE]
        refine ⟨(w2.setCell ⟨w.heap.size, 0, none⟩ (.int .i64 r1)).setCell ⟨w.heap.size, 1, none⟩ (.int .i64 r2), b4, n4, c4, b2, m2, c2, rfl, ?_, ?_, ?_, ?_⟩
        · refine (HO2.out.keep fun k k1 _ => ?_).mono HBy.out.size
          have k2 : w.heap.size ≠ k := by have := HBx.out.size; simp at this; omega
          exact (Below.heap_setCell _ _ _ k k2.symm).trans (Below.heap_setCell _ _ _ k k2.symm)
        · exact (HBz.out.setCell (p := ⟨w.heap.size, 0, none⟩) (Nat.le_refl _) _).setCell (p := ⟨w.heap.size, 1, none⟩) (Nat.le_refl _) _
        · refine (HO4.out.keep fun k k1 _ => ?_).mono ?_
          · have k2 : w.heap.size ≠ k := by have := HB3.out.size; omega
            exact (Below.heap_setCell _ _ _ k k2.symm).trans (Below.heap_setCell _ _ _ k k2.symm)
          · have := HB3.out.size; simpa [World.setCell] using this
        · have e := below_set2 (below_set2 HB4.out ⟨w.heap.size, 0, none⟩ hlt2 (.int .i64 r1)) ⟨w.heap.size, 1, none⟩ hlt2 (.int .i64 r2)
          simpa [World.setCell] using e
    · have HEE : Hid (M.certRes R = ((0, 0), [], [], pc)) := HE.out.trans (if_neg hpc)
      have hpb : (pc != 0) = true := by simpa using hpc
      go_enter Tryz.func13, Tryz.ntmps13
      go_wp2_with fail
      refine (cycleMean _ _ _ R _ (HA.out.below HB0.out)).mono ?_
      rintro e w1 ⟨rfl, hb⟩
      rw [HCm.out]
      have HB1 := Lib.hid hb
      clear hb
      obtain ⟨wb, hwb⟩ : ∃ x, x = w1.alloc (rbox r1 r2) := ⟨_, rfl⟩
      have HX : Hid (Boxed w1 wb r1 r2) := by show Boxed _ _ _ _; rw [hwb]; exact boxed _ _ _
      have HBx := Lib.hid (HB1.out.trans (HX.out.below.mono HB1.out.size))
      have HBy := Lib.hid (HB0.out.trans (HBx.out.mono HB0.out.size))
      go_wp2_with fail
      change Calls _ _ _ (w1.alloc (rbox r1 r2)) _
      rw [← hwb]
      clear hwb
      refine (potentialOf _ _ _ R r1 r2 _ (HA.out.below HBy.out)).mono ?_
      rintro e w2 ⟨b2, m2, c2, rfl, ho, hb⟩
      rw [HPp.out] at ho ⊢
      have hb8 := HBx.out.trans (hb.mono HBx.out.size)
      have hz := hb8.size
      simp at hz
      obtain ⟨hcc, hff⟩ := bcell hb8
      have z1 : w.heap.size < w2.heap.size := by omega
      clear ho hb
      go_wp2
      exact bodyPost_ret (v := .tuple #[.agg #[.int .i64 0, .int .i64 0], .slice none 0 0, .slice none 0 0, .int .i64 pc]) (by simp [results, Tryz.results13, go_sem, z1, hcc]) rfl (CPost4.nil HEE.out (bel1s hb8))
  · have HE : Hid (M.certRes R = ((0, 0), [], [], (M.cycMeanRes R).2)) := by show _ = _; unfold M.certRes; rw [if_neg hc]
    obtain ⟨r, hr⟩ : ∃ r, r = M.cycMeanRes R := ⟨_, rfl⟩
    rw [← hr] at hc HE
    have HR := Lib.hid hr.symm
    obtain ⟨⟨r1, r2⟩, r3⟩ := r
    have hr3 : (r3 != 0) = true := by simpa using hc
    clear h hc hr hRn
    go_enter Tryz.func13, Tryz.ntmps13
    go_wp2_with fail
    refine (cycleMean _ _ _ R _ (HA.out.below HB0.out)).mono ?_
    rintro e w1 ⟨rfl, hb⟩
    rw [HR.out]
    have hz := hb.size
    simp at hz
    obtain ⟨hcc, hff⟩ := bcell hb
    have z1 : w.heap.size < w1.heap.size := by omega
    go_wp2
    exact bodyPost_ret (v := .tuple #[.agg #[.int .i64 0, .int .i64 0], .slice none 0 0, .slice none 0 0, .int .i64 r3]) (by simp [results, Tryz.results13, go_sem, z1, hcc]) rfl (CPost4.nil HE.out ((bel1s hb).alloc (bel1s hb).size _))
end V
end Go.Proofs.YtmhpgnndjagogaaGreat
