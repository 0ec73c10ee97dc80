/- Components in the program. -/
import Derived.Test.YtmldjmlihkcchabVis
import Derived.Test.YtmldjmlihkcchabMat2
import Derived.Test.YtmldjmlihkcchabMark
namespace Go.Proofs.Ytmldjmlihkcchab.V
open Go.RowKit Go.Maps
set_option maxRecDepth 100000 in
set_option maxHeartbeats 2000000 in
theorem componentOf (a : Option Addr) (n cap : Nat) (R : List (List Int)) (v : Nat) (w : World) (h : Sq w a n R) (hv : v < n) :
    Calls Try.prog 46 #[.slice a n cap, .int .i64 v] w fun e w' => ∃ b c, e = .returned (.slice b (M.compL (M.ent R) n v).length c) ∧ Own w' w.heap.size (.slice b (M.compL (M.ent R) n v).length c) (M.compL (M.ent R) n v) ∧ Below w.heap.size w w' := by
  have HSq := Lib.hid h
  obtain ⟨n1, n2⟩ := h.2.2.2
  clear h
  go_enter Try.func46, Try.ntmps46
  go_wp2_with fail
  refine (reachedFrom _ _ _ R v _ HSq.out hv).mono ?_
  rintro e w1 ⟨b1, rfl, hlo, hs, hb⟩
  have HS1 := Lib.hid hs
  have HB1 := Lib.hid hb
  clear hs hb
  go_wp2_with fail
  refine (reaching _ _ _ R v _ (HSq.out.below HB1.out) hv).mono ?_
  rintro e w2 ⟨b2, rfl, hlo2, hs, hb⟩
  have HS2 := Lib.hid hs
  have HS12 := Lib.hid (HS1.out.below hb HS1.out.lt)
  have HB2 := Lib.hid (HB1.out.trans (hb.mono HB1.out.size))
  clear hs hb HS1 HB1
  go_wp2
  go_loopw [7, 8, 17] (fun o _ i wr => ∃ (k : Nat) (b : Option Addr) (c : Nat), k ≤ n ∧ i = .int .i64 k ∧ o = .slice b (M.compP (M.ent R) n v k).length c ∧ Hid (Own wr w2.heap.size (.slice b (M.compP (M.ent R) n v k).length c) (M.compP (M.ent R) n v k)) ∧ Hid (Below w2.heap.size w2 wr)) (fun _ _ i _ => n - (intOf i).toNat)
  case atStart => exact ⟨0, none, 0, Nat.zero_le _, rfl, rfl, own_nil _ _, Below.refl _ _⟩
  case round =>
    obtain ⟨k, b, c, hk, rfl, rfl, HO, HB⟩ := hrel
    by_cases hlt : k < n
    · have hki : (k : Int) < (n : Int) := by omega
      have HL1 := (HS12.out.below HB.out HS12.out.lt).look n2 k hlt
      have HL2 : (Instr.lookup 55 (.map (some b2)) (.int .i64 (k : Int)) false).run Try.prog wr = .ok (.bool (M.rchB (M.ent R) n k v)) wr := (HS2.out.below HB.out HS2.out.lt).look n2 k hlt
      have hnx := M.compP_next (M.ent R) n v k
      have hrel : M.relB (M.ent R) n v k = (M.rchB (M.ent R) n v k && M.rchB (M.ent R) n k v) := rfl
      have hlen := M.compP_len (M.ent R) n v k
      obtain ⟨x, hx⟩ : ∃ x, x = M.rchB (M.ent R) n v k := ⟨_, rfl⟩
      obtain ⟨y, hy⟩ : ∃ y, y = M.rchB (M.ent R) n k v := ⟨_, rfl⟩
      rw [← hy] at HL2
      rw [← hx] at HL1 hrel
      rw [← hy] at hrel
      rw [hrel] at hnx
      clear hx hy hrel
      cases x with
      | false =>
        have HN : Hid (M.compP (M.ent R) n v (k + 1) = M.compP (M.ent R) n v k) := by show _ = _; rw [hnx]; simp
        clear hnx
        go_wp2
        go_roundw
        case rel => exact ⟨k + 1, b, c, by omega, by go_num, by rw [HN.out], by show Own _ _ _ _; rw [HN.out]; exact HO.out, HB⟩
        case measure => simp [intOf]; omega
      | true =>
        cases y with
        | false =>
          have HN : Hid (M.compP (M.ent R) n v (k + 1) = M.compP (M.ent R) n v k) := by show _ = _; rw [hnx]; simp
          clear hnx
          go_wp2
          go_roundw
          case rel => exact ⟨k + 1, b, c, by omega, by go_num, by rw [HN.out], by show Own _ _ _ _; rw [HN.out]; exact HO.out, HB⟩
          case measure => simp [intOf]; omega
        | true =>
          have HN : Hid (M.compP (M.ent R) n v (k + 1) = M.compP (M.ent R) n v k ++ [(k : Int)]) := by show _ = _; rw [hnx]; simp
          clear hnx
          generalize M.compP (M.ent R) n v k = l at *
          go_wp2_with (at_builtin; refine append1 _ rfl (.tmp 28) (.tmp 30) rfl w2.heap.size _ l (k : Int) _ rfl rfl HO.out rfl (by omega) HB.out.size ?_)
          intro b4 c4 w4 hO4 hb4 _
          have HO4 := Lib.hid hO4
          have HB4 := Lib.hid (HB.out.trans hb4)
          rw [← HN.out] at HO4
          clear hO4 hb4
          go_wp2
          go_roundw
          case rel => exact ⟨k + 1, b4, c4, by omega, by go_num, by rw [HN.out, List.length_append]; rfl, by show Own _ _ _ _; rw [HN.out, List.length_append]; rw [HN.out] at HO4; exact HO4.out, HB4⟩
          case measure => simp [intOf]; omega
    · obtain rfl : k = n := by omega
      go_wp2
      go_ret
      exact ⟨b, c, rfl, HO.out.mono HB2.out.size, HB2.out.trans (HB.out.mono HB2.out.size)⟩
end Go.Proofs.Ytmldjmlihkcchab.V
