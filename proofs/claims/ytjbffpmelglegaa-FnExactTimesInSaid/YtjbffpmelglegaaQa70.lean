/- Texts laid together: Ftm. -/
import Derived.Test.YtjbffpmelglegaaQa68
import Derived.Test.YtjbffpmelglegaaQa4
import Derived.Test.YtjbffpmelglegaaQa6
set_option linter.unusedSimpArgs false
set_option linter.unusedVariables false
set_option linter.unusedSectionVars false
namespace Go.Proofs.Ytjbffpmelglegaa
namespace V
set_option maxRecDepth 100000
open Go.RowKit
set_option maxRecDepth 100000 in
set_option maxHeartbeats 4000000 in
theorem timesIn (a : Option Addr) (n cap : Nat) (l : List M.Fr) (ev : Int) (w : World) (h : Frs w a n l) :
    Calls Try.prog 17 #[.slice a n cap, .int .i64 ev] w (VRes (M.tmsRes l ev) w) := by
  have HI := Lib.hid h
  have HL : Hid (l.length = n) := h.1
  have hm := h.2.1
  unfold maxLen at hm
  clear h
  by_cases hbig : 500 < n
  · have hgt : (n : Int) > 500 := by omega
    have HR : Hid (M.tmsRes l ev = ([], 2)) := by show _ = _; unfold M.tmsRes; rw [if_neg (by rw [HL.out]; omega)]
    go_enter Try.func17, Try.ntmps17
    go_wp2
    go_ret2
    exact VRes.nil HR.out (Below.refl _ _)
  · have hgt : ¬ (n : Int) > 500 := by omega
    have HR : Hid (M.tmsRes l ev = (M.hsF (l.take n) ev, 0)) := by show _ = _; unfold M.tmsRes; rw [if_pos (by rw [HL.out]; omega), List.take_of_length_le (by rw [HL.out]; exact Nat.le_refl _)]
    have hO0 : Hid (Own w w.heap.size (.slice none 0 0) (M.hsF (l.take 0) ev)) := own_nil _ _
    go_enter Try.func17, Try.ntmps17
    go_wp2
    go_loopw [6, 14] (fun lv kv wr => ∃ (k : Nat) (b : Option Addr) (c : Nat), k ≤ n ∧ kv = .int .i64 k ∧ lv = .slice b (M.hsF (l.take k) ev).length c ∧ Hid (Own wr w.heap.size (.slice b (M.hsF (l.take k) ev).length c) (M.hsF (l.take k) ev)) ∧ Hid (Below w.heap.size w wr)) (fun _ kv _ => n - (intOf kv).toNat)
    case atStart => exact ⟨0, _, _, Nat.zero_le _, rfl, rfl, hO0, Below.refl _ _⟩
    case round =>
      obtain ⟨k, b, c, hk, rfl, rfl, HO, HB⟩ := hrel
      obtain ⟨wo, rfl⟩ : ∃ x, x = wr := ⟨_, rfl⟩
      clear hO0
      by_cases hkl : k < n
      · have hki : (k : Int) < (n : Int) := by omega
        obtain ⟨pb, off, p0, p1, p2, rfl, -, hp, c0, c1, c2⟩ := (HI.out.below HB.out).at k hkl
        have hsz := HB.out.size
        have hlen : (M.hsF (l.take k) ev).length ≤ 500 := by have := M.hsF_len_le l ev k; omega
        have hNx : M.hsF (l.take (k + 1)) ev = if p0 = ev then M.hsF (l.take k) ev ++ [p2] else M.hsF (l.take k) ev := by
          have := M.hsF_next l ev (k := k) (by rw [HL.out]; exact hkl)
          rw [hp] at this
          exact this
        have HB3 : Hid (Below w.heap.size w (wo.alloc (.cells #[.int .i64 p0, .int .i64 p1, .int .i64 p2] 77))) := HB.out.alloc hsz _
        by_cases he : p0 = ev
        · have HN : Hid (M.hsF (l.take (k + 1)) ev = M.hsF (l.take k) ev ++ [p2]) := by show _ = _; rw [hNx, if_pos he]
          have HNl : Hid ((M.hsF (l.take (k + 1)) ev).length = (M.hsF (l.take k) ev).length + 1) := by show _ = _; rw [HN.out]; simp
          have HO3 : Hid (Own (wo.alloc (.cells #[.int .i64 p0, .int .i64 p1, .int .i64 p2] 77)) w.heap.size (.slice b (M.hsF (l.take k) ev).length c) (M.hsF (l.take k) ev)) := HO.out.below (b_alloc wo _)
          obtain ⟨L, hL⟩ : ∃ L, L = (M.hsF (l.take k) ev).length := ⟨_, rfl⟩
          rw [← hL] at HO3 HNl hlen ⊢
          have HLl := Lib.hid hL.symm
          have heb : (p0 == p0) = true := by simp
          have hsz3 := HB3.out.size
          clear hL hNx hp
          subst he
          go_wp2_with (at_builtin; refine append1 _ rfl (.tmp 22) (.tmp 25) rfl w.heap.size _ _ _ L HLl.out rfl HO3.out (by rw [World.size_alloc]; rfl) (by rw [HLl.out]; omega) hsz3 ?_)
          intro b2 c2' w4 hO2 hb2 _
          rw [← HN.out, ← HNl.out] at hO2
          have HO4 := Lib.hid hO2
          have HB4 := Lib.hid (HB3.out.trans hb2)
          rw [← HNl.out]
          clear hO2 hb2
          go_wp2
          go_roundw
          case rel => exact ⟨k + 1, _, _, by omega, by go_num, rfl, HO4, HB4⟩
          case measure => simp [intOf]; omega
        · have HN : Hid (M.hsF (l.take (k + 1)) ev = M.hsF (l.take k) ev) := by show _ = _; rw [hNx, if_neg he]
          have heb : (p0 == ev) = false := by simpa using he
          have HO3 : Hid (Own (wo.alloc (.cells #[.int .i64 p0, .int .i64 p1, .int .i64 p2] 77)) w.heap.size (.slice b (M.hsF (l.take k) ev).length c) (M.hsF (l.take k) ev)) := HO.out.below (b_alloc wo _)
          clear hNx hp
          go_wp2
          go_roundw
          case rel => exact ⟨k + 1, _, _, by omega, by go_num, by rw [HN.out], by rw [HN.out]; exact HO3, HB3⟩
          case measure => simp [intOf]; omega
      · obtain rfl : k = n := by omega
        go_wp2
        go_ret2
        rw [HR.out]
        exact ⟨_, _, _, rfl, HO.out, HB.out⟩
set_option maxRecDepth 100000 in
set_option maxHeartbeats 4000000 in
theorem sTimesIn (a : Option Addr) (n cap : Nat) (l : List M.Fr) (ev : Int) (w : World) (h : Frs w a n l) :
    Calls Try.prog 15 #[.slice a n cap, .int .i64 ev] w (VRes (M.tmsRes l ev) w) := by
  have HI := Lib.hid h
  have HL : Hid (l.length = n) := h.1
  have hm := h.2.1
  unfold maxLen at hm
  clear h
  by_cases hbig : 500 < n
  · have hgt : (n : Int) > 500 := by omega
    have HR : Hid (M.tmsRes l ev = ([], 2)) := by show _ = _; unfold M.tmsRes; rw [if_neg (by rw [HL.out]; omega)]
    go_enter Try.func15, Try.ntmps15
    go_wp2
    go_ret2
    exact VRes.nil HR.out (Below.refl _ _)
  · have hgt : ¬ (n : Int) > 500 := by omega
    have HR : Hid (M.tmsRes l ev = (M.hsF (l.take n) ev, 0)) := by show _ = _; unfold M.tmsRes; rw [if_pos (by rw [HL.out]; omega), List.take_of_length_le (by rw [HL.out]; exact Nat.le_refl _)]
    have hO0 : Hid (Own (w.alloc (.cells #[] 2)) w.heap.size (.slice (some ⟨w.heap.size, 0, none⟩) 0 0) (M.hsF (l.take 0) ev)) := own_lit0 w w.heap.size (Nat.le_refl _)
    have hB0 : Hid (Below w.heap.size w (w.alloc (.cells #[] 2))) := b_alloc w _
    go_enter Try.func15, Try.ntmps15
    go_wp2
    go_loopw [6, 7] (fun lv kv wr => ∃ (k : Nat) (b : Option Addr) (c : Nat), k ≤ n ∧ kv = .int .i64 k ∧ lv = .slice b (M.hsF (l.take k) ev).length c ∧ Hid (Own wr w.heap.size (.slice b (M.hsF (l.take k) ev).length c) (M.hsF (l.take k) ev)) ∧ Hid (Below w.heap.size w wr)) (fun _ kv _ => n - (intOf kv).toNat)
    case atStart => exact ⟨0, _, _, Nat.zero_le _, rfl, rfl, hO0, hB0⟩
    case round =>
      obtain ⟨k, b, c, hk, rfl, rfl, HO, HB⟩ := hrel
      obtain ⟨wo, rfl⟩ : ∃ x, x = wr := ⟨_, rfl⟩
      clear hO0 hB0
      by_cases hkl : k < n
      · have hki : (k : Int) < (n : Int) := by omega
        obtain ⟨pb, off, p0, p1, p2, rfl, -, hp, c0, c1, c2⟩ := (HI.out.below HB.out).at k hkl
        have hsz := HB.out.size
        have hlen : (M.hsF (l.take k) ev).length ≤ 500 := by have := M.hsF_len_le l ev k; omega
        have hNx : M.hsF (l.take (k + 1)) ev = if p0 = ev then M.hsF (l.take k) ev ++ [p2] else M.hsF (l.take k) ev := by
          have := M.hsF_next l ev (k := k) (by rw [HL.out]; exact hkl)
          rw [hp] at this
          exact this
        by_cases he : p0 = ev
        · have HN : Hid (M.hsF (l.take (k + 1)) ev = M.hsF (l.take k) ev ++ [p2]) := by show _ = _; rw [hNx, if_pos he]
          have HNl : Hid ((M.hsF (l.take (k + 1)) ev).length = (M.hsF (l.take k) ev).length + 1) := by show _ = _; rw [HN.out]; simp
          obtain ⟨L, hL⟩ : ∃ L, L = (M.hsF (l.take k) ev).length := ⟨_, rfl⟩
          rw [← hL] at HO HNl hlen ⊢
          have HLl := Lib.hid hL.symm
          have heb : (p0 == p0) = true := by simp
          clear hL hNx hp
          subst he
          go_wp2_with (at_builtin; refine append1 _ rfl (.tmp 25) (.tmp 31) rfl w.heap.size _ _ _ L HLl.out rfl HO.out rfl (by rw [HLl.out]; omega) hsz ?_)
          intro b2 c2' w4 hO2 hb2 _
          rw [← HN.out, ← HNl.out] at hO2
          have HO4 := Lib.hid hO2
          have HB4 := Lib.hid (HB.out.trans hb2)
          rw [← HNl.out]
          clear hO2 hb2
          go_wp2
          go_roundw
          case rel => exact ⟨k + 1, _, _, by omega, by go_num, rfl, HO4, HB4⟩
          case measure => simp [intOf]; omega
        · have HN : Hid (M.hsF (l.take (k + 1)) ev = M.hsF (l.take k) ev) := by show _ = _; rw [hNx, if_neg he]
          have heb : (p0 == ev) = false := by simpa using he
          clear hNx hp
          go_wp2
          go_roundw
          case rel => exact ⟨k + 1, _, _, by omega, by go_num, by rw [HN.out], by rw [HN.out]; exact HO, HB⟩
          case measure => simp [intOf]; omega
      · obtain rfl : k = n := by omega
        go_wp2
        go_ret2
        rw [HR.out]
        exact ⟨_, _, _, rfl, HO.out, HB.out⟩
end V
end Go.Proofs.Ytjbffpmelglegaa
