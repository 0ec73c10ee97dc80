/- Texts laid together: Fsc. -/
import Derived.Test.YtjbffpmelglegaaQa68
import Derived.Test.YtjbffpmelglegaaQa4
set_option linter.unusedSimpArgs false
set_option linter.unusedVariables false
set_option linter.unusedSectionVars false
namespace Go.Proofs.Ytjbffpmelglegaa
namespace M
theorem cntF_next (l : List Fr) (e : Int) {k : Nat} (hk : k < l.length) : cntF (l.take (k + 1)) e = if (l.getD k fz).1 = e then cntF (l.take k) e + 1 else cntF (l.take k) e := by
  rw [takeF_snoc l fz hk, cntF_app]
theorem findF_next (l : List Fr) (e q : Int) {k : Nat} (hk : k < l.length) (hn : findF (l.take k) e q = none) : findF (l.take (k + 1)) e q = if (l.getD k fz).1 = e ∧ (l.getD k fz).2.1 = q then some (l.getD k fz).2.2 else none := by
  rw [takeF_snoc l fz hk, findF_app, hn]
theorem findF_more (l : List Fr) (e q : Int) {k : Nat} {t : Int} (h : findF (l.take k) e q = some t) : findF l e q = some t := by
  unfold findF at h ⊢
  rw [Option.map_eq_some_iff] at h ⊢
  obtain ⟨f, hf, ht⟩ := h
  refine ⟨f, ?_, ht⟩
  rw [← List.take_append_drop k l, List.find?_append, hf]
  rfl
end M
namespace V
set_option maxRecDepth 100000
open Go.RowKit
set_option maxRecDepth 100000 in
set_option maxHeartbeats 2000000 in
theorem sCount (a : Option Addr) (n cap : Nat) (l : List M.Fr) (ev : Int) (w : World) (h : Frs w a n l) :
    Calls Try.prog 69 #[.slice a n cap, .int .i64 ev] w fun e w' => e = .returned (.int .i64 (M.cntF l ev)) ∧ w' = w := by
  have HI := Lib.hid h
  have HL : Hid (l.length = n) := h.1
  have hm := h.2.1
  unfold maxLen at hm
  clear h
  go_enter Try.func69, Try.ntmps69
  go_wp2
  go_loopw [5, 6] (fun cv kv wr => ∃ k : Nat, k ≤ n ∧ kv = .int .i64 k ∧ cv = .int .i64 (M.cntF (l.take k) ev) ∧ wr = w) (fun _ kv _ => n - (intOf kv).toNat)
  case atStart => exact ⟨0, Nat.zero_le _, rfl, rfl, rfl⟩
  case round =>
    obtain ⟨k, hk, rfl, rfl, rfl⟩ := hrel
    by_cases hkl : k < n
    · have hki : (k : Int) < (n : Int) := by omega
      obtain ⟨pb, off, p0, p1, p2, rfl, -, hp, c0, c1, c2⟩ := HI.out.at k hkl
      have hNx := M.cntF_next l ev (k := k) (by rw [HL.out]; exact hkl)
      rw [hp] at hNx
      have HN := Lib.hid hNx
      obtain ⟨c, hc⟩ : ∃ c, c = M.cntF (l.take k) ev := ⟨_, rfl⟩
      have hck : c ≤ k := by rw [hc]; exact Nat.le_trans (M.cntF_le _ _) (by rw [List.length_take]; omega)
      rw [← hc] at HN ⊢
      clear hNx hp hc
      by_cases he : p0 = ev
      · have HE := Lib.hid (HN.out.trans (if_pos he))
        have heb : (p0 == ev) = true := by simpa using he
        go_wp2
        go_roundw
        case rel => exact ⟨k + 1, by omega, by go_num, by rw [HE.out]; go_num, by first | rfl | trivial⟩
        case measure => simp [intOf]; omega
      · have HE := Lib.hid (HN.out.trans (if_neg he))
        have heb : (p0 == ev) = false := by simpa using he
        go_wp2
        go_roundw
        case rel => exact ⟨k + 1, by omega, by go_num, by rw [HE.out], by first | rfl | trivial⟩
        case measure => simp [intOf]; omega
    · obtain rfl : k = n := by omega
      have HE : Hid (l.take k = l) := List.take_of_length_le (by rw [HL.out]; exact Nat.le_refl _)
      rw [HE.out]
      go_wp2
      go_ret
      exact ⟨rfl, rfl⟩
def fndV : Option Int → Value
  | some t => .tuple #[.int .i64 t, .bool true]
  | none => .tuple #[.int .i64 0, .bool false]
set_option maxRecDepth 100000 in
set_option maxHeartbeats 2000000 in
theorem sFind14 (a : Option Addr) (n cap : Nat) (l : List M.Fr) (ev q : Int) (w : World) (h : Frs w a n l) :
    Calls Try.prog 119 #[.slice a n cap, .int .i64 ev, .int .i64 q] w fun e w' => e = .returned (fndV (M.findF l ev q)) ∧ w' = w := by
  have HI := Lib.hid h
  have HL : Hid (l.length = n) := h.1
  have hm := h.2.1
  unfold maxLen at hm
  clear h
  go_enter Try.func119, Try.ntmps119
  go_wp2
  go_loopw [8] (fun kv wr => ∃ k : Nat, k ≤ n ∧ kv = .int .i64 k ∧ Hid (M.findF (l.take k) ev q = none) ∧ wr = w) (fun kv _ => n - (intOf kv).toNat)
  case atStart => exact ⟨0, Nat.zero_le _, rfl, rfl, rfl⟩
  case round =>
    obtain ⟨k, hk, rfl, HF, rfl⟩ := hrel
    by_cases hkl : k < n
    · have hki : (k : Int) < (n : Int) := by omega
      obtain ⟨pb, off, p0, p1, p2, rfl, -, hp, c0, c1, c2⟩ := HI.out.at k hkl
      have hNx := M.findF_next l ev q (k := k) (by rw [HL.out]; exact hkl) HF.out
      rw [hp] at hNx
      have HN := Lib.hid hNx
      clear hNx hp
      by_cases he : p0 = ev
      · have heb : (p0 == ev) = true := by simpa using he
        by_cases hq : p1 = q
        · have hqb : (p1 == q) = true := by simpa using hq
          have HE : Hid (M.findF l ev q = some p2) := M.findF_more l ev q (HN.out.trans (if_pos ⟨he, hq⟩))
          go_wp2
          go_ret2
          exact ⟨by rw [HE.out]; rfl, rfl⟩
        · have hqb : (p1 == q) = false := by simpa using hq
          have HE : Hid (M.findF (l.take (k + 1)) ev q = none) := HN.out.trans (if_neg fun x => hq x.2)
          go_wp2
          go_roundw
          case rel => exact ⟨k + 1, by omega, by go_num, HE, by first | rfl | trivial⟩
          case measure => simp [intOf]; omega
      · have heb : (p0 == ev) = false := by simpa using he
        have HE : Hid (M.findF (l.take (k + 1)) ev q = none) := HN.out.trans (if_neg fun x => he x.1)
        go_wp2
        go_roundw
        case rel => exact ⟨k + 1, by omega, by go_num, HE, by first | rfl | trivial⟩
        case measure => simp [intOf]; omega
    · obtain rfl : k = n := by omega
      have HE : Hid (l.take k = l) := List.take_of_length_le (by rw [HL.out]; exact Nat.le_refl _)
      have hf := HF.out
      rw [HE.out] at hf
      have HFl := Lib.hid hf
      clear hf
      go_wp2
      go_ret2
      exact ⟨by rw [HFl.out]; rfl, rfl⟩
end V
end Go.Proofs.Ytjbffpmelglegaa
