/- Texts laid together: Fsr. -/
import Derived.Test.YtjbffpmelglegaaQa71
import Derived.Test.YtjbffpmelglegaaQa66
set_option linter.unusedSimpArgs false
set_option linter.unusedVariables false
set_option linter.unusedSectionVars false
namespace Go.Proofs.Ytjbffpmelglegaa
namespace M
theorem rdyM_next {pl : List (Int × Int × Int × Int)} (pre : List Fr) (e : Int) {i : Nat} (hi : i < pl.length) (K : Int) (hK : K = (cntF pre e : Int) + 1) (a : Option Int) (ha : (pl.take i).foldl (fun acc p => rdyS pre K acc p e) (some 0) = a) :
    (pl.take (i + 1)).foldl (fun acc p => rdyS pre K acc p e) (some 0) = rdyS pre K a (pl.getD i (0, 0, 0, 0)) e := by
  rw [List.take_add_one, List.foldl_append, ha, List.getD_eq_getElem?_getD, List.getElem?_eq_getElem hi]
  rfl
theorem rdyM_stop {pl : List (Int × Int × Int × Int)} (pre : List Fr) (e : Int) {i : Nat} (K : Int) (ha : (pl.take i).foldl (fun acc p => rdyS pre K acc p e) (some 0) = none) :
    pl.foldl (fun acc p => rdyS pre K acc p e) (some 0) = none := by
  rw [← List.take_append_drop i pl, List.foldl_append, ha]
  exact foldS_none _ _ _ _
theorem findF_mem {l : List Fr} {e k t : Int} (h : findF l e k = some t) : t ∈ hsF l e := by
  unfold findF at h
  rw [Option.map_eq_some_iff] at h
  obtain ⟨f, hf, ht⟩ := h
  have h1 := List.mem_of_find?_eq_some hf
  have h2 := List.find?_some hf
  simp only [Bool.and_eq_true, decide_eq_true_iff] at h2
  unfold hsF
  rw [List.mem_map]
  exact ⟨f, List.mem_filter.2 ⟨h1, by simpa using h2.1⟩, ht⟩
end M
namespace V
set_option maxRecDepth 100000
open Go.RowKit
theorem gr_atF {N : Nat} {l : List M.Pc} (hg : M.isGr (N : Int) l = true) {k : Nat} (hk : k < l.length) {p0 p1 p2 p3 : Int} (hp : l.getD k M.pz = (p0, p1, p2, p3)) : ∃ i j : Nat, i < N ∧ j < N ∧ p1 = (i : Int) ∧ p0 = (j : Int) ∧ 0 ≤ p2 ∧ p2 ≤ 1000 ∧ 0 ≤ p3 ∧ p3 ≤ 5 := by
  unfold M.isGr at hg
  simp only [Bool.and_eq_true, List.all_eq_true] at hg
  have hm : l.getD k M.pz ∈ l := by rw [List.getD_eq_getElem?_getD, List.getElem?_eq_getElem hk]; exact List.getElem_mem hk
  have := hg.2.2 _ hm
  rw [hp] at this
  unfold M.plW M.inB at this
  simp only [Bool.and_eq_true, decide_eq_true_eq] at this
  obtain ⟨⟨a1, a2⟩, ⟨b1, b2⟩, ⟨c1, c2⟩, d1, d2⟩ := this
  exact ⟨p1.toNat, p0.toNat, by omega, by omega, by omega, by omega, c1, c2, d1, d2⟩
theorem gr_NF {N : Nat} {l : List M.Pc} (hg : M.isGr (N : Int) l = true) : 1 ≤ N ∧ N ≤ 10 ∧ l.length ≤ 30 := by
  unfold M.isGr M.inB at hg
  simp only [Bool.and_eq_true, decide_eq_true_eq] at hg
  obtain ⟨⟨h1, h2⟩, h3, -⟩ := hg
  exact ⟨by omega, by omega, h3⟩
theorem gr_allF {N : Nat} {l : List M.Pc} (hg : M.isGr (N : Int) l = true) : ∀ p ∈ l, 0 ≤ p.1 ∧ 0 ≤ p.2.2.2 := by
  intro p hp
  obtain ⟨k, hk, he⟩ := List.mem_iff_getElem.1 hp
  obtain ⟨i, j, hi, hj, -, e0, -, -, e3, -⟩ := gr_atF hg hk (p0 := p.1) (p1 := p.2.1) (p2 := p.2.2.1) (p3 := p.2.2.2) (by rw [List.getD_eq_getElem?_getD, List.getElem?_eq_getElem hk]; exact he)
  exact ⟨by omega, e3⟩
set_option maxRecDepth 100000 in
set_option maxHeartbeats 4000000 in
theorem sReady14 (N : Nat) (a : Option Addr) (n cap : Nat) (l : List M.Pc) (fa : Option Addr) (fn fc : Nat) (L : List M.Fr) (e : Nat) (w : World) (h : Pls w a n l) (hg : M.isGr (N : Int) l = true) (hf : Frs w fa fn L) (hT : ∀ (x t : Int), t ∈ M.hsF L x → 0 ≤ t ∧ t ≤ 1000000) (hfn : fn ≤ 500) :
    Calls Try.prog 70 #[.agg #[.int .i64 N, .slice a n cap], .slice fa fn fc, .int .i64 e] w fun z w' => z = .returned (fndV (M.rdyM l L e)) ∧ Below w.heap.size w w' := by
  have HI := Lib.hid h
  have HL : Hid (l.length = n) := h.1
  have HG := Lib.hid hg
  obtain ⟨n1, n2, hl30⟩ := gr_NF hg
  have hn30 : n ≤ 30 := by rw [h.1] at hl30; exact hl30
  have hb0 := b_alloc w (.cells #[.int .i64 N, .slice a n cap] 41)
  have hGb := gBox_new w N a n cap 41
  obtain ⟨wb, hwb⟩ : ∃ z, z = w.alloc (.cells #[.int .i64 N, .slice a n cap] 41) := ⟨_, rfl⟩
  rw [← hwb] at hb0 hGb
  have HB0 := Lib.hid hb0
  have HGb := Lib.hid hGb
  obtain ⟨c, hc⟩ : ∃ c, c = M.cntF L e := ⟨_, rfl⟩
  have hcn : c ≤ 500 := by rw [hc]; have := M.cntF_le L e; rw [hf.1] at this; omega
  have HC : Hid (Calls Try.prog 69 #[.slice fa fn fc, .int .i64 e] wb fun z w' => z = .returned (.int .i64 c) ∧ w' = wb) := by rw [hc]; exact sCount fa fn fc L e wb (hf.below hb0)
  have HFd : Hid (∀ W (x q : Int), Below w.heap.size w W → Calls Try.prog 119 #[.slice fa fn fc, .int .i64 x, .int .i64 q] W fun z w' => z = .returned (fndV (M.findF L x q)) ∧ w' = W) := fun W x q hW => sFind14 fa fn fc L x q W (hf.below hW)
  have HT := Lib.hid hT
  have HM : Hid (M.rdyM l L e = l.foldl (fun acc p => M.rdyS L ((c : Int) + 1) acc p e) (some 0)) := by show _ = _; rw [hc]; rfl
  have HK : Hid ((c : Int) + 1 = (M.cntF L e : Int) + 1) := by show _ = _; rw [hc]
  obtain ⟨Z, hZ⟩ : ∃ Z, Z = M.rdyM l L e := ⟨_, rfl⟩
  rw [← hZ]
  have HZ := Lib.hid hZ
  clear h hg hl30 hb0 hf hc hT hGb hZ
  have hk1 : wrap64 ((c : Int) + 1) = (c : Int) + 1 := IntWalk.wrap64_in _ ⟨by omega, by omega⟩
  go_enter Try.func70, Try.ntmps70
  go_wp2_with fail
  rw [← hwb]
  clear hwb
  refine (HC.out).mono ?_
  rintro z w1 ⟨rfl, rfl⟩
  go_wp2
  obtain ⟨κ, hκ⟩ : ∃ κ : Int, κ = (c : Int) + 1 := ⟨_, rfl⟩
  have hκb : 1 ≤ κ ∧ κ ≤ 501 := by omega
  rw [← hκ] at HM HK ⊢
  clear hk1 hκ HC
  go_loopw [9, 10] (fun tv kv wr => ∃ (i : Nat) (t : Int), i ≤ n ∧ kv = .int .i64 i ∧ tv = .int .i64 t ∧ (0 ≤ t ∧ t ≤ 1001000) ∧ Hid ((l.take i).foldl (fun acc p => M.rdyS L κ acc p e) (some 0) = some t) ∧ Hid (GBox wr w.heap.size N a n cap) ∧ Hid (Below w.heap.size w wr)) (fun _ kv _ => n - (intOf kv).toNat)
  case atStart => exact ⟨0, 0, Nat.zero_le _, rfl, rfl, by omega, rfl, HGb, HB0⟩
  case round =>
    obtain ⟨i, t, hi, rfl, rfl, ht, HA, HGr, HB⟩ := hrel
    obtain ⟨wo, rfl⟩ : ∃ x, x = wr := ⟨_, rfl⟩
    clear HGb HB0
    obtain ⟨g0, g1⟩ := HGr.out
    by_cases hil : i < n
    · have hii : (i : Int) < (n : Int) := by omega
      obtain ⟨pb, off, p0, p1, p2, p3, rfl, -, hp, c0, c1, c2, c3⟩ := (HI.out.below HB.out).at i hil
      obtain ⟨e', j, he', hj, rfl, rfl, t2, t2', t3, t3'⟩ := gr_atF HG.out (by rw [HL.out]; exact hil) hp
      have hNx := M.rdyM_next L e (i := i) (by rw [HL.out]; exact hil) κ HK.out _ HA.out
      rw [show l.getD i (0, 0, 0, 0) = _ from hp] at hNx
      have HNx := Lib.hid hNx
      have hbp : Below wo.heap.size wo (wo.alloc (.cells #[.int .i64 j, .int .i64 e', .int .i64 p2, .int .i64 p3] 52)) := b_alloc wo _
      have HBn := Lib.hid (HB.out.trans (hbp.mono HB.out.size))
      have HGn : Hid (GBox (wo.alloc (.cells #[.int .i64 j, .int .i64 e', .int .i64 p2, .int .i64 p3] 52)) w.heap.size N (some ⟨pb, off, none⟩) n cap) := HGr.out.below hbp
      clear hp hNx hbp HA
      by_cases hte : e' = e
      · have hte' : ((e' : Int) != (e : Int)) = false := by simp [hte]
        by_cases htk : p3 < κ
        · have htk' : ¬ κ ≤ p3 := by omega
          have hw1 : wrap64 (κ - p3) = κ - p3 := IntWalk.wrap64_in _ ⟨by omega, by omega⟩
          have hN2 : Hid ((l.take (i + 1)).foldl (fun acc p => M.rdyS L κ acc p e) (some 0) = (match M.findF L j (κ - p3) with | none => none | some u => some (max t (u + p2)))) := HNx.out.trans (if_pos ⟨by rw [hte], htk⟩)
          obtain ⟨F, hF⟩ : ∃ F, F = M.findF L j (κ - p3) := ⟨_, rfl⟩
          have HFc : Hid (Calls Try.prog 119 #[.slice fa fn fc, .int .i64 j, .int .i64 (κ - p3)] (wo.alloc (.cells #[.int .i64 j, .int .i64 e', .int .i64 p2, .int .i64 p3] 52)) fun z w' => z = .returned (fndV F) ∧ w' = wo.alloc (.cells #[.int .i64 j, .int .i64 e', .int .i64 p2, .int .i64 p3] 52)) := by rw [hF]; exact HFd.out _ _ _ HBn.out
          have HFm : Hid (∀ u, F = some u → 0 ≤ u ∧ u ≤ 1000000) := fun u q => HT.out j u (M.findF_mem (hF.symm.trans q))
          rw [← hF] at hN2
          clear hF hte
          go_wp2_with fail
          refine (HFc.out).mono ?_
          rintro z w2 ⟨rfl, rfl⟩
          clear HFc
          cases F with
          | none =>
            have HE : Hid (Z = none) := HZ.out.trans (HM.out.trans (M.rdyM_stop L e κ hN2.out))
            unfold fndV
            go_wp2
            go_ret2
            exact ⟨by rw [HE.out]; rfl, HBn.out⟩
          | some u =>
            have hub := HFm.out u rfl
            have hw2 : wrap64 (u + p2) = u + p2 := IntWalk.wrap64_in _ ⟨by omega, by omega⟩
            have hw2' : IntKind.i64.wrap (u + p2) = u + p2 := IntWalk.i64_in _ (by omega)
            have HN3 : Hid ((l.take (i + 1)).foldl (fun acc p => M.rdyS L κ acc p e) (some 0) = some (max t (u + p2))) := hN2.out
            unfold fndV
            go_wp2
            go_roundw
            case rel =>
              refine ⟨i + 1, max t (u + p2), by omega, by go_num, ?_, by omega, HN3, HGn, HBn⟩
              first
                | rfl
                | (congr 1; split <;> omega)
                | (congr 1; omega)
            case measure => simp [intOf]; omega
        · have htk' : κ ≤ p3 := by omega
          have HN : Hid ((l.take (i + 1)).foldl (fun acc p => M.rdyS L κ acc p e) (some 0) = some t) := HNx.out.trans (if_neg fun q => htk q.2)
          clear hte
          go_wp2
          go_roundw
          case rel => exact ⟨i + 1, t, by omega, by go_num, rfl, ht, HN, HGn, HBn⟩
          case measure => simp [intOf]; omega
      · have hte' : ((e' : Int) != (e : Int)) = true := by simp; omega
        have HN : Hid ((l.take (i + 1)).foldl (fun acc p => M.rdyS L κ acc p e) (some 0) = some t) := HNx.out.trans (if_neg fun q => hte (by have := q.1; simp only at this; omega))
        clear hte
        go_wp2
        go_roundw
        case rel => exact ⟨i + 1, t, by omega, by go_num, rfl, ht, HN, HGn, HBn⟩
        case measure => simp [intOf]; omega
    · obtain rfl : i = n := by omega
      have HE : Hid (Z = some t) := by
        refine HZ.out.trans (HM.out.trans ?_)
        have := HA.out
        rwa [List.take_of_length_le (by rw [HL.out]; exact Nat.le_refl _)] at this
      go_wp2
      go_ret2
      exact ⟨by rw [HE.out]; rfl, HB.out⟩
end V
end Go.Proofs.Ytjbffpmelglegaa
