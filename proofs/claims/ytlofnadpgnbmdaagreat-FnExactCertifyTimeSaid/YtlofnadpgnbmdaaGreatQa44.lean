/- Texts laid together: Cjb. -/
import Derived.Test.YtlofnadpgnbmdaaGreatQa41
import Derived.Test.YtlofnadpgnbmdaaGreatQa4
set_option linter.unusedSimpArgs false
set_option linter.unusedVariables false
set_option linter.unusedSectionVars false
namespace Go.Proofs.YtlofnadpgnbmdaaGreat
namespace M
theorem cir_no1 {l : List (Int × Int × Int × Int)} {c : List Int} (h : c.length = 0) : cirB l c = false := by unfold cirB; rw [h]; rfl
theorem cir_no2 {l : List (Int × Int × Int × Int)} {c : List Int} {n : Nat} (hn : l.length = n) (h : nodesB n c = false) : cirB l c = false := by unfold cirB; rw [hn, h]; simp
theorem cir_no3 {l : List (Int × Int × Int × Int)} {c : List Int} (h : chnB l c = false) : cirB l c = false := by unfold cirB; rw [h]; simp
theorem cir_yes {l : List (Int × Int × Int × Int)} {c : List Int} (h1 : 1 ≤ c.length) (h2 : nodesB l.length c = true) (h3 : chnB l c = true) : cirB l c = diffB (c.map (frI l)) := by unfold cirB; rw [decide_eq_true h1, h2, h3]; rfl
theorem take_map_snoc (f : Int → Int) (c : List Int) (k : Nat) (hk : k < c.length) : (c.take (k + 1)).map f = (c.take k).map f ++ [f (c.getD k 0)] := by
  rw [take_snoc c k hk, List.map_append]; rfl
end M
namespace V
set_option maxRecDepth 100000
open Go.RowKit
theorem PB.eq {w w' : World} {g : Nat} {p : M.Pc} (h : PB w g p) (e : w'.heap[g]? = w.heap[g]?) : PB w' g p :=
  ⟨(World.cell?_of_block (a := ⟨g, 0, none⟩) e).trans h.1, (World.cell?_of_block (a := ⟨g, 1, none⟩) e).trans h.2.1, (World.cell?_of_block (a := ⟨g, 2, none⟩) e).trans h.2.2.1, (World.cell?_of_block (a := ⟨g, 3, none⟩) e).trans h.2.2.2⟩
theorem GBox.eq {w w' : World} {g : Nat} {x : Int} {a : Option Addr} {n cap : Nat} (h : GBox w g x a n cap) (e : w'.heap[g]? = w.heap[g]?) : GBox w' g x a n cap :=
  ⟨(World.cell?_of_block (a := ⟨g, 0, none⟩) e).trans h.1, (World.cell?_of_block (a := ⟨g, 1, none⟩) e).trans h.2⟩
/-- The box of a place that is written. -/
def PR (w : World) (g : Nat) (p : M.Pc) : Prop := w.rowIs g 71 4 fun j => .int .i64 (M.pf p j)
theorem PR.pb {w : World} {g : Nat} {p : M.Pc} (h : PR w g p) : PB w g p := ⟨World.rowIs.cell h (i := 0) (by omega), World.rowIs.cell h (i := 1) (by omega), World.rowIs.cell h (i := 2) (by omega), World.rowIs.cell h (i := 3) (by omega)⟩
theorem PR.frozen {w : World} {g : Nat} {p : M.Pc} (h : PR w g p) (j : Nat) : w.frozen? ⟨g, j, none⟩ = false := World.rowIs.frozen h j
theorem PR.eq {w w' : World} {g : Nat} {p : M.Pc} (h : PR w g p) (e : w'.heap[g]? = w.heap[g]?) : PR w' g p := World.rowIs.of_block h e
theorem PR.new (w : World) (p0 p1 p2 p3 : Int) : PR (w.alloc (.cells #[.int .i64 p0, .int .i64 p1, .int .i64 p2, .int .i64 p3] 71)) w.heap.size (p0, p1, p2, p3) :=
  World.rowIs_alloc w _ _ _ (fun i hi => by
    have : i = 0 ∨ i = 1 ∨ i = 2 ∨ i = 3 := by simp at hi; omega
    rcases this with rfl | rfl | rfl | rfl <;> rfl)
theorem PR.put {w : World} {g : Nat} {p : M.Pc} (h : PR w g p) (q0 q1 q2 q3 : Int) : PR ((((w.setCell ⟨g, 0, none⟩ (.int .i64 q0)).setCell ⟨g, 1, none⟩ (.int .i64 q1)).setCell ⟨g, 2, none⟩ (.int .i64 q2)).setCell ⟨g, 3, none⟩ (.int .i64 q3)) g (q0, q1, q2, q3) :=
  (World.rowIs.set (World.rowIs.set (World.rowIs.set (World.rowIs.set h 0 _) 1 _) 2 _) 3 _).congr fun i hi => by
    have : i = 0 ∨ i = 1 ∨ i = 2 ∨ i = 3 := by omega
    rcases this with rfl | rfl | rfl | rfl <;> rfl
set_option maxRecDepth 100000 in
set_option maxHeartbeats 2000000 in
theorem isOfCir (N : Nat) (a : Option Addr) (n cap : Nat) (l : List M.Pc) (ca : Option Addr) (m cc : Nat) (c : List Int) (w : World) (h : Pls w a n l) (hg : M.isGr (N : Int) l = true) (hI : Ints .i64 w ca m c) (hm : m ≤ 1048576) :
    Calls Tryz.prog 88 #[.slice ca m cc, .agg #[.int .i64 N, .slice a n cap]] w fun e w' => e = .returned (.bool (M.cirB l c)) ∧ Below w.heap.size w w' := by
  obtain ⟨he, N1, N2, l30⟩ := M.gr_ev hg
  have hL := h.1
  have hM : c.length = m := hI.1
  have hb0 := b_alloc w (.cells #[.int .i64 N, .slice a n cap] 26)
  have hG := gBox_new w N a n cap 26
  obtain ⟨wb, hwb⟩ : ∃ z, z = w.alloc (.cells #[.int .i64 N, .slice a n cap] 26) := ⟨_, rfl⟩
  rw [← hwb] at hb0 hG
  have HWb := Lib.hid hwb.symm
  have HB0 := Lib.hid hb0
  have HP := Lib.hid h
  have HI := Lib.hid hI
  have HL := Lib.hid hL
  have HM := Lib.hid hM
  have HE := Lib.hid he
  by_cases h0 : m = 0
  · have HR : Hid (M.cirB l c = false) := M.cir_no1 (by rw [hM]; exact h0)
    subst h0
    clear h hg hI hb0 hG hwb he hL hM
    go_enter Tryz.func88, Tryz.ntmps88
    go_wp2
    rw [HWb.out]
    go_ret
    rw [HR.out]
    exact ⟨rfl, HB0.out⟩
  · obtain ⟨m, rfl⟩ : ∃ k, m = k + 1 := ⟨m - 1, by omega⟩
    obtain ⟨v, hv⟩ : ∃ v, M.nodesB n c = v := ⟨_, rfl⟩
    have HC := Lib.hid (containsNoIdx w.heap.size N a n cap ca (m + 1) cc c v hv wb hG (by omega) (hI.below hb0))
    have HV := Lib.hid hv
    have HG := Lib.hid hG
    have hlt : ¬ ((m : Int) + 1 < 1) := by omega
    clear h hg hI hb0 hG hwb he h0 hv
    cases v with
    | false =>
      have HR : Hid (M.cirB l c = false) := M.cir_no2 hL HV.out
      clear hL hM
      go_enter Tryz.func88, Tryz.ntmps88
      go_wp2_with fail
      rw [HWb.out]
      refine HC.out.mono ?_
      rintro e w' ⟨rfl, hb⟩
      have HB := Lib.hid (HB0.out.trans (hb.mono HB0.out.size))
      clear hb
      go_wp2
      go_ret
      rw [HR.out]
      exact ⟨rfl, HB.out⟩
    | true =>
      have hch0 : Hid (∀ i, i < 0 → M.frI l (c.getD i 0) = M.toI l (c.getD (M.prv (m + 1) i) 0)) := fun i hi => absurd hi (Nat.not_lt_zero i)
      clear hL hM
      go_enter Tryz.func88, Tryz.ntmps88
      go_wp2_with fail
      rw [HWb.out]
      refine HC.out.mono ?_
      rintro e w1 ⟨rfl, hb⟩
      have HG1 := Lib.hid (HG.out.below hb)
      have HB1 := Lib.hid (HB0.out.trans (hb.mono HB0.out.size))
      clear hb HG HC HWb HB0
      obtain ⟨g0, g1⟩ := HG1.out
      obtain ⟨cb, co, y, rfl, hd, hy, cy⟩ := (HI.out.below HB1.out).at m (by omega)
      have hyn := M.nodesB_at HV.out (k := m) (by have := HM.out; omega)
      rw [← hy] at hyn
      obtain ⟨i, rfl⟩ := Int.eq_ofNat_of_zero_le hyn.1
      have hin : i < n := by omega
      have hin2 : (i : Int) < (n : Int) := by omega
      obtain ⟨pb, off, p0, p1, p2, p3, rfl, hpd, hp, c0, c1, c2, c3⟩ := (HP.out.below HB1.out).at i hin
      have ht1 : ((m : Int) + 1 - 1) = (m : Int) := by omega
      have HPl : Hid (l.getD (c.getD (M.prv (m + 1) 0) 0).toNat M.pz = (p0, p1, p2, p3)) := by show _ = _; unfold M.prv; rw [if_pos rfl, Nat.add_sub_cancel, ← hy]; exact hp
      have hs1 : w.heap.size < w1.heap.size := cell_lt g0
      clear hy hyn hp
      go_wp2
      go_region
      obtain ⟨wB, hwB⟩ : ∃ z, z = (w1.alloc (.cells #[.int .i64 p0, .int .i64 p1, .int .i64 p2, .int .i64 p3] 71)).drew := ⟨_, rfl⟩
      have hbB : Below w1.heap.size w1 wB := by rw [hwB]; exact (b_alloc w1 _).drew
      have hszB : wB.heap.size = w1.heap.size + 1 := by rw [hwB]; simp
      have HPB : Hid (PR wB w1.heap.size (l.getD (c.getD (M.prv (m + 1) 0) 0).toNat M.pz)) := by
        show PR _ _ _
        rw [HPl.out, hwB]; exact (PR.new w1 p0 p1 p2 p3).eq rfl
      have HGB := Lib.hid (HG1.out.below hbB)
      have HBB := Lib.hid (HB1.out.trans (hbB.mono HB1.out.size))
      have HO0 : Hid (Own wB (w1.heap.size + 1) (.slice none 0 0) ((c.take 0).map (M.frI l))) := own_nil _ _
      clear g0 g1 c0 c1 c2 c3 cy hbB HPl
      go_wp2
      rw [← hwB]
      clear hwB
      go_loopw [6, 9, 10, 32] (fun ev _ _ kv wr => ∃ (k : Nat) (eb : Option Addr) (ec : Nat), k ≤ m + 1 ∧ kv = .int .i64 k ∧ ev = .slice eb k ec ∧ Hid (Own wr (w1.heap.size + 1) (.slice eb k ec) ((c.take k).map (M.frI l))) ∧ Hid (PR wr w1.heap.size (l.getD (c.getD (M.prv (m + 1) k) 0).toNat M.pz)) ∧ Hid (GBox wr w.heap.size N (some ⟨pb, off, none⟩) n cap) ∧ Hid (Below w.heap.size w wr) ∧ Hid (∀ i, i < k → M.frI l (c.getD i 0) = M.toI l (c.getD (M.prv (m + 1) i) 0))) (fun _ _ _ kv _ => m + 1 - (intOf kv).toNat)
      case atStart => exact ⟨0, none, 0, Nat.zero_le _, rfl, rfl, HO0, HPB, HGB, HBB, hch0⟩
      case round =>
        obtain ⟨k, eb, ec, hk, rfl, rfl, HO, HPr, HGr, HB, HCh⟩ := hrel
        obtain ⟨wo, rfl⟩ : ∃ x, x = wr := ⟨_, rfl⟩
        clear HPB HGB HBB HO0 hch0
        by_cases hkm : k < m + 1
        · have hki : (k : Int) < (m : Int) + 1 := by omega
          obtain ⟨g0, g1⟩ := HGr.out
          obtain ⟨l0, l1, l2, l3⟩ := HPr.out.pb
          obtain ⟨cb', co', y, he2, hd2, hy, cy⟩ := (HI.out.below HB.out).at k hkm
          injection he2 with he2
          injection he2 with e1 e2 e3
          subst e1 e2
          have hyn := M.nodesB_at HV.out (k := k) (by rw [HM.out]; exact hkm)
          rw [← hy] at hyn
          obtain ⟨j, rfl⟩ := Int.eq_ofNat_of_zero_le hyn.1
          have hjn : j < n := by omega
          have hjn2 : (j : Int) < (n : Int) := by omega
          obtain ⟨pb', off', q0, q1, q2, q3, he2, hpd2, hp, c0, c1, c2, c3⟩ := (HP.out.below HB.out).at j hjn
          injection he2 with he2
          injection he2 with e1 e2 e3
          subst e1 e2
          have hfr : M.frI l (c.getD k 0) = q0 := by rw [← hy]; show (l.getD j M.pz).1 = q0; rw [hp]
          have hto : M.toI l (c.getD (M.prv (m + 1) k) 0) = (l.getD (c.getD (M.prv (m + 1) k) 0).toNat M.pz).2.1 := rfl
          obtain ⟨lst, hlst⟩ : ∃ z, z = l.getD (c.getD (M.prv (m + 1) k) 0).toNat M.pz := ⟨_, rfl⟩
          rw [← hlst] at l0 l1 l2 l3 hto HPr
          obtain ⟨s0, s1, s2, s3⟩ := lst
          have hs1 : w.heap.size < wo.heap.size := cell_lt g0
          have hs2 : w1.heap.size < wo.heap.size := cell_lt l0
          have hPk : l.getD (c.getD (M.prv (m + 1) (k + 1)) 0).toNat M.pz = (q0, q1, q2, q3) := by
            unfold M.prv; rw [if_neg (by omega), Nat.add_sub_cancel, ← hy]; exact hp
          have hmp : (c.take (k + 1)).map (M.frI l) = (c.take k).map (M.frI l) ++ [q0] := by rw [M.take_map_snoc _ _ _ (by rw [HM.out]; exact hkm), hfr]
          have HPk := Lib.hid hPk
          have HMp := Lib.hid hmp
          have hel : ((c.take k).map (M.frI l)).length = k := by simp; have := HM.out; omega
          have HEl := Lib.hid hel
          clear hPk hmp hel hlst hy hyn hp
          by_cases hq : q0 = s1
          · have hqb : (q0 != s1) = false := by simpa using hq
            have HCh2 : Hid (∀ i, i < k + 1 → M.frI l (c.getD i 0) = M.toI l (c.getD (M.prv (m + 1) i) 0)) := fun i hi => by
              by_cases e : i = k
              · subst e; rw [hfr, hto]; exact hq
              · exact HCh.out i (by omega)
            clear hfr hto hq HCh
            obtain ⟨L, hL⟩ : ∃ L, L = (c.take k).map (M.frI l) := ⟨_, rfl⟩
            rw [← hL] at HO HMp HEl
            have HOa : Hid (Own (wo.alloc (.cells #[.int .i64 q0, .int .i64 q1, .int .i64 q2, .int .i64 q3] 71)) (w1.heap.size + 1) (.slice eb k ec) L) := HO.out.below (b_alloc wo _)
            clear hL
            go_wp2_with (at_builtin; refine append1 _ rfl (.tmp 46) (.tmp 49) rfl (w1.heap.size + 1) _ _ q0 k HEl.out rfl HOa.out (by rw [World.size_alloc]; rfl) (by rw [HEl.out]; omega) (by rw [World.size_alloc]; omega) ?_)
            intro b2 c2' w2 hO2 hb2 hk2
            rw [← HMp.out] at hO2
            have hne : ∀ z, z < w1.heap.size + 1 → (Value.slice eb k ec).ownBlock ≠ some z := fun z hz q => absurd (own_lt HO.out q).1 (by omega)
            have hne9 : (Value.slice eb k ec).ownBlock ≠ some wo.heap.size := fun q => absurd (own_lt HO.out q).2 (by omega)
            have e9 := hk2 wo.heap.size (by omega) hne9
            have b0 : PB w2 wo.heap.size (q0, q1, q2, q3) := PB.eq (w := wo.alloc (.cells #[.int .i64 q0, .int .i64 q1, .int .i64 q2, .int .i64 q3] 71)) ⟨by simp [go_sem], by simp [go_sem], by simp [go_sem], by simp [go_sem]⟩ e9
            obtain ⟨b0, b1, b2', b3⟩ := b0
            have HP2 : Hid (PR w2 w1.heap.size (s0, s1, s2, s3)) := HPr.out.eq ((hk2 _ (by omega) (hne _ (by omega))).trans (Below.heap_alloc _ _ _ (by omega)))
            have HG2 : Hid (GBox w2 w.heap.size N (some ⟨pb, off, none⟩) n cap) := HGr.out.eq ((hk2 _ (by omega) (hne _ (by omega))).trans (Below.heap_alloc _ _ _ (by omega)))
            have f0 := HP2.out.frozen
            obtain ⟨m0, m1, m2, m3⟩ := HP2.out.pb
            have hset : ∀ z, z ≠ w1.heap.size → ((((w2.setCell ⟨w1.heap.size, 0, none⟩ (.int .i64 q0)).setCell ⟨w1.heap.size, 1, none⟩ (.int .i64 q1)).setCell ⟨w1.heap.size, 2, none⟩ (.int .i64 q2)).setCell ⟨w1.heap.size, 3, none⟩ (.int .i64 q3)).heap[z]? = w2.heap[z]? := fun z hz => by
              rw [Below.heap_setCell _ _ _ _ hz, Below.heap_setCell _ _ _ _ hz, Below.heap_setCell _ _ _ _ hz, Below.heap_setCell _ _ _ _ hz]
            have HO3 : Hid (Own ((((w2.setCell ⟨w1.heap.size, 0, none⟩ (.int .i64 q0)).setCell ⟨w1.heap.size, 1, none⟩ (.int .i64 q1)).setCell ⟨w1.heap.size, 2, none⟩ (.int .i64 q2)).setCell ⟨w1.heap.size, 3, none⟩ (.int .i64 q3)) (w1.heap.size + 1) (.slice b2 (k + 1) c2') ((c.take (k + 1)).map (M.frI l))) := hO2.keep fun z hz _ => hset z (by omega)
            have HB3 : Hid (Below w.heap.size w ((((w2.setCell ⟨w1.heap.size, 0, none⟩ (.int .i64 q0)).setCell ⟨w1.heap.size, 1, none⟩ (.int .i64 q1)).setCell ⟨w1.heap.size, 2, none⟩ (.int .i64 q2)).setCell ⟨w1.heap.size, 3, none⟩ (.int .i64 q3))) :=
              ((((((HB.out.alloc (Nat.le_of_lt hs1) _).trans (hb2.mono (by omega))).setCell (by show w.heap.size ≤ w1.heap.size; exact HB1.out.size) _).setCell (by show w.heap.size ≤ w1.heap.size; exact HB1.out.size) _).setCell (by show w.heap.size ≤ w1.heap.size; exact HB1.out.size) _).setCell (by show w.heap.size ≤ w1.heap.size; exact HB1.out.size) _)
            have HP3 := Lib.hid (HP2.out.put q0 q1 q2 q3)
            have HG3 := Lib.hid (HG2.out.eq (hset w.heap.size (by have := HB1.out.size; have := cell_lt HG1.out.1; omega)))
            clear hset hO2 hb2 hk2 hne hne9 e9
            go_wp2
            go_roundw
            case rel => exact ⟨k + 1, _, _, by omega, by go_num, rfl, HO3, by rw [HPk.out]; exact HP3, HG3, HB3, HCh2⟩
            case measure => simp [intOf]; omega
          · have hqb : (q0 != s1) = true := by simpa using hq
            have HR : Hid (M.cirB l c = false) := M.cir_no3 (M.chn_prv_no (k := k) (by rw [HM.out]; exact hkm) (by rw [HM.out, hfr, hto]; exact hq))
            clear hfr hto hq HCh
            go_wp2
            go_ret
            rw [HR.out]
            exact ⟨rfl, HB.out.alloc HB.out.size _⟩
        · obtain rfl : k = m + 1 := by omega
          have HR : Hid (M.cirB l c = M.diffB (c.map (M.frI l))) := M.cir_yes (by have := HM.out; omega) (by rw [HL.out]; exact HV.out) (M.chn_prv (fun i hi => by have := HCh.out i (by have := HM.out; omega); rw [HM.out]; exact this))
          have HTk : Hid ((c.take (m + 1)).map (M.frI l) = c.map (M.frI l)) := by show _ = _; rw [List.take_of_length_le (by have := HM.out; omega)]
          have HNd : Hid (M.nodesB N (c.map (M.frI l)) = true) := M.nodes_map HE.out (by rw [HL.out]; exact HV.out)
          rw [HTk.out] at HO
          go_wp2_with fail
          refine (areDifferent N _ _ _ _ _ HO.out.ints' HNd.out N2).mono ?_
          rintro e w' ⟨rfl, hb⟩
          have HB2 := Lib.hid (HB.out.trans (hb.mono HB.out.size))
          clear hb
          go_wp2
          go_ret
          rw [HR.out]
          exact ⟨rfl, HB2.out⟩
end V
end Go.Proofs.YtlofnadpgnbmdaaGreat
