/- Texts laid together: Frx. -/
import Derived.Test.YtjbffpmelglegaaQa84
import Derived.Test.YtjbffpmelglegaaQa73
import Derived.Test.YtjbffpmelglegaaQa34
set_option linter.unusedSimpArgs false
set_option linter.unusedVariables false
set_option linter.unusedSectionVars false
namespace Go.Proofs.Ytjbffpmelglegaa
namespace M
theorem rdyM_bd {pl : List (Int × Int × Int × Int)} {pre : List Fr} {e : Int} {M t : Int} (hM : 0 ≤ M) (hp : ∀ p ∈ pl, 0 ≤ p.2.2.1 ∧ p.2.2.1 ≤ 1000) (hT : ∀ (x t : Int), t ∈ hsF pre x → 0 ≤ t ∧ t ≤ M) (h : rdyM pl pre e = some t) : 0 ≤ t ∧ t ≤ M + 1000 := by
  have key : ∀ (q : List (Int × Int × Int × Int)) (K : Int) (a t : Int), (∀ p ∈ q, 0 ≤ p.2.2.1 ∧ p.2.2.1 ≤ 1000) → 0 ≤ a ∧ a ≤ M + 1000 → q.foldl (fun acc p => rdyS pre K acc p e) (some a) = some t → 0 ≤ t ∧ t ≤ M + 1000 := by
    intro q K
    induction q with
    | nil => intro a t _ ha h; injection h with h; omega
    | cons p q ih =>
      intro a t hq ha h
      have hp := hq p List.mem_cons_self
      have hq' : ∀ p ∈ q, 0 ≤ p.2.2.1 ∧ p.2.2.1 ≤ 1000 := fun r hr => hq r (List.mem_cons_of_mem _ hr)
      rw [List.foldl_cons] at h
      by_cases c : p.2.1 = e ∧ p.2.2.2 < K
      · cases hf : findF pre p.1 (K - p.2.2.2) with
        | none =>
          have e1 : rdyS pre K (some a) p e = none := by unfold rdyS; simp only; rw [if_pos c, hf]
          rw [e1, foldS_none] at h
          cases h
        | some u =>
          have e1 : rdyS pre K (some a) p e = some (max a (u + p.2.2.1)) := by unfold rdyS; simp only; rw [if_pos c, hf]
          rw [e1] at h
          have hu := hT _ u (findF_mem hf)
          exact ih _ _ hq' (by omega) h
      · have e1 : rdyS pre K (some a) p e = some a := by unfold rdyS; simp only; rw [if_neg c]
        rw [e1] at h
        exact ih _ _ hq' ha h
  exact key pl _ 0 t hp (by omega) h
theorem hsF_bd {R : List Fr} {f : Fr} {A B : Int} (h : ∀ x t : Int, t ∈ hsF R x → 0 ≤ t ∧ t ≤ A) (hAB : A ≤ B) (hf : 0 ≤ f.2.2 ∧ f.2.2 ≤ B) : ∀ x t : Int, t ∈ hsF (R ++ [f]) x → 0 ≤ t ∧ t ≤ B := by
  intro x t ht
  rw [hsF_app] at ht
  by_cases q : f.1 = x
  · rw [if_pos q, List.mem_append] at ht
    rcases ht with ht | ht
    · have := h x t ht; omega
    · simp at ht; subst ht; exact hf
  · rw [if_neg q] at ht
    have := h x t ht; omega
end M
namespace V
set_option maxRecDepth 100000
open Go.RowKit
set_option maxRecDepth 100000 in
set_option maxHeartbeats 1000000 in
theorem pickF (K : Int → Prop) (g b off n cap : Nat) (w : World) (h : Src w g) (hn : 0 < n) (hm : n ≤ 100) (hbg : g < b) (hc : ∀ i, i < n → ∃ x : Int, K x ∧ w.cell? ⟨b, off + i, none⟩ = some (.int .i64 x)) :
    Calls Try.prog 97 #[.pointer (some ⟨g, 0, none⟩), .slice (some ⟨b, off, none⟩) n cap] w (fun e w' => ∃ x : Int, e = .returned (.int .i64 x) ∧ K x ∧ Src w' g ∧ Thr g w w') := by
  have hbl : b < w.heap.size := by obtain ⟨x, _, hx⟩ := hc 0 hn; exact cell_lt hx
  have hwf : (Lit.int .i64 (n : Int)).wf = true := wf_small _ (by omega) (by omega)
  go_enter Try.func97, Try.ntmps97
  go_wp2_with fail
  refine (next _ _ _ hwf h).mono ?_
  rintro e w1 ⟨x, rfl, hx1, hx2, hs, ht⟩
  obtain ⟨k, rfl⟩ := Int.eq_ofNat_of_zero_le hx1
  have hk : k < n := by omega
  obtain ⟨y, hy, hcy⟩ := hc k hk
  have hcy' : w1.cell? ⟨b, off + k, none⟩ = some (.int .i64 y) := by rw [ht.cell (p := ⟨b, off + k, none⟩) hbl (by show b ≠ g; omega)]; exact hcy
  have hki : (k : Int) < (n : Int) := by omega
  have HT := Lib.hid ht
  have HS := Lib.hid hs
  clear hc hcy ht hs hx2
  go_wp2
  go_ret
  exact ⟨y, rfl, hy, HS.out, HT.out⟩
theorem appendFr (w : World) {ops : Array Oper} {rest : List Oper} {o : Oper} {a : Act} {Q : Exit → Act → World → Prop} (hgd : o.guard = none) (s x : Operand)
    (ho : o.op = .call { callee := .builtin .append, args := #[s, x], argTypes := #[27, 27] }) (B : Nat) (v : Value) (l k : List M.Fr) (n m b off c : Nat) (hn : l.length = n) (hs : a.eval s = v) (hown : OwnFr w B v l) (hv : v ≠ .slice none 0 0)
    (hx : a.eval x = .slice (some ⟨b, off, none⟩) m c) (hk : Frs w (some ⟨b, off, none⟩) m k) (hlen : n + m ≤ 2000000) (hB : B ≤ w.heap.size)
    (h : ∀ v' w', AppF w B v (l ++ k) (n + m) v' w' → wpList Try.prog ops Q rest (a.put o.dst v') w') :
    wpList Try.prog ops Q (o :: rest) a w := by
  obtain ⟨i0, hi, hz0, hz1, hz2⟩ := infoF_parts
  refine wpList_append_own_at (w := w) hgd s x 27 ho B 77 i0 _ 3 24 Try.underlying27 hi hz0 hz1 hz2 rfl (by decide) v _ _ hs hown ⟨b, off, none⟩ m c (fcells k) hx (by rw [fcells_len, hk.1]) (frs_cells hk) fcells_one_cell (by unfold maxLen; omega) (by omega) hB ?_
  intro v' w' h2 h3 h4 h5
  exact h v' w' (appF_of hn hk.1 hown hv hB h2 h3 h4 h5)
theorem OwnFr.thr {w w' : World} {B g : Nat} {v : Value} {l : List M.Fr} (h : OwnFr w B v l) (ht : Thr g w w') (hB : g < B) : OwnFr w' B v l := h.keep (fun k h1 h2 => ht.other k (by omega) h2)
theorem GD.base {g rb gb : Nat} {w wr w' : World} {x : Int} {q n c : Nat} {l : List M.Pc} (h : GD g rb gb w wr x q n c l) {B : Nat} (h1 : gb < B) (h2 : rb < B) (h3 : q < B) (hb : Below B wr w') : GD g rb gb w w' x q n c l := by
  have hls := h.ls
  have hlr := h.lr
  have hlg := h.lg
  obtain ⟨r0, r1, r2, r3⟩ := h.res
  have hrb := hb.block rb h2
  have hgb := hb.block gb h1
  exact ⟨⟨(World.cell?_of_block (a := ⟨rb, 0, none⟩) hrb).trans r0, (World.cell?_of_block (a := ⟨rb, 1, none⟩) hrb).trans r1, (World.frozen?_of_block (a := ⟨rb, 0, none⟩) hrb).trans r2, (World.frozen?_of_block (a := ⟨rb, 1, none⟩) hrb).trans r3⟩,
    (World.cell?_of_block (a := ⟨gb, 0, none⟩) hgb).trans h.ev, (World.cell?_of_block (a := ⟨gb, 1, none⟩) hgb).trans h.pl, (World.frozen?_of_block (a := ⟨gb, 0, none⟩) hgb).trans h.f0, (World.frozen?_of_block (a := ⟨gb, 1, none⟩) hgb).trans h.f1, h.own.keepB fun k hq => hb.block k (by simp [Value.ownBlock] at hq; omega), h.qg, h.qr, h.gr, h.lr, h.lg, h.lq, h.ls,
    h.src.below (hb.mono (by omega)), ⟨h.thr.below.trans (hb.mono (by omega)), fun k k1 k2 => (hb.block k (by omega)).trans (h.thr.other k k1 k2)⟩⟩
set_option maxRecDepth 100000 in
set_option maxHeartbeats 2000000 in
theorem long14 (n : Nat) (hn : n ≤ 1000) (w : World) :
    Calls Try.prog 125 #[.int .i64 n] w fun z w' => ∃ g c R, z = .returned (.slice (some ⟨g, 0, none⟩) n c) ∧ OwnFr w' w.heap.size (.slice (some ⟨g, 0, none⟩) n c) R ∧ Below w.heap.size w w' := by
  have HO0 : Hid (OwnFr (w.alloc (.cells #[] 77)) w.heap.size (.slice (some ⟨w.heap.size, 0, none⟩) 0 0) []) := ownFr_lit0 w _ (Nat.le_refl _)
  have HB0 : Hid (Below w.heap.size w (w.alloc (.cells #[] 77))) := b_alloc w _
  go_enter Try.func125, Try.ntmps125
  go_wp2
  go_loopw [3, 4] (fun lv kv wr => ∃ (k g c : Nat) (R : List M.Fr), k ≤ n ∧ kv = .int .i64 ((k : Int) + 1) ∧ lv = .slice (some ⟨g, 0, none⟩) k c ∧ Hid (OwnFr wr w.heap.size (.slice (some ⟨g, 0, none⟩) k c) R) ∧ Hid (Below w.heap.size w wr)) (fun _ kv _ => n + 1 - (intOf kv).toNat)
  case atStart => exact ⟨0, _, _, _, Nat.zero_le _, rfl, rfl, HO0, HB0⟩
  case round =>
    obtain ⟨k, g, c, R, hk, rfl, rfl, HO, HB⟩ := hrel
    obtain ⟨wo, rfl⟩ : ∃ x, x = wr := ⟨_, rfl⟩
    clear HO0 HB0
    obtain ⟨κ, hκ⟩ : ∃ κ : Int, κ = (k : Int) + 1 := ⟨_, rfl⟩
    have HRl : Hid (R.length = k) := HO.out.len.symm
    rw [← hκ]
    by_cases hkl : k < n
    · have hki : κ ≤ (n : Int) := by omega
      have HK := Lib.hid hκ
      have hκb : 1 ≤ κ ∧ κ ≤ 1000 := by omega
      have hw : wrap64 (κ + 1) = κ + 1 := IntWalk.wrap64_in _ ⟨by omega, by omega⟩
      have HOa : Hid (OwnFr (wo.alloc (.cells #[.int .i64 0, .int .i64 κ, .int .i64 κ] 77)) w.heap.size (.slice (some ⟨g, 0, none⟩) k c) R) := HO.out.below (b_alloc wo _)
      have HBa : Hid (Below w.heap.size w (wo.alloc (.cells #[.int .i64 0, .int .i64 κ, .int .i64 κ] 77))) := HB.out.alloc HB.out.size _
      have HFn := Lib.hid (frs_one wo 0 κ κ)
      have hsz := HBa.out.size
      clear hκ
      go_wp2_with (at_builtin; refine appendFr _ rfl (.tmp 11) (.tmp 15) rfl w.heap.size (.slice (some ⟨g, 0, none⟩) k c) _ _ k 1 _ 0 1 HRl.out rfl HOa.out (by simp) rfl HFn.out (by omega) hsz ?_)
      rintro v4 w4 ⟨g4, c4, rfl, ho4, hb4, -, -⟩
      have HO4 := Lib.hid ho4
      have HB4 := Lib.hid (HBa.out.trans hb4)
      clear ho4 hb4
      go_wp2
      go_roundw
      case rel => exact ⟨k + 1, _, _, _, by omega, by rw [HK.out]; go_num, rfl, HO4, HB4⟩
      case measure => (have q := HK.out; simp [intOf]; omega)
    · obtain rfl : k = n := by omega
      have hki : ¬ κ ≤ (k : Int) := by omega
      clear hκ
      go_wp2
      go_ret
      exact ⟨_, _, rfl, ⟨R, HO.out⟩, HB.out⟩
/-- A drawn graph and a drawn run. -/
def DrawGF (g : Nat) (w : World) (e : Ending) (w' : World) : Prop :=
  ∃ (x : Int) (pa : Option Addr) (n c : Nat) (l : List M.Pc) (fa : Option Addr) (m c2 : Nat) (R : List M.Fr), e = .returned (.tuple #[.agg #[.int .i64 x, .slice pa n c], .slice fa m c2]) ∧ (∀ W : World, (∀ k, w.heap.size ≤ k → k < w'.heap.size → W.heap[k]? = w'.heap[k]?) → Pls W pa n l ∧ Frs W fa m R) ∧ m ≤ c2 ∧ c2 ≤ maxLen ∧ n ≤ 60 ∧ Src w' g ∧ Thr g w w'
set_option maxRecDepth 100000 in
set_option maxHeartbeats 16000000 in
theorem draw14 (g : Nat) (w : World) (h : Src w g) :
    Calls Try.prog 82 #[.pointer (some ⟨g, 0, none⟩)] w (DrawGF g w) := by
  have HS := Lib.hid h
  have hg := h.lt
  clear h
  go_enter Try.func82, Try.ntmps82
  go_wp2_with fail
  refine (draw11 g _ (HS.out.alloc _)).mono ?_
  rintro e w2 ⟨x, q, n, c, l, rfl, ho, hn60, wfx, hs, ht⟩
  have hq := (ho.lt (k := q) rfl).1
  have hql := (ho.lt (k := q) rfl).2
  simp at hq
  have hb1 : w.heap.size < w2.heap.size := by omega
  have HGD0 : Hid (GD g w.heap.size w2.heap.size w (w2.alloc (.cells #[.int .i64 x, .slice (some ⟨q, 0, none⟩) n c] 41)) x q n c l) := by
    have hb2 := b_alloc w2 (.cells #[.int .i64 x, .slice (some ⟨q, 0, none⟩) n c] 41)
    have hr := (resG_new w 41).thr ht hg
    have ht1 := ((Thr.refl g w).alloc (Nat.le_of_lt hg) _).trans ht
    exact ⟨hr.below hb2, by simp [go_sem], by simp [go_sem], by simp [go_sem], by simp [go_sem], (ho.below hb2).mono (by simp), by omega, by omega, by omega, Nat.le_refl _, by omega, by omega, hg, hs.below (hb2.mono (by omega)), ht1.trans (Thr.of_below hb2 (by omega))⟩
  obtain ⟨gb, hgb⟩ : ∃ b, b = w2.heap.size := ⟨_, rfl⟩
  obtain ⟨w3, hw3⟩ : ∃ z, z = w2.alloc (.cells #[.int .i64 x, .slice (some ⟨q, 0, none⟩) n c] 41) := ⟨_, rfl⟩
  have hgl : gb < w3.heap.size := by rw [hw3, hgb]; simp
  have hql3 : q < w3.heap.size := by rw [hw3, World.size_alloc]; omega
  have hrl3 : w.heap.size < w3.heap.size := by rw [hw3, World.size_alloc]; omega
  rw [← hw3, ← hgb] at HGD0
  have HW3 := Lib.hid hw3.symm
  have HGb := Lib.hid hgb.symm
  clear ho hs ht hw3 hgb hq hql hb1
  go_upto_region 2 with fail
  rw [HW3.out, HGb.out]
  clear HW3 HGb
  -- the list is new
  have HGD1 : Hid (GD g w.heap.size gb w (w3.alloc (.cells #[] 77)) x q n c l) := HGD0.out.below (b_alloc w3 _)
  have HO1 : Hid (OwnFr (w3.alloc (.cells #[] 77)) w3.heap.size (.slice (some ⟨w3.heap.size, 0, none⟩) 0 0) []) := ownFr_lit0 w3 _ (Nat.le_refl _)
  have HPl1 : Hid (Pls (w3.alloc (.cells #[] 77)) (some ⟨q, 0, none⟩) n l) := HGD1.out.own.pls
  obtain ⟨r, hr⟩ : ∃ r, r = M.isGr x l := ⟨_, rfl⟩
  have HCs := Lib.hid (sIsEventGraph x (some ⟨q, 0, none⟩) n c l _ HPl1.out)
  have HRr := Lib.hid hr
  have hev := HGD1.out.ev
  have hpl := HGD1.out.pl
  clear hr HGD0
  go_wp2_with fail
  refine (HCs.out).mono ?_
  rintro z w4 ⟨rfl, hb4⟩
  rw [← HRr.out]
  have HGD4 := Lib.hid (HGD1.out.below hb4)
  have HO4 := Lib.hid (HO1.out.below hb4)
  clear hb4 hev hpl HGD1 HO1 HPl1 HCs
  have hev := HGD4.out.ev
  have hpl := HGD4.out.pl
  cases r with
  | false =>
    obtain ⟨r0, r1, r2, r3⟩ := HGD4.out.res
    have HF := Lib.hid (HGD4.out.fin)
    have hrl : w.heap.size < w4.heap.size := cell_lt r0
    have HOf : Hid (OwnFr ((w4.setCell ⟨w.heap.size, 0, none⟩ (.int .i64 x)).setCell ⟨w.heap.size, 1, none⟩ (.slice (some ⟨q, 0, none⟩) n c)) w3.heap.size (.slice (some ⟨w3.heap.size, 0, none⟩) 0 0) []) := HO4.out.keep fun k k1 _ => (Below.heap_setCell _ _ _ _ (by show k ≠ w.heap.size; omega)).trans (Below.heap_setCell _ _ _ _ (by show k ≠ w.heap.size; omega))
    go_wp2
    exact bodyPost_ret (v := .tuple #[.agg #[.int .i64 x, .slice (some ⟨q, 0, none⟩) n c], .slice (some ⟨w3.heap.size, 0, none⟩) 0 0]) (by simp [results, Try.results82, go_sem, r0, r1, hrl]) rfl ⟨_, _, _, _, _, _, _, _, _, rfl, fun W hk => ⟨(HF.out.1.keep hk).pls, (HOf.out.keep fun k k1 k2 => hk k (by omega) k2).frs⟩, Nat.le_refl _, Nat.zero_le _, hn60, HF.out.2.1, HF.out.2.2⟩
  | true =>
    obtain ⟨N, rfl⟩ := M.isGr_nat HRr.out.symm
    have HG := Lib.hid HRr.out.symm
    obtain ⟨n1, n2, -⟩ := gr_NF HG.out
    have wfN : (Lit.int .i64 (N : Int)).wf = true := wf_small _ (by omega) (by omega)
    have HPd : Hid (∀ p ∈ l, 0 ≤ p.2.2.1 ∧ p.2.2.1 ≤ 1000) := fun p hp => by
      obtain ⟨k, hk, he⟩ := List.mem_iff_getElem.1 hp
      obtain ⟨i, j, -, -, -, -, e2, e2', -, -⟩ := gr_atF HG.out hk (p0 := p.1) (p1 := p.2.1) (p2 := p.2.2.1) (p3 := p.2.2.2) (by rw [List.getD_eq_getElem?_getD, List.getElem?_eq_getElem hk]; exact he)
      exact ⟨e2, e2'⟩
    clear hev hpl wfx HRr
    go_wp2_with fail
    refine (next _ _ _ (by decide) HGD4.out.src).mono ?_
    rintro z w5 ⟨y0, rfl, hy1, hy2, hs, ht⟩
    have HGD5 := Lib.hid (HGD4.out.step hs ht)
    have HO5 := Lib.hid (HO4.out.thr ht (by omega))
    clear hs ht HGD4 HO4
    have hy16 : y0 ≤ 15 := by omega
    clear hy2
    go_wp2
    go_loopw [5, 6, 7] (fun lv nv kv wr => ∃ (m g2 c2 : Nat) (R : List M.Fr) (y now : Int), lv = .slice (some ⟨g2, 0, none⟩) m c2 ∧ nv = .int .i64 now ∧ kv = .int .i64 y ∧ 0 ≤ y ∧ (m : Int) + y ≤ 16 ∧ 0 ≤ now ∧ now + 2000 * y ≤ 40000 ∧ Hid (∀ x t : Int, t ∈ M.hsF R x → 0 ≤ t ∧ t ≤ now) ∧ Hid (OwnFr wr w3.heap.size (.slice (some ⟨g2, 0, none⟩) m c2) R) ∧ Hid (GD g w.heap.size gb w wr N q n c l)) (fun _ _ kv _ => (intOf kv).toNat)
    case atStart => exact ⟨0, _, _, [], y0, 0, rfl, rfl, rfl, hy1, by omega, by omega, by omega, fun x t ht => by simp [M.hsF] at ht, HO5, HGD5⟩
    case round =>
      clear HGD5 HO5 hy1 hy16
      obtain ⟨m, g2, c2, R, y, now, rfl, rfl, rfl, hy0, hmy, hn0, hn1, HT, HO, HGD⟩ := hrel
      obtain ⟨wo, rfl⟩ : ∃ x, x = wr := ⟨_, rfl⟩
      by_cases hyp : y > 0
      · have hev := HGD.out.ev
        go_wp2_with fail
        refine (next _ _ _ wfN HGD.out.src).mono ?_
        rintro z w6 ⟨ye, rfl, he1, he2, hs, ht⟩
        have HGD6 := Lib.hid (HGD.out.step hs ht)
        have HO6 := Lib.hid (HO.out.thr ht (by omega))
        clear hs ht HGD HO hev
        obtain ⟨e, rfl⟩ : ∃ e : Nat, ye = (e : Int) := ⟨ye.toNat, by omega⟩
        have hev := HGD6.out.ev
        have hpl := HGD6.out.pl
        have hcall := sReady14 N (some ⟨q, 0, none⟩) n c l (some ⟨g2, 0, none⟩) m c2 R e w6 HGD6.out.own.pls HG.out HO6.out.frs (fun x t ht => by have := HT.out x t ht; omega) (by omega)
        obtain ⟨F, hF⟩ : ∃ F, F = M.rdyM l R (e : Int) := ⟨_, rfl⟩
        have HFb : Hid (∀ t, F = some t → 0 ≤ t ∧ t ≤ now + 1000) := fun t q => M.rdyM_bd hn0 HPd.out HT.out (hF.symm.trans q)
        rw [← hF] at hcall
        have HCa := Lib.hid hcall
        clear hcall hF he1 he2
        go_wp2_with fail
        refine (HCa.out).mono ?_
        rintro z w7 ⟨rfl, hb7⟩
        have HGD7 := Lib.hid (HGD6.out.below hb7)
        have HO7 := Lib.hid (HO6.out.below hb7)
        clear hb7 hev hpl HGD6 HO6 HCa
        have hwy : wrap64 (y - 1) = y - 1 := IntWalk.wrap64_in _ ⟨by omega, by omega⟩
        have hwy' : IntKind.i64.wrap (y - 1) = y - 1 := IntWalk.i64_in _ (by omega)
        cases F with
        | none =>
          unfold fndV
          clear HFb
          go_wp2
          go_roundw
          case rel => exact ⟨m, g2, c2, R, y - 1, now, rfl, rfl, rfl, by omega, by omega, hn0, by omega, HT, HO7, HGD7⟩
          case measure => simp [intOf]; omega
        | some t =>
          have htb := HFb.out t rfl
          unfold fndV
          clear HFb
          go_upto_region 12 with fail
          go_cut [6] (fun nv wx => ∃ nw : Int, nv = .int .i64 nw ∧ now ≤ nw ∧ nw ≤ now + 1003 ∧ Hid (OwnFr wx w3.heap.size (.slice (some ⟨g2, 0, none⟩) m c2) R) ∧ Hid (GD g w.heap.size gb w wx N q n c l))
          case first =>
            go_wp2_with fail
            refine (next _ _ _ (by decide) HGD7.out.src).mono ?_
            rintro z w8 ⟨d, rfl, hd1, hd2, hs, ht⟩
            have HGD8 := Lib.hid (HGD7.out.step hs ht)
            have HO8 := Lib.hid (HO7.out.thr ht (by omega))
            clear hs ht HGD7 HO7
            have hd7 : d ≤ 7 := by omega
            have hwd : wrap64 (d - 4) = d - 4 := IntWalk.wrap64_in _ ⟨by omega, by omega⟩
            have hwd' : IntKind.i64.wrap (d - 4) = d - 4 := IntWalk.i64_in _ (by omega)
            have hwt : wrap64 (t + (d - 4)) = t + (d - 4) := IntWalk.wrap64_in _ ⟨by omega, by omega⟩
            have hwt0 : wrap64 t = t := IntWalk.wrap64_in _ ⟨by omega, by omega⟩
            clear hd2
            go_wp2
            all_goals
              go_meet
              exact ⟨_, rfl, by omega, by omega, HO8, HGD8⟩
          case rest =>
            obtain ⟨w8, hw8⟩ : ∃ z, z = wc := ⟨_, rfl⟩
            subst hw8
            obtain ⟨nw, rfl, hnw1, hnw2, HO8, HGD8⟩ := hcut
            clear HGD7 HO7 htb
            obtain ⟨cn, hcn⟩ : ∃ cn, cn = M.cntF R (e : Int) := ⟨_, rfl⟩
            have HRl : Hid (R.length = m) := HO8.out.len.symm
            have hcnb : cn ≤ 16 := by rw [hcn]; have := M.cntF_le R (e : Int); rw [HRl.out] at this; omega
            have HCt : Hid (Calls Try.prog 69 #[.slice (some ⟨g2, 0, none⟩) m c2, .int .i64 e] w8 fun z w' => z = .returned (.int .i64 cn) ∧ w' = w8) := by rw [hcn]; exact sCount _ _ _ R e w8 HO8.out.frs
            have HOa : Hid (OwnFr (w8.alloc (.cells #[.int .i64 e, .int .i64 ((cn : Int) + 1), .int .i64 nw] 77)) w3.heap.size (.slice (some ⟨g2, 0, none⟩) m c2) R) := HO8.out.below (b_alloc w8 _)
            have HFn := Lib.hid (frs_one w8 e ((cn : Int) + 1) nw)
            have HGa := Lib.hid (HGD8.out.below (b_alloc w8 (.cells #[.int .i64 e, .int .i64 ((cn : Int) + 1), .int .i64 nw] 77)))
            have hszg : w3.heap.size ≤ (w8.alloc (.cells #[.int .i64 e, .int .i64 ((cn : Int) + 1), .int .i64 nw] 77)).heap.size := by
              have := (HO8.out.lt (k := g2) rfl)
              rw [World.size_alloc]; omega
            have hwc : wrap64 ((cn : Int) + 1) = (cn : Int) + 1 := IntWalk.wrap64_in _ ⟨by omega, by omega⟩
            clear hcn HGD8 HO8
            go_wp2_with fail
            refine (HCt.out).mono ?_
            rintro z w9 ⟨rfl, rfl⟩
            go_wp2_with (at_builtin; refine appendFr _ rfl (.tmp 47) (.tmp 55) rfl w3.heap.size (.slice (some ⟨g2, 0, none⟩) m c2) _ _ m 1 _ 0 1 HRl.out rfl HOa.out (by simp) rfl HFn.out (by omega) hszg ?_)
            rintro v4 w10 ⟨g4, c4, rfl, ho4, hb4, -, -⟩
            have HO10 := Lib.hid ho4
            have HGD10 := Lib.hid (HGa.out.base hgl hrl3 hql3 hb4)
            have HT2 := Lib.hid (M.hsF_bd (f := ((e : Int), (cn : Int) + 1, nw)) HT.out hnw1 (by simp only; omega))
            clear ho4 hb4
            go_wp2
            go_roundw
            case rel => exact ⟨m + 1, g4, c4, _, y - 1, nw, rfl, rfl, rfl, by omega, by omega, by omega, by omega, HT2, HO10, HGD10⟩
            case measure => simp [intOf]; omega
      · have hyn : ¬ y > 0 := hyp
        go_upto_if 59 with fail
        go_cut [5] (fun lv wx => lv = .slice (some ⟨g2, 0, none⟩) m c2 ∧ ∃ R : List M.Fr, OwnFr wx w3.heap.size (.slice (some ⟨g2, 0, none⟩) m c2) R ∧ GD g w.heap.size gb w wx N q n c l)
        case first =>
          by_cases hm0 : m > 0
          · have wfm : (Lit.int .i64 (m : Int)).wf = true := wf_small _ (by omega) (by omega)
            have hmi : (m : Int) > 0 := by omega
            go_wp2_with fail
            refine (next _ _ _ wfm HGD.out.src).mono ?_
            rintro z w6 ⟨yk, rfl, hk1, hk2, hs, ht⟩
            have HGD6 := Lib.hid (HGD.out.step hs ht)
            have HO6 := Lib.hid (HO.out.thr ht (by omega))
            clear hs ht HGD HO
            obtain ⟨i, rfl⟩ : ∃ i : Nat, yk = (i : Int) := ⟨yk.toNat, by omega⟩
            have him : i < m := by omega
            have hii : (i : Int) < (m : Int) := by omega
            clear hk1 hk2
            go_wp2_with fail
            refine (next _ _ _ (by decide) HGD6.out.src).mono ?_
            rintro z w7 ⟨cs, rfl, hc1, hc2, hs, ht⟩
            have HGD7 := Lib.hid (HGD6.out.step hs ht)
            have HO7 := Lib.hid (HO6.out.thr ht (by omega))
            have hg2B := (HO7.out.lt (k := g2) rfl).1
            have hg2l := (HO7.out.lt (k := g2) rfl).2
            clear hs ht HGD6 HO6 hc1 hc2
            obtain ⟨pb, off, p0, p1, p2, hpe, -, -, d0, d1, d2⟩ := HO7.out.frs.at i him
            injection hpe with hpe
            injection hpe with e1 e2
            subst e1 e2
            rw [Nat.zero_add] at d0 d1 d2
            obtain ⟨-, -, -, f0, f1, f2⟩ := HO7.out.room him
            by_cases h0 : cs = 0
            · subst h0
              go_wp2
              go_meet
              exact ⟨rfl, _, HO7.out.setF (i := i) (j := 2) _ him (by omega), HGD7.out.base hgl hrl3 hql3 ((Below.refl _ _).setCell (p := ⟨g2, i * 3 + 2, none⟩) hg2B _)⟩
            · have h0b : (cs == 0) = false := by simpa using h0
              by_cases h1 : cs = 1
              · subst h1
                obtain ⟨u, hu⟩ : ∃ u, u = wrap64 (p1 + 1) := ⟨_, rfl⟩
                have HCp : Hid (Calls Try.prog 97 #[.pointer (some ⟨g, 0, none⟩), .slice (some ⟨w7.heap.size, 0, none⟩) 2 2] (w7.alloc (.cells #[.int .i64 0, .int .i64 u] 2)) fun e w' => ∃ x : Int, e = .returned (.int .i64 x) ∧ True ∧ Src w' g ∧ Thr g (w7.alloc (.cells #[.int .i64 0, .int .i64 u] 2)) w') := by
                  refine pickF (fun _ => True) g w7.heap.size 0 2 2 _ (HGD7.out.src.alloc _) (by omega) (by omega) (by omega) fun j hj => ?_
                  have hj2 : j = 0 ∨ j = 1 := by omega
                  rcases hj2 with rfl | rfl
                  · exact ⟨0, trivial, by simp [go_sem]⟩
                  · exact ⟨u, trivial, by simp [go_sem]⟩
                have HGDa := Lib.hid (HGD7.out.below (b_alloc w7 (.cells #[.int .i64 0, .int .i64 u] 2)))
                have HOa := Lib.hid (HO7.out.below (b_alloc w7 (.cells #[.int .i64 0, .int .i64 u] 2)))
                have hu2 : wrap64 (p1 + 1) = u := hu.symm
                clear hu HGD7 HO7
                go_wp2_with fail
                refine (HCp.out).mono ?_
                rintro z w8 ⟨v, rfl, -, hs, ht⟩
                have HGD8 := Lib.hid (HGDa.out.step hs ht)
                have HO8 := Lib.hid (HOa.out.thr ht (by omega))
                clear hs ht HGDa HOa HCp f0 f1 f2 d0 d1 d2
                obtain ⟨⟨x0, d0⟩, ⟨x1, d1⟩, ⟨x2, d2⟩, f0, f1, f2⟩ := HO8.out.room him
                go_wp2
                go_meet
                exact ⟨rfl, _, HO8.out.setF (i := i) (j := 1) _ him (by omega), HGD8.out.base hgl hrl3 hql3 ((Below.refl _ _).setCell (p := ⟨g2, i * 3 + 1, none⟩) hg2B _)⟩
              · have h1b : (cs == 1) = false := by simpa using h1
                by_cases h2 : cs = 2
                · subst h2
                  have HCp : Hid (Calls Try.prog 97 #[.pointer (some ⟨g, 0, none⟩), .slice (some ⟨w7.heap.size, 0, none⟩) 3 3] (w7.alloc (.cells #[.int .i64 (-1), .int .i64 N, .int .i64 0] 2)) fun e w' => ∃ x : Int, e = .returned (.int .i64 x) ∧ True ∧ Src w' g ∧ Thr g (w7.alloc (.cells #[.int .i64 (-1), .int .i64 N, .int .i64 0] 2)) w') := by
                    refine pickF (fun _ => True) g w7.heap.size 0 3 3 _ (HGD7.out.src.alloc _) (by omega) (by omega) (by omega) fun j hj => ?_
                    have hj2 : j = 0 ∨ j = 1 ∨ j = 2 := by omega
                    rcases hj2 with rfl | rfl | rfl
                    · exact ⟨-1, trivial, by simp [go_sem]⟩
                    · exact ⟨(N : Int), trivial, by simp [go_sem]⟩
                    · exact ⟨0, trivial, by simp [go_sem]⟩
                  have HGDa := Lib.hid (HGD7.out.below (b_alloc w7 (.cells #[.int .i64 (-1), .int .i64 N, .int .i64 0] 2)))
                  have HOa := Lib.hid (HO7.out.below (b_alloc w7 (.cells #[.int .i64 (-1), .int .i64 N, .int .i64 0] 2)))
                  have hev := HGD7.out.ev
                  clear HGD7 HO7
                  go_wp2_with fail
                  refine (HCp.out).mono ?_
                  rintro z w8 ⟨v, rfl, -, hs, ht⟩
                  have HGD8 := Lib.hid (HGDa.out.step hs ht)
                  have HO8 := Lib.hid (HOa.out.thr ht (by omega))
                  clear hs ht HGDa HOa HCp f0 f1 f2 d0 d1 d2 hev
                  obtain ⟨⟨x0, d0⟩, ⟨x1, d1⟩, ⟨x2, d2⟩, f0, f1, f2⟩ := HO8.out.room him
                  go_wp2
                  go_meet
                  exact ⟨rfl, _, HO8.out.setF (i := i) (j := 0) _ him (by omega), HGD8.out.base hgl hrl3 hql3 ((Below.refl _ _).setCell (p := ⟨g2, i * 3, none⟩) hg2B _)⟩
                · have h2b : (cs == 2) = false := by simpa using h2
                  by_cases h3 : cs = 3
                  · subst h3
                    have hmm : m - 1 < m := by omega
                    have hw3 : wrap64 ((m : Int) - 1) = (m : Int) - 1 := IntWalk.wrap64_in _ ⟨by omega, by omega⟩
                    have HCp : Hid (Calls Try.prog 97 #[.pointer (some ⟨g, 0, none⟩), .slice (some ⟨w7.heap.size, 0, none⟩) 3 3] (w7.alloc (.cells #[.int .i64 1000000, .int .i64 1000001, .int .i64 9223372036854775807] 2)) fun e w' => ∃ x : Int, e = .returned (.int .i64 x) ∧ True ∧ Src w' g ∧ Thr g (w7.alloc (.cells #[.int .i64 1000000, .int .i64 1000001, .int .i64 9223372036854775807] 2)) w') := by
                      refine pickF (fun _ => True) g w7.heap.size 0 3 3 _ (HGD7.out.src.alloc _) (by omega) (by omega) (by omega) fun j hj => ?_
                      have hj2 : j = 0 ∨ j = 1 ∨ j = 2 := by omega
                      rcases hj2 with rfl | rfl | rfl
                      · exact ⟨1000000, trivial, by simp [go_sem]⟩
                      · exact ⟨1000001, trivial, by simp [go_sem]⟩
                      · exact ⟨9223372036854775807, trivial, by simp [go_sem]⟩
                    have HGDa := Lib.hid (HGD7.out.below (b_alloc w7 (.cells #[.int .i64 1000000, .int .i64 1000001, .int .i64 9223372036854775807] 2)))
                    have HOa := Lib.hid (HO7.out.below (b_alloc w7 (.cells #[.int .i64 1000000, .int .i64 1000001, .int .i64 9223372036854775807] 2)))
                    clear HGD7 HO7 f0 f1 f2 d0 d1 d2
                    go_wp2_with fail
                    refine (HCp.out).mono ?_
                    rintro z w8 ⟨v, rfl, -, hs, ht⟩
                    have HGD8 := Lib.hid (HGDa.out.step hs ht)
                    have HO8 := Lib.hid (HOa.out.thr ht (by omega))
                    clear hs ht HGDa HOa HCp
                    obtain ⟨⟨x0, d0⟩, ⟨x1, d1⟩, ⟨x2, d2⟩, f0, f1, f2⟩ := HO8.out.room hmm
                    go_wp2
                    go_meet
                    exact ⟨rfl, _, HO8.out.setF (i := m - 1) (j := 2) _ hmm (by omega), HGD8.out.base hgl hrl3 hql3 ((Below.refl _ _).setCell (p := ⟨g2, (m - 1) * 3 + 2, none⟩) hg2B _)⟩
                  · have h3b : (cs == 3) = false := by simpa using h3
                    go_wp2
                    go_meet
                    exact ⟨rfl, _, HO7.out, HGD7.out⟩
          · have hmi : ¬ (m : Int) > 0 := by omega
            go_wp2
            go_meet
            exact ⟨rfl, _, HO.out, HGD.out⟩
        case rest =>
          obtain ⟨w6, hw6⟩ : ∃ z, z = wc := ⟨_, rfl⟩
          subst hw6
          obtain ⟨rfl, R6, hO6, hGD6⟩ := hcut
          have HO6 := Lib.hid hO6
          have HGD6 := Lib.hid hGD6
          clear hO6 hGD6 HO HGD HT
          go_wp2_with fail
          refine (next _ _ _ (by decide) HGD6.out.src).mono ?_
          rintro z w7 ⟨fin, rfl, hf1, hf2, hs, ht⟩
          have HGD7 := Lib.hid (HGD6.out.step hs ht)
          have HO7 := Lib.hid (HO6.out.thr ht (by omega))
          clear hs ht HGD6 HO6 hf1 hf2
          obtain ⟨r0, r1, r2, r3⟩ := HGD7.out.res
          have hrl : w.heap.size < w7.heap.size := cell_lt r0
          have hgw := HGD7.out.ls
          by_cases hfin : fin = 0
          · subst hfin
            have HP0 : Hid (Below w7.heap.size w7 (w7.alloc (.cells #[] 52))) := b_alloc w7 _
            have hb2 : Below w7.heap.size w7 ((w7.alloc (.cells #[] 52)).alloc (.cells #[.int .i64 50, .int .i64 51, .int .i64 500, .int .i64 501] 2)) := b_alloc2 w7 _ _
            obtain ⟨w8, hw8⟩ : ∃ z, z = (w7.alloc (.cells #[] 52)).alloc (.cells #[.int .i64 50, .int .i64 51, .int .i64 500, .int .i64 501] 2) := ⟨_, rfl⟩
            have HCp : Hid (Calls Try.prog 97 #[.pointer (some ⟨g, 0, none⟩), .slice (some ⟨w7.heap.size + 1, 0, none⟩) 4 4] w8 fun e w' => ∃ x : Int, e = .returned (.int .i64 x) ∧ (∃ nn : Nat, nn ≤ 501 ∧ x = (nn : Int)) ∧ Src w' g ∧ Thr g w8 w') := by
              refine pickF (fun x => ∃ nn : Nat, nn ≤ 501 ∧ x = (nn : Int)) g (w7.heap.size + 1) 0 4 4 _ (by rw [hw8]; exact (HGD7.out.src.alloc _).alloc _) (by omega) (by omega) (by omega) fun j hj => ?_
              have hj2 : j = 0 ∨ j = 1 ∨ j = 2 ∨ j = 3 := by omega
              rcases hj2 with rfl | rfl | rfl | rfl
              · exact ⟨50, ⟨50, by omega, rfl⟩, by rw [hw8]; simp [go_sem]⟩
              · exact ⟨51, ⟨51, by omega, rfl⟩, by rw [hw8]; simp [go_sem]⟩
              · exact ⟨500, ⟨500, by omega, rfl⟩, by rw [hw8]; simp [go_sem]⟩
              · exact ⟨501, ⟨501, by omega, rfl⟩, by rw [hw8]; simp [go_sem]⟩
            rw [← hw8] at hb2
            have HGD8 := Lib.hid (HGD7.out.below hb2)
            have HW8 := Lib.hid hw8.symm
            clear hb2 hw8 HP0
            go_wp2_with fail
            rw [HW8.out]
            refine (HCp.out).mono ?_
            rintro z w9 ⟨v, rfl, ⟨nn, hnn, rfl⟩, hs, ht⟩
            have HGD9 := Lib.hid (HGD8.out.step hs ht)
            have hz8 : w7.heap.size ≤ w8.heap.size := by rw [← HW8.out]; simp; omega
            have hz9 : w8.heap.size ≤ w9.heap.size := ht.below.size
            clear hs ht HGD8 HCp r0 r1 r2 r3
            go_wp2_with fail
            refine (long14 nn (by omega) w9).mono ?_
            rintro z w10 ⟨g9, c9, R9, rfl, ho9, hb10⟩
            have HGD10 := Lib.hid (HGD9.out.below hb10)
            have HO10 := Lib.hid ho9
            obtain ⟨fa', fc', hfe, hfle, hfml, -⟩ := ho9.form
            injection hfe with e1 e2 e3
            subst e1 e3
            rw [← e2] at hfle
            have HLe := Lib.hid hfle
            have HMl := Lib.hid hfml
            clear hfle hfml e2 hb10 ho9
            obtain ⟨r0, r1, r2, r3⟩ := HGD10.out.res
            have hrl10 : w.heap.size < w10.heap.size := cell_lt r0
            have hk : ∀ k, k ≠ w.heap.size → ((w10.setCell ⟨w.heap.size, 0, none⟩ (.int .i64 1)).setCell ⟨w.heap.size, 1, none⟩ (.slice (some ⟨w7.heap.size, 0, none⟩) 0 0)).heap[k]? = w10.heap[k]? := fun k hk => (Below.heap_setCell _ _ _ _ (by show k ≠ w.heap.size; omega)).trans (Below.heap_setCell _ _ _ _ (by show k ≠ w.heap.size; omega))
            have HOf : Hid (OwnFr ((w10.setCell ⟨w.heap.size, 0, none⟩ (.int .i64 1)).setCell ⟨w.heap.size, 1, none⟩ (.slice (some ⟨w7.heap.size, 0, none⟩) 0 0)) w9.heap.size (.slice (some ⟨g9, 0, none⟩) nn c9) R9) := HO10.out.keep fun k k1 _ => hk k (by omega)
            have HSrc : Hid (Src ((w10.setCell ⟨w.heap.size, 0, none⟩ (.int .i64 1)).setCell ⟨w.heap.size, 1, none⟩ (.slice (some ⟨w7.heap.size, 0, none⟩) 0 0)) g) := HGD10.out.src.below (((Below.refl _ _).setCell (p := ⟨w.heap.size, 0, none⟩) (by show g + 1 ≤ w.heap.size; omega) _).setCell (p := ⟨w.heap.size, 1, none⟩) (by show g + 1 ≤ w.heap.size; omega) _)
            have HThr : Hid (Thr g w ((w10.setCell ⟨w.heap.size, 0, none⟩ (.int .i64 1)).setCell ⟨w.heap.size, 1, none⟩ (.slice (some ⟨w7.heap.size, 0, none⟩) 0 0))) := ⟨(HGD10.out.thr.below.setCell (p := ⟨w.heap.size, 0, none⟩) (by show g ≤ w.heap.size; omega) _).setCell (p := ⟨w.heap.size, 1, none⟩) (by show g ≤ w.heap.size; omega) _, fun k h1 h2 => (hk k (by omega)).trans (HGD10.out.thr.other k h1 h2)⟩
            clear hk
            go_wp2
            exact bodyPost_ret (v := .tuple #[.agg #[.int .i64 1, .slice (some ⟨w7.heap.size, 0, none⟩) 0 0], .slice (some ⟨g9, 0, none⟩) nn c9]) (by simp [results, Try.results82, go_sem, r0, r1, hrl10]) rfl ⟨_, _, _, _, [], _, _, _, _, rfl, fun W hk => ⟨⟨rfl, Nat.zero_le _, .inl rfl⟩, (HOf.out.keep fun k k1 k2 => hk k (by omega) k2).frs⟩, HLe.out, HMl.out, Nat.zero_le _, HSrc.out, HThr.out⟩
          · have hfb : (fin == 0) = false := by simpa using hfin
            have hev := HGD7.out.ev
            have hpl := HGD7.out.pl
            have HF := Lib.hid (HGD7.out.fin)
            have HOf : Hid (OwnFr ((w7.setCell ⟨w.heap.size, 0, none⟩ (.int .i64 N)).setCell ⟨w.heap.size, 1, none⟩ (.slice (some ⟨q, 0, none⟩) n c)) w3.heap.size (.slice (some ⟨g2, 0, none⟩) m c2) R6) := HO7.out.keep fun k k1 _ => (Below.heap_setCell _ _ _ _ (by show k ≠ w.heap.size; omega)).trans (Below.heap_setCell _ _ _ _ (by show k ≠ w.heap.size; omega))
            obtain ⟨fa', fc', hfe, hfle, hfml, -⟩ := HO7.out.form
            injection hfe with e1 e2 e3
            subst e1 e3
            rw [← e2] at hfle
            have HLe := Lib.hid hfle
            have HMl := Lib.hid hfml
            clear hfle hfml e2 hfin
            go_wp2
            exact bodyPost_ret (v := .tuple #[.agg #[.int .i64 N, .slice (some ⟨q, 0, none⟩) n c], .slice (some ⟨g2, 0, none⟩) m c2]) (by simp [results, Try.results82, go_sem, r0, r1, hrl]) rfl ⟨_, _, _, _, _, _, _, _, _, rfl, fun W hk => ⟨(HF.out.1.keep hk).pls, (HOf.out.keep fun k k1 k2 => hk k (by omega) k2).frs⟩, HLe.out, HMl.out, hn60, HF.out.2.1, HF.out.2.2⟩
end V
end Go.Proofs.Ytjbffpmelglegaa
