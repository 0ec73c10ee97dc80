/- Texts laid together: Rbt. -/
import Derived.Test.YthonlfjjgmmnpabQe5
import Derived.Test.YthonlfjjgmmnpabQe10
import Derived.Test.YthonlfjjgmmnpabQe7
namespace Go.Proofs.Ythonlfjjgmmnpab
namespace M
variable {A : Nat → Nat → Int} {n : Nat}
/-- After r rounds. -/
def RI (A : Nat → Nat → Int) (n v r : Nat) (S : Nat → Bool) : Prop := (∀ i, S i = true → Rch A n v i) ∧ ∀ i, RcN A n v r i → S i = true
def MI (A : Nat → Nat → Int) (n v r i : Nat) (S : Nat → Bool) : Prop := RI A n v r S ∧ ∀ j, j < i → RcN A n v (r + 1) j → S j = true
def KI (A : Nat → Nat → Int) (n v r i k : Nat) (S : Nat → Bool) : Prop := MI A n v r i S ∧ ∀ j, j < k → RcN A n v r j → A i j ≠ -1000000000000000 → S i = true
theorem ri_start {v : Nat} (hv : v < n) : RI A n v 0 (upd (fun _ => false) v) :=
  ⟨fun i h => by unfold upd at h; simp at h; subst h; exact rch_self hv, fun i h => by have := rcn_zero h; subst this; unfold upd; simp⟩
theorem ki_set {v r i k : Nat} {S : Nat → Bool} (hi : i < n) (h : KI A n v r i k S) (hs : S k = true) (ha : A i k ≠ -1000000000000000) : KI A n v r i (k + 1) (upd S i) := by
  obtain ⟨⟨⟨h1, h2⟩, h3⟩, h4⟩ := h
  have hm : ∀ j, S j = true → upd S i j = true := fun j hj => by unfold upd; rw [hj, Bool.or_true]
  refine ⟨⟨⟨fun j hj => ?_, fun j hj => hm j (h2 j hj)⟩, fun j hj hr => hm j (h3 j hj hr)⟩, fun j _ _ _ => by unfold upd; simp⟩
  unfold upd at hj
  rw [Bool.or_eq_true, decide_eq_true_eq] at hj
  rcases hj with hj | hj
  · subst hj; exact rch_step (h1 k hs) hi ha
  · exact h1 j hj
theorem ki_skip {v r i k : Nat} {S : Nat → Bool} (h : KI A n v r i k S) (hs : S k = false ∨ A i k = -1000000000000000) : KI A n v r i (k + 1) S := by
  refine ⟨h.1, fun j hj hr ha => ?_⟩
  by_cases e : j = k
  · subst e
    rcases hs with hs | hs
    · rw [h.1.1.2 j hr] at hs; cases hs
    · exact absurd hs ha
  · exact h.2 j (by omega) hr ha
theorem ki_end {v r i : Nat} {S : Nat → Bool} (h : KI A n v r i n S) : MI A n v r (i + 1) S := by
  refine ⟨h.1.1, fun j hj hr => ?_⟩
  by_cases e : j = i
  · subst e
    rcases rcn_next hr with q | ⟨k, hk, q1, -, q2⟩
    · exact h.1.1.2 j q
    · exact h.2 k hk q1 q2
  · exact h.1.2 j (by omega) hr
theorem mi_end {v r : Nat} {S : Nat → Bool} (h : MI A n v r n S) : RI A n v (r + 1) S := ⟨h.1.1, fun i hr => h.2 i (Rch.of hr).lt.2 hr⟩
end M
namespace V
set_option maxRecDepth 100000
open Go.RowKit
theorem infoB1 : (Try.prog.info? 4).map (fun i => (i.zero, i.size, i.bytes)) = some (some (.bool false), 1, 1) := by kernel_rfl
theorem infoB : (Try.prog.info? 74).map (fun i => (i.zero, i.size, i.bytes)) = some (some (.slice none 0 0), 1, 24) := by kernel_rfl
/-- A table of bools, a row a block. -/
def BT (w : World) (B : Nat) (v : Value) (k n : Nat) (F : Nat → Nat → Bool) : Prop :=
  ∃ V : List Value, V.length = k ∧ w.ownsRow B 74 1 v k V ∧ ∀ i, i < k → ∃ q, B ≤ q ∧ v.ownBlock ≠ some q ∧ V.getD i undef = .slice (some ⟨q, 0, none⟩) n n ∧ w.rowIs q 4 n (fun j => .bool (F i j))
theorem rowIs_lt {w : World} {q n : Nat} {t : TypeId} {f : Nat → Value} (h : w.rowIs q t n f) : q < w.heap.size := by
  obtain ⟨c, hb, -⟩ := h
  exact (Array.getElem?_eq_some_iff.1 hb).1
theorem BT.below {w w' : World} {B k n : Nat} {v : Value} {F : Nat → Nat → Bool} (h : BT w B v k n F) (hb : Below w.heap.size w w') : BT w' B v k n F := by
  obtain ⟨V, h1, h2, h3⟩ := h
  refine ⟨V, h1, ownsRow_keep h2 (fun q hq => hb.block q (own_lt h2 hq).2), fun i hi => ?_⟩
  obtain ⟨q, k1, k2, k3, k4⟩ := h3 i hi
  exact ⟨q, k1, k2, k3, World.rowIs.of_block k4 (hb.block q (rowIs_lt k4))⟩
theorem BT.mono {w : World} {B B' k n : Nat} {v : Value} {F : Nat → Nat → Bool} (h : BT w B v k n F) (hb : B' ≤ B) : BT w B' v k n F := by
  obtain ⟨V, h1, h2, h3⟩ := h
  refine ⟨V, h1, World.ownsRow.mono h2 hb, fun i hi => ?_⟩
  obtain ⟨q, k1, k2, k3, k4⟩ := h3 i hi
  exact ⟨q, by omega, k2, k3, k4⟩
theorem bt_lit (w : World) (B n : Nat) (F : Nat → Nat → Bool) (hB : B ≤ w.heap.size) : BT (w.alloc (.cells #[] 74)) B (.slice (some ⟨w.heap.size, 0, none⟩) 0 0) 0 n F :=
  ⟨[], rfl, World.ownsRow_lit w #[] 0 hB (by decide) rfl, fun i hi => absurd hi (Nat.not_lt_zero i)⟩
/-- A row and an entry. -/
theorem BT.at {w : World} {B k n cap : Nat} {a : Option Addr} {F : Nat → Nat → Bool} (h : BT w B (.slice a k cap) k n F) (i j : Nat) (hi : i < k) (hj : j < n) :
    ∃ g q, a = some ⟨g, 0, none⟩ ∧ w.cell? ⟨g, i, none⟩ = some (.slice (some ⟨q, 0, none⟩) n n) ∧ w.cell? ⟨q, j, none⟩ = some (.bool (F i j)) := by
  obtain ⟨V, h1, h2, h3⟩ := h
  obtain ⟨q, -, -, e, hq⟩ := h3 i hi
  obtain ⟨a', c', hv, -, -, hg⟩ := own_form h2
  injection hv with e1 _ e3
  subst e1 e3
  obtain ⟨g, rfl, -, -⟩ := hg (by omega)
  refine ⟨g, q, rfl, ?_, World.rowIs.cell hq hj⟩
  have := World.ownsRow.cellAt h2 i (by omega)
  rw [this, ← e, List.getD_eq_getElem?_getD, List.getElem?_eq_getElem (by omega)]
  rfl
theorem appendB (w0 w : World) {ops : Array Oper} {rest : List Oper} {o : Oper} {a : Act} {Q : Exit → Act → World → Prop} (hgd : o.guard = none) (s x : Operand)
    (ho : o.op = .call { callee := .builtin .append, args := #[s, x], argTypes := #[75, 75] }) (B : Nat) (v : Value) (k n q : Nat) (F : Nat → Nat → Bool) (hs : a.eval s = v) (hown : BT w0 B v k n F) (hb : Below w0.heap.size w0 w) (hq : w0.heap.size ≤ q) (hro : w.rowIs q 4 n (fun j => .bool (F k j)))
    (hx : a.eval x = .slice (some ⟨w.heap.size, 0, none⟩) 1 1) (hlen : k ≤ 2000000) (hB : B ≤ w0.heap.size)
    (h : ∀ b' c' w', BT w' B (.slice b' (k + 1) c') (k + 1) n F → Below B w w' → wpList Try.prog ops Q rest (a.put o.dst (.slice b' (k + 1) c')) w') :
    wpList Try.prog ops Q (o :: rest) a (w.alloc (.cells #[.slice (some ⟨q, 0, none⟩) n n] 74)) := by
  obtain ⟨i0, hi, hz0, hz1, hz2⟩ := info_parts infoB
  have hsz := hb.size
  obtain ⟨V, h1, h2, h3⟩ := hown
  have hwV : w.ownsRow B 74 1 v k V := ownsRow_keep h2 (fun k hv => hb.block k (own_lt h2 hv).2)
  have hown2 : (w.alloc (.cells #[.slice (some ⟨q, 0, none⟩) n n] 74)).ownsRow B 74 1 v k V := World.ownsRow.alloc hwV _
  refine wpList_append_own_at (w := w.alloc (.cells #[.slice (some ⟨q, 0, none⟩) n n] 74)) hgd s x 75 ho B 74 i0 (.slice none 0 0) 1 24 Try.underlying75 hi hz0 hz1 hz2 rfl (by decide) v _ _ hs hown2 ⟨w.heap.size, 0, none⟩ 1 1 [.slice (some ⟨q, 0, none⟩) n n] hx rfl (cell_one_new _ _ _) ?c2 ?c3 ?c4 ?c5 ?_
  case c2 => intro u hu; simp at hu; subst hu; rfl
  case c3 => unfold maxLen; omega
  case c4 => omega
  case c5 => simp; omega
  · intro v' w' hownV' hgrow hz hvb
    obtain ⟨g1, g2, g3, g4, g5⟩ := hgrow
    have hg : ∀ k, k < w.heap.size → v.ownBlock ≠ some k → w'.heap[k]? = w.heap[k]? := fun k hk hne => by
      rw [g5 k (by simp; omega) (fun e => hne e.symm), Below.heap_alloc _ _ _ hk]
    have hqw := rowIs_lt hro
    have hvq : v.ownBlock ≠ some q := fun e => by have := (own_lt h2 e).2; omega
    have hv'q : ∀ p, p < w.heap.size → v.ownBlock ≠ some p → v'.ownBlock ≠ some p := fun p hp hne e => by
      rcases hvb with k | k
      · exact hne (k ▸ e)
      · rw [k] at e; injection e with e; simp at e; omega
    have hM : BT w' B v' (k + 1) n F := by
      refine ⟨_, by simp [h1], hownV', fun i hi => ?_⟩
      by_cases e : i = k
      · subst e
        refine ⟨q, by omega, hv'q q hqw hvq, ?_, World.rowIs.of_block hro (hg q hqw hvq)⟩
        rw [List.getD_eq_getElem?_getD, List.getElem?_append_right (by omega), h1, Nat.sub_self]; rfl
      · obtain ⟨p, k1, k2, k3, k4⟩ := h3 i (by omega)
        have hp := rowIs_lt k4
        refine ⟨p, k1, hv'q p (by omega) k2, ?_, World.rowIs.of_block k4 ((hg p (by omega) k2).trans (hb.block p hp))⟩
        rw [List.getD_eq_getElem?_getD, List.getElem?_append_left (by omega), ← List.getD_eq_getElem?_getD]; exact k3
    obtain ⟨b', c', hv', _⟩ := own_form hownV'
    subst hv'
    exact h b' c' w' hM (((Below.refl B w).alloc (by omega) _).grown ⟨g1, g2, g3, g4, g5⟩ (by simp; omega) (fun k hk => (own_lt h2 hk).1))
set_option maxRecDepth 100000 in
set_option maxHeartbeats 4000000 in
theorem sReach (a : Option Addr) (n cap : Nat) (R : List (List Int)) (w : World) (h : Sq w a n R) :
    Calls Try.prog 52 #[.slice a n cap] w fun e w' => ∃ b c, e = .returned (.slice b n c) ∧ BT w' w.heap.size (.slice b n c) n n (M.rchB (M.ent R) n) ∧ Below w.heap.size w w' := by
  have HSq := Lib.hid h
  obtain ⟨n1, n2⟩ := h.2.2.2
  obtain ⟨ab, aoff, -, -, rfl, -, -⟩ := h.1.rect_first h.2.1 n1
  have hmk := run_make_row' (P := Try.prog) 74 4 (.bool false) 1 Try.underlying74 infoB1 rfl .i64 .i64 n (by omega) (by omega)
  clear h
  go_enter Try.func52, Try.ntmps52
  go_wp2
  go_loopw [4, 5, 6, 7, 8, 9] (fun o i _ _ _ _ wr => ∃ (k : Nat) (b : Option Addr) (c : Nat), k ≤ n ∧ i = .int .i64 k ∧ o = .slice b k c ∧ Hid (BT wr w.heap.size (.slice b k c) k n (M.rchB (M.ent R) n)) ∧ Hid (Below w.heap.size w wr)) (fun _ i _ _ _ _ _ => n - (intOf i).toNat)
  case atStart => exact ⟨0, _, 0, Nat.zero_le _, rfl, rfl, bt_lit _ _ _ _ (Nat.le_refl _), b_alloc _ _⟩
  case round =>
    obtain ⟨v, b, c, hv, rfl, rfl, HO, HB⟩ := hrel
    obtain ⟨wo, rfl⟩ : ∃ x, x = wr := ⟨_, rfl⟩
    by_cases hlt : v < n
    · have hvi : (v : Int) < (n : Int) := by omega
      obtain ⟨w1, hw1⟩ : ∃ x, x = wo.alloc (.cells (madeCells #[.bool false] n) 4) := ⟨_, rfl⟩
      have hrow : w1.rowIs wo.heap.size 4 n (fun _ => .bool false) := by rw [hw1]; exact World.rowIs_made _ _ _ _
      have hb1 : Below wo.heap.size wo w1 := by rw [hw1]; exact b_alloc _ _
      have hcv := World.rowIs.cell hrow hlt
      have hfv := World.rowIs.frozen hrow v
      have hset := (World.rowIs.set hrow v (.bool true)).congr (g := fun j => .bool (M.upd (fun _ => false) v j)) fun i hi => by
        unfold M.upd
        by_cases e : i = v <;> simp [e]
      have he : w1.setCell ⟨wo.heap.size, v, none⟩ (.bool true) = wo.alloc (.cells ((madeCells #[.bool false] n).setIfInBounds v (.bool true)) 4) := by rw [hw1]; simp [go_sem]
      rw [he] at hset
      have hbs := hb1.setCell (p := ⟨wo.heap.size, v, none⟩) (Nat.le_refl _) (.bool true)
      rw [he] at hbs
      have HR0 := Lib.hid hset
      have HB0 := Lib.hid hbs
      subst hw1
      clear hrow hset hb1 hbs he
      go_wp2
      clear hcv hfv
      go_loopw [7, 8, 9] (fun t _ _ wr => ∃ (r : Nat) (S : Nat → Bool), r ≤ n ∧ t = .int .i64 r ∧ Hid (wr.rowIs wo.heap.size 4 n (fun j => .bool (S j))) ∧ Hid (Below wo.heap.size wo wr) ∧ Hid (M.RI (M.ent R) n v r S)) (fun t _ _ _ => n - (intOf t).toNat)
      case atStart => exact ⟨0, _, Nat.zero_le _, rfl, HR0, HB0, M.ri_start hlt⟩
      case round =>
        clear HR0 HB0
        obtain ⟨r, S, hr, rfl, HR, HBr, HI⟩ := hrel
        by_cases hrl : r < n
        · have hri : (r : Int) < (n : Int) := by omega
          have HI1 : Hid (M.MI (M.ent R) n v r 0 S) := ⟨HI.out, fun j hj => absurd hj (Nat.not_lt_zero j)⟩
          go_wp2
          go_loopw [8, 9] (fun t _ wr => ∃ (i : Nat) (S : Nat → Bool), i ≤ n ∧ t = .int .i64 i ∧ Hid (wr.rowIs wo.heap.size 4 n (fun j => .bool (S j))) ∧ Hid (Below wo.heap.size wo wr) ∧ Hid (M.MI (M.ent R) n v r i S)) (fun t _ _ => n - (intOf t).toNat)
          case atStart => exact ⟨0, S, Nat.zero_le _, rfl, HR, HBr, HI1⟩
          case round =>
            clear HR HBr HI HI1
            obtain ⟨i, S, hi, rfl, HR, HBr, HI⟩ := hrel
            by_cases hil : i < n
            · have hii : (i : Int) < (n : Int) := by omega
              have HI1 : Hid (M.KI (M.ent R) n v r i 0 S) := ⟨HI.out, fun j hj => absurd hj (Nat.not_lt_zero j)⟩
              go_wp2
              go_loopw [9] (fun t wr => ∃ (k : Nat) (S : Nat → Bool), k ≤ n ∧ t = .int .i64 k ∧ Hid (wr.rowIs wo.heap.size 4 n (fun j => .bool (S j))) ∧ Hid (Below wo.heap.size wo wr) ∧ Hid (M.KI (M.ent R) n v r i k S)) (fun t _ => n - (intOf t).toNat)
              case atStart => exact ⟨0, S, Nat.zero_le _, rfl, HR, HBr, HI1⟩
              case round =>
                clear HR HBr HI HI1
                obtain ⟨k, S, hk, rfl, HR, HBr, HI⟩ := hrel
                by_cases hkl : k < n
                · have hki : (k : Int) < (n : Int) := by omega
                  have hck := World.rowIs.cell HR.out hkl
                  have hci := World.rowIs.cell HR.out hil
                  have hfi := World.rowIs.frozen HR.out i
                  obtain ⟨d, od, rd, rdo, c4, z, hdd, hz, c41, c42⟩ := ((HSq.out.1.below HB.out).below HBr.out).rect_ent HSq.out.2.1 i k hil hkl
                  injection hdd with hdd
                  injection hdd with e1 e2
                  subst e1 e2
                  have HZ := Lib.hid hz
                  clear hz
                  cases e : S k with
                  | false =>
                    rw [e] at hck
                    have HI2 := Lib.hid (M.ki_skip HI.out (.inl e))
                    clear e
                    go_wp2
                    go_roundw
                    case rel => exact ⟨k + 1, S, by omega, by go_num, HR, HBr, HI2⟩
                    case measure => simp [intOf]; omega
                  | true =>
                    rw [e] at hck
                    by_cases hzb : z = -1000000000000000
                    · have HI2 := Lib.hid (M.ki_skip HI.out (.inr (by rw [← HZ.out]; exact hzb)))
                      have hz1 : (z != -1000000000000000) = false := by simp [hzb]
                      clear e hzb
                      go_wp2
                      go_roundw
                      case rel => exact ⟨k + 1, S, by omega, by go_num, HR, HBr, HI2⟩
                      case measure => simp [intOf]; omega
                    · have HI2 := Lib.hid (M.ki_set hil HI.out e (by rw [← HZ.out]; exact hzb))
                      have hz1 : (z != -1000000000000000) = true := by simpa using hzb
                      have HR2 : Hid ((wr.setCell ⟨wo.heap.size, i, none⟩ (.bool true)).rowIs wo.heap.size 4 n (fun j => .bool (M.upd S i j))) := (World.rowIs.set HR.out i (.bool true)).congr (g := fun j => .bool (M.upd S i j)) fun j hj => by
                        unfold M.upd
                        by_cases e : j = i <;> simp [e]
                      have HB2 := Lib.hid (HBr.out.setCell (p := ⟨wo.heap.size, i, none⟩) (Nat.le_refl _) (.bool true))
                      clear e hzb
                      go_wp2
                      go_roundw
                      case rel => exact ⟨k + 1, M.upd S i, by omega, by go_num, HR2, HB2, HI2⟩
                      case measure => simp [intOf]; omega
                · obtain rfl : k = n := by omega
                  go_wp2
                  go_roundw
                  case rel => exact ⟨i + 1, S, by omega, by go_num, HR, HBr, M.ki_end HI.out⟩
                  case measure => simp [intOf]; omega
            · obtain rfl : i = n := by omega
              go_wp2
              go_roundw
              case rel => exact ⟨r + 1, S, by omega, by go_num, HR, HBr, M.mi_end HI.out⟩
              case measure => simp [intOf]; omega
        · obtain rfl : r = n := by omega
          have HRr : Hid (wr.rowIs wo.heap.size 4 r (fun j => .bool (M.rchB (M.ent R) r v j))) := HR.out.congr fun j _ => by rw [M.rch_rounds HI.out.1 HI.out.2 j]
          go_wp2_with (at_builtin; refine appendB wo _ rfl (.tmp 55) (.tmp 57) rfl w.heap.size _ v r wo.heap.size (M.rchB (M.ent R) r) rfl HO.out HBr.out (Nat.le_refl _) HRr.out rfl (by omega) HB.out.size ?_)
          intro b4 c4 w4 hO4 hb4
          have HO4 := Lib.hid hO4
          have HB4 := Lib.hid ((HB.out.trans (HBr.out.mono HB.out.size)).trans hb4)
          clear hO4 hb4
          go_wp2
          go_roundw
          case rel => exact ⟨v + 1, b4, c4, by omega, by go_num, rfl, HO4, HB4⟩
          case measure => simp [intOf]; omega
    · obtain rfl : v = n := by omega
      go_wp2
      go_ret
      exact ⟨_, _, rfl, HO.out, HB.out⟩
end V
end Go.Proofs.Ythonlfjjgmmnpab
