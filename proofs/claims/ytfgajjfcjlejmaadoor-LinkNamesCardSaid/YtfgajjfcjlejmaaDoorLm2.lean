/- Joined texts: Lm1, Lm2. -/
import Derived.Test.YtfgajjfcjlejmaaDoorLm0
import Derived.Test.YtfgajjfcjlejmaaDoorWrE
import Derived.Test.YtfgajjfcjlejmaaDoorTk
import Derived.Deep.RegionHeld3
import Derived.Deep.DeepCutAuto

/-
  The document's Same.
-/
namespace Go.Proofs.YtfgajjfcjlejmaaDoor
set_option maxRecDepth 100000
set_option linter.unusedSimpArgs false
open Go Go.RowKit Wr

@[reducible] def msgC2 (m : Msg) (A : Option Addr) (n cap : Nat) : Array Value := #[.int .i64 m.kind, .int .i64 m.cell, .int .u32 (m.gen : Nat), .int .u64 (m.stamp : Nat), .int .i64 m.prio, .int .i64 m.hops, .int .i64 m.origin, .int .i64 m.other, .slice A n cap]
theorem msg_cells {W : World} {b : Nat} {m : Msg} {A : Option Addr} {n cap : Nat} {t : TypeId} (h : W.heap[b]? = some (.cells (msgC2 m A n cap) t (0, 0))) :
    W.cell? ⟨b, 0, none⟩ = some (.int .i64 m.kind) ∧ W.cell? ⟨b, 1, none⟩ = some (.int .i64 m.cell) ∧ W.cell? ⟨b, 2, none⟩ = some (.int .u32 (m.gen : Nat)) ∧ W.cell? ⟨b, 3, none⟩ = some (.int .u64 (m.stamp : Nat)) ∧ W.cell? ⟨b, 4, none⟩ = some (.int .i64 m.prio) ∧ W.cell? ⟨b, 5, none⟩ = some (.int .i64 m.hops) ∧ W.cell? ⟨b, 6, none⟩ = some (.int .i64 m.origin) ∧ W.cell? ⟨b, 7, none⟩ = some (.int .i64 m.other) ∧ W.cell? ⟨b, 8, none⟩ = some (.slice A n cap) := by
  refine ⟨?_, ?_, ?_, ?_, ?_, ?_, ?_, ?_, ?_⟩ <;> (rw [blk_cell h]; rfl)

theorem belowN {B : Nat} {a w : World} (h : Below B a w) (n : Nat) : Below B a (w.drewN n) := ⟨h.os, h.tape, h.output, h.size, h.block⟩
theorem claims_len_ne {a b : List (Int × Nat)} (h : a.length ≠ b.length) : a ≠ b := fun e => h (by rw [e])
theorem take_snoc_c {a b : List (Int × Nat)} {k : Nat} (ha : k < a.length) (hb : k < b.length) (h : a.take k = b.take k) (he : a.getD k (0, 0) = b.getD k (0, 0)) : a.take (k + 1) = b.take (k + 1) := by
  rw [List.take_succ_eq_append_getElem ha, List.take_succ_eq_append_getElem hb, h]
  simp [List.getD, ha, hb] at he
  rw [he]

set_option maxHeartbeats 4000000 in
/-- The document's Same, of two messages in memory. -/
theorem rsame_any {w : World} (m n : Msg) {A B : Option Addr} (ca cb : Nat) (hA : ClaimsAt w A m.claims) (hB : ClaimsAt w B n.claims) (hl : m.claims.length ≤ 100000) (hl2 : n.claims.length ≤ 100000) :
    Calls Tryd.prog 45 #[msgA m A m.claims.length ca, msgA n B n.claims.length cb] w fun e w' => e = .returned (.bool (decide (m = n))) ∧ Below w.heap.size w w' := by
  obtain ⟨P, hP⟩ : ∃ P : Ending → World → Prop, P = fun e w' => e = .returned (.bool (decide (m = n))) ∧ Below w.heap.size w w' := ⟨_, rfl⟩
  have HQ1 : Hid (m ≠ n → ∀ w', Below w.heap.size w w' → P (.returned (.bool false)) w') := by rw [hP]; exact fun h w' hb => ⟨by rw [decide_eq_false h], hb⟩
  have HQ2 : Hid (m = n → ∀ w', Below w.heap.size w w' → P (.returned (.bool true)) w') := by rw [hP]; exact fun h w' hb => ⟨by rw [decide_eq_true h], hb⟩
  rw [← hP]
  clear hP
  have HA := Lib.hid hA
  have HB := Lib.hid hB
  obtain ⟨k1, c1, g1, s1, p1, h1, o1, t1, l1⟩ := m
  obtain ⟨k2, c2, g2, s2, p2, h2, o2, t2, l2⟩ := n
  simp only at HA HB hl hl2 ⊢
  clear hA hB
  simp only [msgA]
  obtain ⟨n1, hn1⟩ : ∃ n1, n1 = l1.length := ⟨_, rfl⟩
  obtain ⟨n2, hn2⟩ : ∃ n2, n2 = l2.length := ⟨_, rfl⟩
  have HN1 := Lib.hid hn1
  have HN2 := Lib.hid hn2
  rw [← hn1, ← hn2]
  rw [← hn1] at hl
  rw [← hn2] at hl2
  clear hn1 hn2
  obtain ⟨W0, hW0⟩ : ∃ W0, W0 = (w.alloc (.cells #[.int .i64 k1, .int .i64 c1, .int .u32 (g1 : Nat), .int .u64 (s1 : Nat), .int .i64 p1, .int .i64 h1, .int .i64 o1, .int .i64 t1, .slice A n1 ca] 37)).alloc (.cells #[.int .i64 k2, .int .i64 c2, .int .u32 (g2 : Nat), .int .u64 (s2 : Nat), .int .i64 p2, .int .i64 h2, .int .i64 o2, .int .i64 t2, .slice B n2 cb] 37) := ⟨_, rfl⟩
  have HWB : Hid (Below w.heap.size w W0) := by rw [hW0]; exact ((Below.refl _ w).alloc (Nat.le_refl _) _).alloc (by simp) _
  have hb1 : W0.heap[w.heap.size]? = some (.cells #[.int .i64 k1, .int .i64 c1, .int .u32 (g1 : Nat), .int .u64 (s1 : Nat), .int .i64 p1, .int .i64 h1, .int .i64 o1, .int .i64 t1, .slice A n1 ca] 37 (0, 0)) := by rw [hW0]; exact (Below.heap_alloc _ _ _ (by simp)).trans (World.alloc_heap_new w _)
  have hb2 : W0.heap[w.heap.size + 1]? = some (.cells #[.int .i64 k2, .int .i64 c2, .int .u32 (g2 : Nat), .int .u64 (s2 : Nat), .int .i64 p2, .int .i64 h2, .int .i64 o2, .int .i64 t2, .slice B n2 cb] 37 (0, 0)) := by
    rw [hW0]
    have := World.alloc_heap_new (w.alloc (.cells #[.int .i64 k1, .int .i64 c1, .int .u32 (g1 : Nat), .int .u64 (s1 : Nat), .int .i64 p1, .int .i64 h1, .int .i64 o1, .int .i64 t1, .slice A n1 ca] 37)) (.cells #[.int .i64 k2, .int .i64 c2, .int .u32 (g2 : Nat), .int .u64 (s2 : Nat), .int .i64 p2, .int .i64 h2, .int .i64 o2, .int .i64 t2, .slice B n2 cb] 37)
    rwa [World.size_alloc] at this
  obtain ⟨a0, a1, a2, a3, a4, a5, a6, a7, a8⟩ := msg_cells (n := n1) (m := ⟨k1, c1, g1, s1, p1, h1, o1, t1, l1⟩) hb1
  obtain ⟨b0, b1, b2, b3, b4, b5, b6, b7, b8⟩ := msg_cells (n := n2) (m := ⟨k2, c2, g2, s2, p2, h2, o2, t2, l2⟩) hb2
  simp only at a0 a1 a2 a3 a4 a5 a6 a7 b0 b1 b2 b3 b4 b5 b6 b7
  have HX1 := Lib.hid hb1
  have HX2 := Lib.hid hb2
  have HCA : Hid (∀ W, Below w.heap.size w W → ClaimsAt W A l1) := fun W h => HA.out.below h
  have HCB : Hid (∀ W, Below w.heap.size w W → ClaimsAt W B l2) := fun W h => HB.out.below h
  clear hb1 hb2
  have HN : Hid (∀ o o', Below w.heap.size w ((w.alloc o).alloc o')) := fun o o' => ((Below.refl _ w).alloc (Nat.le_refl _) o).alloc (by simp) o'
  by_cases hne : k1 ≠ k2
  · have HF := Lib.hid (HQ1.out (fun e => hne (congrArg Msg.kind e)))
    have d1 : (k1 != k2) = true := by simpa using hne
    go_enter Tryd.func45, Tryd.ntmps45
    go_wp2
    first | exact HF.out _ (HN.out _ _) | (go_ret; exact HF.out _ (HN.out _ _))
  replace hne := Classical.not_not.1 hne
  subst hne
  by_cases hne : c1 ≠ c2
  · have HF := Lib.hid (HQ1.out (fun e => hne (congrArg Msg.cell e)))
    have d1 : (c1 != c2) = true := by simpa using hne
    go_enter Tryd.func45, Tryd.ntmps45
    go_wp2
    first | exact HF.out _ (HN.out _ _) | (go_ret; exact HF.out _ (HN.out _ _))
  replace hne := Classical.not_not.1 hne
  subst hne
  by_cases hne : g1 ≠ g2
  · have HF := Lib.hid (HQ1.out (fun e => hne (congrArg Msg.gen e)))
    have d1 : ((g1 : Int) != (g2 : Int)) = true := by simp; omega
    have d2 : (g1 != g2) = true := by simpa using hne
    have d3 : ¬ (g1 : Int) = (g2 : Int) := by omega
    go_enter Tryd.func45, Tryd.ntmps45
    go_wp2
    first | exact HF.out _ (HN.out _ _) | (go_ret; exact HF.out _ (HN.out _ _))
  replace hne := Classical.not_not.1 hne
  subst hne
  by_cases hne : s1 ≠ s2
  · have HF := Lib.hid (HQ1.out (fun e => hne (congrArg Msg.stamp e)))
    have d1 : ((s1 : Int) != (s2 : Int)) = true := by simp; omega
    have d2 : (s1 != s2) = true := by simpa using hne
    have d3 : ¬ (s1 : Int) = (s2 : Int) := by omega
    go_enter Tryd.func45, Tryd.ntmps45
    go_wp2
    first | exact HF.out _ (HN.out _ _) | (go_ret; exact HF.out _ (HN.out _ _))
  replace hne := Classical.not_not.1 hne
  subst hne
  by_cases hne : p1 ≠ p2
  · have HF := Lib.hid (HQ1.out (fun e => hne (congrArg Msg.prio e)))
    have d1 : (p1 != p2) = true := by simpa using hne
    go_enter Tryd.func45, Tryd.ntmps45
    go_wp2
    first | exact HF.out _ (HN.out _ _) | (go_ret; exact HF.out _ (HN.out _ _))
  replace hne := Classical.not_not.1 hne
  subst hne
  by_cases hne : h1 ≠ h2
  · have HF := Lib.hid (HQ1.out (fun e => hne (congrArg Msg.hops e)))
    have d1 : (h1 != h2) = true := by simpa using hne
    go_enter Tryd.func45, Tryd.ntmps45
    go_wp2
    first | exact HF.out _ (HN.out _ _) | (go_ret; exact HF.out _ (HN.out _ _))
  replace hne := Classical.not_not.1 hne
  subst hne
  by_cases hne : o1 ≠ o2
  · have HF := Lib.hid (HQ1.out (fun e => hne (congrArg Msg.origin e)))
    have d1 : (o1 != o2) = true := by simpa using hne
    go_enter Tryd.func45, Tryd.ntmps45
    go_wp2
    first | exact HF.out _ (HN.out _ _) | (go_ret; exact HF.out _ (HN.out _ _))
  replace hne := Classical.not_not.1 hne
  subst hne
  by_cases hne : t1 ≠ t2
  · have HF := Lib.hid (HQ1.out (fun e => hne (congrArg Msg.other e)))
    have d1 : (t1 != t2) = true := by simpa using hne
    go_enter Tryd.func45, Tryd.ntmps45
    go_wp2
    first | exact HF.out _ (HN.out _ _) | (go_ret; exact HF.out _ (HN.out _ _))
  replace hne := Classical.not_not.1 hne
  subst hne
  by_cases hl12 : n1 ≠ n2
  · have HF := Lib.hid (HQ1.out (fun e => hl12 (by rw [HN1.out, HN2.out]; exact congrArg (fun m : Msg => m.claims.length) e)))
    have d1 : ((n1 : Int) != (n2 : Int)) = true := by simp; omega
    have d2 : (n1 != n2) = true := by simpa using hl12
    clear hW0
    go_enter Tryd.func45, Tryd.ntmps45
    go_wp2
    first | exact HF.out _ (HN.out _ _) | (go_ret; exact HF.out _ (HN.out _ _))
  replace hl12 := Classical.not_not.1 hl12
  subst hl12
  have HEQ : Hid (l1 = l2 → (⟨k1, c1, g1, s1, p1, h1, o1, t1, l1⟩ : Msg) = ⟨k1, c1, g1, s1, p1, h1, o1, t1, l2⟩) := fun e => by rw [e]
  have HNE : Hid (l1 ≠ l2 → (⟨k1, c1, g1, s1, p1, h1, o1, t1, l1⟩ : Msg) ≠ ⟨k1, c1, g1, s1, p1, h1, o1, t1, l2⟩) := by
    intro h e
    exact h (Msg.mk.inj e).2.2.2.2.2.2.2.2
  have d1 : ((n1 : Int) != (n1 : Int)) = false := by simp
  go_enter Tryd.func45, Tryd.ntmps45
  go_wp2_with fail
  rw [← hW0]
  clear d1 hW0 a0 a1 a2 a3 a4 a5 a6 a7 b0 b1 b2 b3 b4 b5 b6 b7 a8 b8
  have HBX : Hid (∀ W, Below W0.heap.size W0 W → W.cell? ⟨w.heap.size, 8, none⟩ = some (.slice A n1 ca) ∧ W.cell? ⟨w.heap.size + 1, 8, none⟩ = some (.slice B n1 cb) ∧ Below w.heap.size w W) := by
    intro W h
    have q1 := ((Kept.of_below (X := fun _ => False) h (Nat.le_refl _)).block _ (blk_lt HX1.out) id).trans HX1.out
    have q2 := ((Kept.of_below (X := fun _ => False) h (Nat.le_refl _)).block _ (blk_lt HX2.out) id).trans HX2.out
    exact ⟨by rw [blk_cell q1]; rfl, by rw [blk_cell q2]; rfl, HWB.out.trans (h.mono HWB.out.size)⟩
  clear HX1 HX2
  clear hl2 HN HWB
  go_loopw [5] (fun v wr => ∃ k : Nat, k ≤ n1 ∧ v = .int .i64 (k : Int) ∧ l1.take k = l2.take k ∧ Below W0.heap.size W0 wr) (fun v _ => n1 - (intOf v).toNat)
  case atStart => exact ⟨0, Nat.zero_le _, rfl, rfl, Below.refl _ _⟩
  case round =>
    obtain ⟨k, hk, rfl, he, hw⟩ := hrel
    have HE := Lib.hid he
    have HW := Lib.hid hw
    clear he hw
    obtain ⟨x8, y8, hbw⟩ := HBX.out wr HW.out
    have HBW := Lib.hid hbw
    clear hbw
    by_cases hlt : k < n1
    · have hla : k < l1.length := by rw [← HN1.out]; exact hlt
      have hlb : k < l2.length := by rw [← HN2.out]; exact hlt
      obtain ⟨a, ha, u1, u2⟩ := HCA.out wr HBW.out k hla
      obtain ⟨b, hb, v1, v2⟩ := HCB.out wr HBW.out k hlb
      have HT : Hid (l1.getD k (0, 0) = l2.getD k (0, 0) → l1.take (k + 1) = l2.take (k + 1)) := fun h => take_snoc_c hla hlb HE.out h
      have HF : Hid (l1.getD k (0, 0) ≠ l2.getD k (0, 0) → l1 ≠ l2) := fun h e => h (by rw [e])
      clear hla hlb
      subst ha
      subst hb
      generalize l1.getD k (0, 0) = x at *
      generalize l2.getD k (0, 0) = y at *
      obtain ⟨x1, x2⟩ := x
      obtain ⟨y1, y2⟩ := y
      simp only at u1 u2 v1 v2
      have k0 : (0 : Int) ≤ (k : Int) := by omega
      have k1' : (k : Int) < (n1 : Int) := by omega
      by_cases hx : x1 = y1
      · subst hx
        by_cases hy : x2 = y2
        · subst hy
          have HT2 := Lib.hid (HT.out rfl)
          clear HT HF
          go_wp2
          go_quiet (fail)
          go_wp2
          go_roundw
          case rel => exact ⟨k + 1, by omega, by go_num, HT2.out, belowN HW.out nq⟩
          case measure => simp [intOf]; omega
        · have HF2 := Lib.hid (HNE.out (HF.out (fun e => hy (congrArg Prod.snd e))))
          have d1 : ((x2 : Int) == (y2 : Int)) = false := by simp; omega
          have d2 : (x2 == y2) = false := by simpa using hy
          clear HT HF
          go_wp2
          go_quiet (fail)
          go_wp2
          exact HQ1.out HF2.out _ (belowN HBW.out nq)
      · have HF2 := Lib.hid (HNE.out (HF.out (fun e => hx (congrArg Prod.fst e))))
        have d1 : (x1 == y1) = false := by simpa using hx
        clear HT HF
        go_wp2
        go_quiet (fail)
        go_wp2
        exact HQ1.out HF2.out _ (belowN HBW.out nq)
    · obtain rfl : k = n1 := by omega
      have HF2 : Hid (l1 = l2) := by
        have := HE.out
        have e1 := List.take_length (l := l1)
        have e2 := List.take_length (l := l2)
        rw [← HN1.out] at e1
        rw [← HN2.out] at e2
        rw [e1, e2] at this
        exact this
      go_wp2
      exact HQ2.out (HEQ.out HF2.out) _ HBW.out
end Go.Proofs.YtfgajjfcjlejmaaDoor

/-
  The document's Messages; calls on none.
-/
namespace Go.Proofs.YtfgajjfcjlejmaaDoor
set_option maxRecDepth 100000
set_option linter.unusedSimpArgs false
open Go Go.RowKit Wr
attribute [local go_sem] Oper.semAt_some

/-- Messages in memory. -/
def MsAt (w : World) (A : Option Addr) (L : List Msg) : Prop :=
  ∀ k, k < L.length → ∃ g Ak ck, A = some ⟨g, 0, none⟩ ∧ MsgCells w g (k * 9) (L.getD k default) Ak ck ∧ ClaimsAt w Ak (L.getD k default).claims ∧ (L.getD k default).claims.length ≤ 100000
theorem cell_lt9 {w : World} {g i : Nat} {u : Value} (h : w.cell? ⟨g, i, none⟩ = some u) : g < w.heap.size := World.block_lt_of_cell? w _ h
theorem MsgCells.below {w w' : World} {g i : Nat} {m : Msg} {A : Option Addr} {cap : Nat} (h : MsgCells w g i m A cap) (hb : Below w.heap.size w w') : MsgCells w' g i m A cap := by
  obtain ⟨h0, h1, h2, h3, h4, h5, h6, h7, h8⟩ := h
  have hl := cell_lt9 h0
  have hc : ∀ j u, w.cell? ⟨g, j, none⟩ = some u → w'.cell? ⟨g, j, none⟩ = some u := fun j u hu => (hb.cell (p := ⟨g, j, none⟩) hl).trans hu
  exact ⟨hc _ _ h0, hc _ _ h1, hc _ _ h2, hc _ _ h3, hc _ _ h4, hc _ _ h5, hc _ _ h6, hc _ _ h7, hc _ _ h8⟩
theorem MsAt.below {w w' : World} {A : Option Addr} {L : List Msg} (h : MsAt w A L) (hb : Below w.heap.size w w') : MsAt w' A L := by
  intro k hk
  obtain ⟨g, Ak, ck, e, h1, h2, h3⟩ := h k hk
  exact ⟨g, Ak, ck, e, h1.below hb, h2.below hb, h3⟩
theorem MsgsR.at_ {w : World} {T : Nat → Prop} {B : Nat} {v : Value} {L : List Msg} (h : MsgsR w T B v L) (hl : ∀ m ∈ L, m.claims.length ≤ 100000) : ∃ A cap, v = .slice A L.length cap ∧ MsAt w A L := by
  obtain ⟨A, cap, hv⟩ := h.shape
  refine ⟨A, cap, hv, fun k hk => ?_⟩
  obtain ⟨E, h1, h2, h3⟩ := h
  have hlen : E.length = L.length := by rw [← h1]; simp
  obtain ⟨g, c, e, hc⟩ := row_msg h2 (k := k) (by omega)
  obtain ⟨e1, e2⟩ := enD h1 (k := k) (by omega)
  rw [hv] at e
  injection e with e _ _
  rw [e1] at hc
  have hcl := (h3 _ e2).at_
  rw [e1] at hcl
  refine ⟨g, _, _, e, hc, hcl, hl _ ?_⟩
  rw [List.getD_eq_getElem?_getD, List.getElem?_eq_getElem hk]
  exact List.getElem_mem hk
theorem take_snoc_m {a b : List Msg} {k : Nat} (ha : k < a.length) (hb : k < b.length) (h : a.take k = b.take k) (he : a.getD k default = b.getD k default) : a.take (k + 1) = b.take (k + 1) := by
  rw [List.take_succ_eq_append_getElem ha, List.take_succ_eq_append_getElem hb, h]
  simp [List.getD, ha, hb] at he
  rw [he]

set_option maxHeartbeats 2000000 in
/-- The document's Messages. -/
theorem msgs_any {w : World} {A B : Option Addr} {L M : List Msg} (ca cb : Nat) (hA : MsAt w A L) (hB : MsAt w B M) (hl : L.length ≤ 100000) :
    Calls Tryd.prog 19 #[.slice A L.length ca, .slice B M.length cb] w fun e w' => e = .returned (.bool (decide (L = M))) ∧ Below w.heap.size w w' := by
  obtain ⟨P, hP⟩ : ∃ P : Ending → World → Prop, P = fun e w' => e = .returned (.bool (decide (L = M))) ∧ Below w.heap.size w w' := ⟨_, rfl⟩
  have HQ1 : Hid (L ≠ M → ∀ w', Below w.heap.size w w' → P (.returned (.bool false)) w') := by rw [hP]; exact fun h w' hb => ⟨by rw [decide_eq_false h], hb⟩
  have HQ2 : Hid (L = M → ∀ w', Below w.heap.size w w' → P (.returned (.bool true)) w') := by rw [hP]; exact fun h w' hb => ⟨by rw [decide_eq_true h], hb⟩
  rw [← hP]
  clear hP
  by_cases hne : L.length ≠ M.length
  · have HF := Lib.hid (HQ1.out (fun e => hne (by rw [e])) w (Below.refl _ _))
    have d1 : ((L.length : Int) != (M.length : Int)) = true := by simp; omega
    generalize L.length = n1 at *
    generalize M.length = n2 at *
    have d2 : (n1 != n2) = true := by simpa using hne
    clear hA hB HQ1 HQ2
    go_enter Tryd.func19, Tryd.ntmps19
    go_wp2
    first | exact HF.out | (go_ret; exact HF.out)
  replace hne := Classical.not_not.1 hne
  have HK : Hid (∀ k, k < L.length → ∃ g1 g2 A1 c1 A2 c2, A = some ⟨g1, 0, none⟩ ∧ B = some ⟨g2, 0, none⟩ ∧ ∀ W, Below w.heap.size w W → MsgCells W g1 (k * 9) (L.getD k default) A1 c1 ∧ MsgCells W g2 (k * 9) (M.getD k default) A2 c2 ∧ Calls Tryd.prog 45 #[msgA (L.getD k default) A1 (L.getD k default).claims.length c1, msgA (M.getD k default) A2 (M.getD k default).claims.length c2] W fun e w' => e = .returned (.bool (decide (L.getD k default = M.getD k default))) ∧ Below w.heap.size w w') := by
    intro k hk
    obtain ⟨g1, A1, c1, e1, q1, q2, q3⟩ := hA k hk
    obtain ⟨g2, A2, c2, e2, r1, r2, r3⟩ := hB k (by omega)
    exact ⟨g1, g2, A1, c1, A2, c2, e1, e2, fun W hW => ⟨q1.below hW, r1.below hW, (rsame_any _ _ c1 c2 (q2.below hW) (r2.below hW) q3 r3).mono (by rintro e w' ⟨rfl, hb⟩; exact ⟨rfl, hW.trans (hb.mono hW.size)⟩)⟩⟩
  have HT : Hid (∀ k, k < L.length → L.take k = M.take k → L.getD k default = M.getD k default → L.take (k + 1) = M.take (k + 1)) := fun k hk h1 h2 => take_snoc_m hk (by omega) h1 h2
  have HQ3 : Hid (∀ k, L.getD k default ≠ M.getD k default → ∀ w', Below w.heap.size w w' → P (.returned (.bool false)) w') := fun k h => HQ1.out (fun e => h (by rw [e]))
  have HQ4 : Hid (∀ w', L.take L.length = M.take L.length → Below w.heap.size w w' → P (.returned (.bool true)) w') := fun w' h => HQ2.out (by rw [List.take_length, hne, List.take_length] at h; exact h) w'
  have HX0 : Hid (Below w.heap.size w w) := Below.refl _ _
  obtain ⟨n, hn⟩ : ∃ n, n = L.length := ⟨_, rfl⟩
  rw [← hne]
  rw [← hn] at HK HT HQ4 hl ⊢
  clear hA hB HQ1 HQ2 hn hne
  go_enter Tryd.func19, Tryd.ntmps19
  go_wp2
  go_loopw [5] (fun i wr => ∃ k : Nat, k ≤ n ∧ i = .int .i64 (k : Int) ∧ Below w.heap.size w wr ∧ L.take k = M.take k) (fun i _ => n - (intOf i).toNat)
  case atStart => exact ⟨0, Nat.zero_le _, rfl, HX0.out, by simp⟩
  case round =>
    obtain ⟨k, hk, rfl, hI, hT⟩ := hrel
    rename World => W
    have HI := Lib.hid hI
    have HTK := Lib.hid hT
    clear hI hT
    by_cases hlt : k < n
    · obtain ⟨g1, g2, A1, c1, A2, c2, rfl, rfl, hh⟩ := HK.out k hlt
      have HC : Hid (∀ W', Below w.heap.size w W' → MsgCells W' g1 (k * 9) (L.getD k default) A1 c1 ∧ MsgCells W' g2 (k * 9) (M.getD k default) A2 c2) := fun W' h => ⟨(hh W' h).1, (hh W' h).2.1⟩
      have HSM : Hid (∀ W', Below w.heap.size w W' → Calls Tryd.prog 45 #[msgA (L.getD k default) A1 (L.getD k default).claims.length c1, msgA (M.getD k default) A2 (M.getD k default).claims.length c2] W' fun e w' => e = .returned (.bool (decide (L.getD k default = M.getD k default))) ∧ Below w.heap.size w w') := fun W' h => (hh W' h).2.2
      have HTS := Lib.hid (HT.out k hlt HTK.out)
      have HF3 := Lib.hid (HQ3.out k)
      have hkw : IntKind.i64.wrap ((k : Int) + 1) = (k : Int) + 1 := IntWalk.i64_in _ (by omega)
      have HLT := Lib.hid hlt
      have hd0 : Below w.heap.size w W.drew := HI.out.drew
      clear hh HK HT HQ3
      generalize L.getD k default = m1 at *
      generalize M.getD k default = m2 at *
      obtain ⟨x0, x1, x2, x3, x4, x5, x6, x7, x8⟩ := m1
      obtain ⟨y0, y1, y2, y3, y4, y5, y6, y7, y8⟩ := m2
      simp only [msgA] at HSM
      simp only [MsgCells] at HC
      generalize x8.length = la at *
      generalize y8.length = lb at *
      obtain ⟨d, hd⟩ : ∃ d, d = decide ((⟨x0, x1, x2, x3, x4, x5, x6, x7, x8⟩ : Msg) = ⟨y0, y1, y2, y3, y4, y5, y6, y7, y8⟩) := ⟨_, rfl⟩
      rw [← hd] at HSM
      have HD := Lib.hid hd
      clear hd
      go_wp2_with fail
      refine wp_region_held_drew (S := fun W' => Below w.heap.size w W') (by kernel_rfl) hd0 (fun hHeld => ?_)
      simp only [List.size_toArray, List.length_cons, List.length_nil, Nat.reduceAdd, Array.replicate_succ, Array.replicate_zero, List.push_toArray, List.nil_append, List.cons_append, List.append_toArray]
      refine take_op (i := 0) (v := ?_) rfl (by kernel_rfl) (by kernel_rfl) (by kernel_rfl) (fun _ _ _ h => h) (Or.inl ⟨by rfl, ?_⟩) (by assumption) ?_
      rotate_left
      · (intro w' hSw; (try dsimp only at hSw); go_simp; (try with_reducible rfl))
      simp only [Act.put, List.setIfInBounds_toArray, List.set_cons_zero, List.set_cons_succ]
      refine take_op (i := 1) (v := ?_) rfl (by kernel_rfl) (by kernel_rfl) (by kernel_rfl) (fun _ _ _ h => h) (Or.inl ⟨by rfl, ?_⟩) (by assumption) ?_
      rotate_left
      · (intro w' hSw; (try dsimp only at hSw); go_simp; (try with_reducible rfl))
      simp only [Act.put, List.setIfInBounds_toArray, List.set_cons_zero, List.set_cons_succ]
      refine take_op (i := 2) (v := ?_) rfl (by kernel_rfl) (by kernel_rfl) (by kernel_rfl) (fun _ _ _ h => h) (Or.inl ⟨by rfl, ?_⟩) (by assumption) ?_
      rotate_left
      · (intro w' hSw; (try dsimp only at hSw); go_simp; (try with_reducible rfl))
      simp only [Act.put, List.setIfInBounds_toArray, List.set_cons_zero, List.set_cons_succ]
      refine take_op (i := 3) (v := ?_) rfl (by kernel_rfl) (by kernel_rfl) (by kernel_rfl) (fun _ _ _ h => h) (Or.inl ⟨by rfl, ?_⟩) (by assumption) ?_
      rotate_left
      · (intro w' hSw; obtain ⟨⟨q0, q1, q2, q3, q4, q5, q6, q7, q8⟩, _⟩ := HC.out _ hSw; go_simp; (try with_reducible rfl))
      simp only [Act.put, List.setIfInBounds_toArray, List.set_cons_zero, List.set_cons_succ]
      refine take_op (i := 4) (v := ?_) rfl (by kernel_rfl) (by kernel_rfl) (by kernel_rfl) (fun _ _ _ h => h) (Or.inl ⟨by rfl, ?_⟩) (by assumption) ?_
      rotate_left
      · (intro w' hSw; (try dsimp only at hSw); go_simp; (try with_reducible rfl))
      simp only [Act.put, List.setIfInBounds_toArray, List.set_cons_zero, List.set_cons_succ]
      refine take_op (i := 5) (v := ?_) rfl (by kernel_rfl) (by kernel_rfl) (by kernel_rfl) (fun _ _ _ h => h) (Or.inl ⟨by rfl, ?_⟩) (by assumption) ?_
      rotate_left
      · (intro w' hSw; (try dsimp only at hSw); go_simp; (try with_reducible rfl))
      simp only [Act.put, List.setIfInBounds_toArray, List.set_cons_zero, List.set_cons_succ]
      refine take_op (i := 6) (v := ?_) rfl (by kernel_rfl) (by kernel_rfl) (by kernel_rfl) (fun _ _ _ h => h) (Or.inl ⟨by rfl, ?_⟩) (by assumption) ?_
      rotate_left
      · (intro w' hSw; (try dsimp only at hSw); go_simp; (try with_reducible rfl))
      simp only [Act.put, List.setIfInBounds_toArray, List.set_cons_zero, List.set_cons_succ]
      refine take_op (i := 7) (v := ?_) rfl (by kernel_rfl) (by kernel_rfl) (by kernel_rfl) (fun _ _ _ h => h) (Or.inl ⟨by rfl, ?_⟩) (by assumption) ?_
      rotate_left
      · (intro w' hSw; obtain ⟨_, r0, r1, r2, r3, r4, r5, r6, r7, r8⟩ := HC.out _ hSw; go_simp; (try with_reducible rfl))
      simp only [Act.put, List.setIfInBounds_toArray, List.set_cons_zero, List.set_cons_succ]
      refine wpAnyH_ready (rs := [8]) (by kernel_rfl) (by simp) ?_
      refine cons_op rfl (fun K hK => ?_) AllReadyH.nil
      go_simp
      refine (HSM.out _ hd0).mono ?_
      rintro e w2 ⟨rfl, hb2⟩
      (try go_wp2_with fail)
      refine hK.out _ _ hb2 (fun hHeld => ?_)
      clear hK K
      (try simp only [Act.put, List.setIfInBounds_toArray, List.set_cons_zero, List.set_cons_succ])
      refine take_op (i := 9) (v := ?_) rfl (by kernel_rfl) (by kernel_rfl) (by kernel_rfl) (fun _ _ _ h => h) (Or.inl ⟨by rfl, ?_⟩) (by assumption) ?_
      rotate_left
      · (intro w' hSw; (try dsimp only at hSw); go_simp; (try with_reducible rfl))
      simp only [Act.put, List.setIfInBounds_toArray, List.set_cons_zero, List.set_cons_succ]
      refine wpAnyH_done (by kernel_rfl) ?_ _
      cases d with
      | false =>
        have HF := Lib.hid (HF3.out (fun e => by have h := HD.out; rw [decide_eq_true e] at h; cases h) _ hb2)
        clear hb2 hd0
        go_wp2
        first | exact HF.out | (go_ret; exact HF.out)
      | true =>
        have HN2 : Hid (Below w.heap.size w w2 ∧ L.take (k + 1) = M.take (k + 1)) := ⟨hb2, HTS.out (of_decide_eq_true HD.out.symm)⟩
        clear hb2 hd0
        go_wp2
        exact ⟨⟨k + 1, HLT.out, by push_cast; rfl, HN2.out⟩, by simp only [intOf]; have := HLT.out; omega⟩
    · obtain rfl : k = n := by omega
      have HF := Lib.hid (HQ4.out W HTK.out HI.out)
      clear hlt
      go_wp2
      first | exact HF.out | (go_ret; exact HF.out)

/-- Tick of none. -/
theorem tick_none (w : World) (n : Nat) : Calls Tryd.prog 20 #[.pointer none, .int .u64 (n : Nat)] w fun e w' => e = .returned (.slice none 0 0) ∧ Below w.heap.size w w' := by
  have hd0 : Below w.heap.size w w.drew := (Below.refl _ w).drew
  have HD := Lib.hid hd0
  go_enter Tryd.func20, Tryd.ntmps20
  go_wp2_with fail
  refine wp_region_held_drew (S := fun W' => W' = w.drew) (by kernel_rfl) rfl (fun hHeld => ?_)
  simp only [List.size_toArray, List.length_cons, List.length_nil, Nat.reduceAdd, Array.replicate_succ, Array.replicate_zero, List.push_toArray, List.nil_append, List.cons_append, List.append_toArray]
  refine take_op (i := 0) (v := ?_) rfl (by kernel_rfl) (by kernel_rfl) (by kernel_rfl) (fun _ _ _ h => h) (Or.inl ⟨by rfl, ?_⟩) (by assumption) ?_
  rotate_left
  · (intro w' hSw; (try dsimp only at hSw); go_simp; (try with_reducible rfl))
  simp only [Act.put, List.setIfInBounds_toArray, List.set_cons_zero, List.set_cons_succ]
  refine wpAnyH_ready (rs := [1]) (by kernel_rfl) (by simp) ?_
  refine cons_op rfl (fun K hK => ?_) AllReadyH.nil
  go_simp
  refine (made_none _).mono ?_
  rintro e w2 ⟨rfl, hw2⟩
  rw [hw2]
  clear hw2
  (try go_wp2_with fail)
  refine hK.out _ _ rfl (fun hHeld => ?_)
  clear hK K
  (try simp only [Act.put, List.setIfInBounds_toArray, List.set_cons_zero, List.set_cons_succ])
  refine take_op (i := 2) (v := ?_) rfl (by kernel_rfl) (by kernel_rfl) (by kernel_rfl) (fun _ _ _ h => h) (Or.inl ⟨by rfl, ?_⟩) (by assumption) ?_
  rotate_left
  · (intro w' hSw; (try dsimp only at hSw); go_simp; (try with_reducible rfl))
  simp only [Act.put, List.setIfInBounds_toArray, List.set_cons_zero, List.set_cons_succ]
  refine take_op (i := 3) (v := ?_) rfl (by kernel_rfl) (by kernel_rfl) (by kernel_rfl) (fun _ _ _ h => h) (Or.inl ⟨by rfl, ?_⟩) (by assumption) ?_
  rotate_left
  · (intro w' hSw; (try dsimp only at hSw); go_simp; (try with_reducible rfl))
  simp only [Act.put, List.setIfInBounds_toArray, List.set_cons_zero, List.set_cons_succ]
  refine take_op (i := 4) rfl (by kernel_rfl) (by kernel_rfl) (by kernel_rfl) (fun _ _ _ h => h) (Or.inr ⟨by rfl, rfl⟩) (by assumption) ?_
  (try simp only [Act.put, List.setIfInBounds_toArray, List.set_cons_zero, List.set_cons_succ])
  refine take_op (i := 5) rfl (by kernel_rfl) (by kernel_rfl) (by kernel_rfl) (fun _ _ _ h => h) (Or.inr ⟨by rfl, rfl⟩) (by assumption) ?_
  (try simp only [Act.put, List.setIfInBounds_toArray, List.set_cons_zero, List.set_cons_succ])
  refine take_op (i := 6) rfl (by kernel_rfl) (by kernel_rfl) (by kernel_rfl) (fun _ _ _ h => h) (Or.inr ⟨by rfl, rfl⟩) (by assumption) ?_
  (try simp only [Act.put, List.setIfInBounds_toArray, List.set_cons_zero, List.set_cons_succ])
  refine take_op (i := 7) rfl (by kernel_rfl) (by kernel_rfl) (by kernel_rfl) (fun _ _ _ h => h) (Or.inr ⟨by rfl, rfl⟩) (by assumption) ?_
  (try simp only [Act.put, List.setIfInBounds_toArray, List.set_cons_zero, List.set_cons_succ])
  refine take_op (i := 8) rfl (by kernel_rfl) (by kernel_rfl) (by kernel_rfl) (fun _ _ _ h => h) (Or.inr ⟨by rfl, rfl⟩) (by assumption) ?_
  (try simp only [Act.put, List.setIfInBounds_toArray, List.set_cons_zero, List.set_cons_succ])
  refine take_op (i := 9) rfl (by kernel_rfl) (by kernel_rfl) (by kernel_rfl) (fun _ _ _ h => h) (Or.inr ⟨by rfl, rfl⟩) (by assumption) ?_
  (try simp only [Act.put, List.setIfInBounds_toArray, List.set_cons_zero, List.set_cons_succ])
  refine take_op (i := 10) rfl (by kernel_rfl) (by kernel_rfl) (by kernel_rfl) (fun _ _ _ h => h) (Or.inr ⟨by rfl, rfl⟩) (by assumption) ?_
  (try simp only [Act.put, List.setIfInBounds_toArray, List.set_cons_zero, List.set_cons_succ])
  refine take_op (i := 11) rfl (by kernel_rfl) (by kernel_rfl) (by kernel_rfl) (fun _ _ _ h => h) (Or.inr ⟨by rfl, rfl⟩) (by assumption) ?_
  (try simp only [Act.put, List.setIfInBounds_toArray, List.set_cons_zero, List.set_cons_succ])
  refine take_op (i := 12) rfl (by kernel_rfl) (by kernel_rfl) (by kernel_rfl) (fun _ _ _ h => h) (Or.inr ⟨by rfl, rfl⟩) (by assumption) ?_
  (try simp only [Act.put, List.setIfInBounds_toArray, List.set_cons_zero, List.set_cons_succ])
  refine take_op (i := 13) rfl (by kernel_rfl) (by kernel_rfl) (by kernel_rfl) (fun _ _ _ h => h) (Or.inr ⟨by rfl, rfl⟩) (by assumption) ?_
  (try simp only [Act.put, List.setIfInBounds_toArray, List.set_cons_zero, List.set_cons_succ])
  refine take_op (i := 14) rfl (by kernel_rfl) (by kernel_rfl) (by kernel_rfl) (fun _ _ _ h => h) (Or.inr ⟨by rfl, rfl⟩) (by assumption) ?_
  (try simp only [Act.put, List.setIfInBounds_toArray, List.set_cons_zero, List.set_cons_succ])
  refine take_op (i := 15) rfl (by kernel_rfl) (by kernel_rfl) (by kernel_rfl) (fun _ _ _ h => h) (Or.inr ⟨by rfl, rfl⟩) (by assumption) ?_
  (try simp only [Act.put, List.setIfInBounds_toArray, List.set_cons_zero, List.set_cons_succ])
  refine take_op (i := 16) (v := ?_) rfl (by kernel_rfl) (by kernel_rfl) (by kernel_rfl) (fun _ _ _ h => h) (Or.inl ⟨by rfl, ?_⟩) (by assumption) ?_
  rotate_left
  · (intro w' hSw; (try dsimp only at hSw); go_simp; (try with_reducible rfl))
  simp only [Act.put, List.setIfInBounds_toArray, List.set_cons_zero, List.set_cons_succ]
  refine wpAnyH_done (by kernel_rfl) ?_ _
  go_wp2
  go_ret
  exact ⟨rfl, HD.out⟩

set_option maxHeartbeats 2000000 in
theorem send_none (w : World) (n : Nat) (m : Msg) {A : Option Addr} {cap : Nat} :
    Calls Tryd.prog 14 #[.pointer none, .int .u64 (n : Nat), msgA m A m.claims.length cap] w fun e w' => e = .returned (.tuple #[zeroPk, .int .i64 1]) ∧ Below w.heap.size w w' := by
  obtain ⟨P, hP⟩ : ∃ P : Ending → World → Prop, P = fun e w' => e = .returned (.tuple #[zeroPk, .int .i64 1]) ∧ Below w.heap.size w w' := ⟨_, rfl⟩
  have HP : Hid (∀ W, Below w.heap.size w W → P (.returned (.tuple #[zeroPk, .int .i64 1])) W) := by rw [hP]; exact fun W h => ⟨rfl, h⟩
  rw [← hP]
  clear hP

  have HBN : Hid (∀ V, V = (w.alloc (.cells (msgC m A m.claims.length cap) 37)).alloc (.cells #[.int .i64 0, .int .i64 0, .int .u32 0, .int .u32 0, .int .u32 0, .int .u32 0, .int .i64 0, .int .i64 0, .int .u32 0, .int .u64 0, .int .i64 0, .int .i64 0, .int .i64 0, .int .i64 0, .slice none 0 0] 39) → Below w.heap.size w V ∧ Bxs w m A m.claims.length cap V) := by
    rintro V rfl
    exact ⟨((Below.refl _ w).alloc (Nat.le_refl _) _).alloc (by simp) _, Bxs.new w m A _ cap⟩
  have HFI : Hid (∀ W, Below w.heap.size w W → Bxs w m A m.claims.length cap W → ((W.cell? ⟨w.heap.size, 0, none⟩ = some (.int .i64 m.kind)) ∧ (∃ z, z = W) ∧ (∀ j, W.frozen? ⟨w.heap.size + 1, j, none⟩ = false) ∧ W.heap[w.heap.size + 1]? = some (.cells #[.int .i64 0, .int .i64 0, .int .u32 0, .int .u32 0, .int .u32 0, .int .u32 0, .int .i64 0, .int .i64 0, .int .u32 0, .int .u64 0, .int .i64 0, .int .i64 0, .int .i64 0, .int .i64 0, .slice none 0 0] 39 (0, 0)))) := by
    intro W hW hB
    exact ⟨by rw [blk_cell hB.1]; rfl, ⟨W, rfl⟩, fun j => blk_free hB.2 j, hB.2⟩
  obtain ⟨x0, x1, x2, x3, x4, x5, x6, x7, x8⟩ := m
  simp only [msgA] at HFI ⊢
  go_enter Tryd.func14, Tryd.ntmps14
  go_wp2_with fail
  obtain ⟨hb0, hx0⟩ := HBN.out _ rfl
  obtain ⟨w2, hw2⟩ : ∃ w2 : World, w2 = (w.alloc (.cells #[.int .i64 x0, .int .i64 x1, .int .u32 (x2 : Nat), .int .u64 (x3 : Nat), .int .i64 x4, .int .i64 x5, .int .i64 x6, .int .i64 x7, .slice A x8.length cap] 37)).alloc (.cells #[.int .i64 0, .int .i64 0, .int .u32 0, .int .u32 0, .int .u32 0, .int .u32 0, .int .i64 0, .int .i64 0, .int .u32 0, .int .u64 0, .int .i64 0, .int .i64 0, .int .i64 0, .int .i64 0, .slice none 0 0] 39) := ⟨_, rfl⟩
  rw [← hw2] at hb0 hx0 ⊢
  have hb2 := hb0
  refine (made_none _).mono ?_
  rintro e w3 ⟨rfl, hw3⟩
  rw [hw3]
  clear hw3 hb0
  obtain ⟨y0, _, _, hz⟩ := HFI.out _ hb2 hx0
  obtain ⟨⟨b0, b1, b2, b3, b4, b5, b6, b7, b8, b9, b10, b11, b12, b13, b14⟩, fz⟩ := pk_cells hz
  have hpa := Lib.hid (pk_all hz (.int .i64 0) (.int .i64 0) (.int .u32 0) (.int .u32 0) (.int .u32 0) (.int .u32 0) (.int .i64 0) (.int .i64 0) (.int .u32 0) (.int .u64 0) (.int .i64 0) (.int .i64 0) (.int .i64 0) (.int .i64 0) (.slice none 0 0))
  have f0 := fz 0
  have f1 := fz 1
  have f2 := fz 2
  have f3 := fz 3
  have f4 := fz 4
  have f5 := fz 5
  have f6 := fz 6
  have f7 := fz 7
  have f8 := fz 8
  have f9 := fz 9
  have f10 := fz 10
  have f11 := fz 11
  have f12 := fz 12
  have f13 := fz 13
  have f14 := fz 14
  have HB2 := Lib.hid hb2
  clear fz hz hb2 hx0 HFI HBN hw2
  go_wp2
  obtain ⟨WF, hWF⟩ : ∃ WF, (((((((((((((((w2.setCell ⟨w.heap.size + 1, 0, none⟩ (.int .i64 0)).setCell ⟨w.heap.size + 1, 1, none⟩ (.int .i64 0)).setCell ⟨w.heap.size + 1, 2, none⟩ (.int .u32 0)).setCell ⟨w.heap.size + 1, 3, none⟩ (.int .u32 0)).setCell ⟨w.heap.size + 1, 4, none⟩ (.int .u32 0)).setCell ⟨w.heap.size + 1, 5, none⟩ (.int .u32 0)).setCell ⟨w.heap.size + 1, 6, none⟩ (.int .i64 0)).setCell ⟨w.heap.size + 1, 7, none⟩ (.int .i64 0)).setCell ⟨w.heap.size + 1, 8, none⟩ (.int .u32 0)).setCell ⟨w.heap.size + 1, 9, none⟩ (.int .u64 0)).setCell ⟨w.heap.size + 1, 10, none⟩ (.int .i64 0)).setCell ⟨w.heap.size + 1, 11, none⟩ (.int .i64 0)).setCell ⟨w.heap.size + 1, 12, none⟩ (.int .i64 0)).setCell ⟨w.heap.size + 1, 13, none⟩ (.int .i64 0)).setCell ⟨w.heap.size + 1, 14, none⟩ (.slice none 0 0)) = WF := ⟨_, rfl⟩
  have hpa2 := hpa.out
  rw [hWF] at hpa2 ⊢
  clear hWF hpa
  obtain ⟨bF, kF⟩ := hpa2
  obtain ⟨⟨s0, s1, s2, s3, s4, s5, s6, s7, s8, s9, s10, s11, s12, s13, s14⟩, _⟩ := pk_cells bF
  have HFF := Lib.hid (HP.out WF (HB2.out.trans (kF.below (fun k h => by omega) HB2.out.size)))
  go_wp2
  refine bodyPost_ret (v := .tuple #[zeroPk, .int .i64 1]) (by simp only [results, Tryd.results14]; simp [go_sem, s0, s1, s2, s3, s4, s5, s6, s7, s8, s9, s10, s11, s12, s13, s14]) rfl HFF.out

end Go.Proofs.YtfgajjfcjlejmaaDoor
