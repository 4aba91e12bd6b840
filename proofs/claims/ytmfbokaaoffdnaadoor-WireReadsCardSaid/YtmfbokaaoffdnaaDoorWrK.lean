/-
  The document's Same and Equal.
-/
import Derived.Test.YtmfbokaaoffdnaaDoorWrG
import Derived.Test.YtmfbokaaoffdnaaDoorWrE
import Derived.Deep.RegionHeld3
import Derived.Deep.DeepCutAuto
namespace Go.Proofs.YtmfbokaaoffdnaaDoor
set_option maxRecDepth 100000
set_option linter.unusedSimpArgs false
open Go Go.RowKit Wr

@[reducible] def msgC2 (m : Msg) (A : Option Addr) (n cap : Nat) : Array Value := #[.int .i64 m.kind, .int .i64 m.cell, .int .u32 (m.gen : Nat), .int .u64 (m.stamp : Nat), .int .i64 m.prio, .int .i64 m.hops, .int .i64 m.origin, .int .i64 m.other, .slice A n cap]
theorem msg_cells {W : World} {b : Nat} {m : Msg} {A : Option Addr} {n cap : Nat} {t : TypeId} (h : W.heap[b]? = some (.cells (msgC2 m A n cap) t (0, 0))) :
    W.cell? ⟨b, 0, none⟩ = some (.int .i64 m.kind) ∧ W.cell? ⟨b, 1, none⟩ = some (.int .i64 m.cell) ∧ W.cell? ⟨b, 2, none⟩ = some (.int .u32 (m.gen : Nat)) ∧ W.cell? ⟨b, 3, none⟩ = some (.int .u64 (m.stamp : Nat)) ∧ W.cell? ⟨b, 4, none⟩ = some (.int .i64 m.prio) ∧ W.cell? ⟨b, 5, none⟩ = some (.int .i64 m.hops) ∧ W.cell? ⟨b, 6, none⟩ = some (.int .i64 m.origin) ∧ W.cell? ⟨b, 7, none⟩ = some (.int .i64 m.other) ∧ W.cell? ⟨b, 8, none⟩ = some (.slice A n cap) := by
  refine ⟨?_, ?_, ?_, ?_, ?_, ?_, ?_, ?_, ?_⟩ <;> (rw [blk_cell h]; rfl)

theorem belowN {B : Nat} {a w : World} (h : Below B a w) (n : Nat) : Below B a (w.drewN n) := ⟨h.os, h.tape, h.output, h.size, h.block⟩
theorem claims_len_ne {a b : List (Int × Nat)} (h : a.length ≠ b.length) : a ≠ b := fun e => h (by rw [e])
theorem take_snoc_c {a b : List (Int × Nat)} {k : Nat} (ha : k < a.length) (hb : k < b.length) (h : a.take k = b.take k) (he : a.getD k (0, 0) = b.getD k (0, 0)) : a.take (k + 1) = b.take (k + 1) := by
  rw [List.take_succ_eq_append_getElem ha, List.take_succ_eq_append_getElem hb, h]
  simp [List.getD, ha, hb] at he
  rw [he]

set_option maxHeartbeats 4000000 in
/-- The document's Same, of two messages in memory. -/
theorem rsame_any {w : World} (m n : Msg) {A B : Option Addr} (ca cb : Nat) (hA : ClaimsAt w A m.claims) (hB : ClaimsAt w B n.claims) (hl : m.claims.length ≤ 100000) (hl2 : n.claims.length ≤ 100000) :
    Calls Tryd.prog 18 #[msgA m A m.claims.length ca, msgA n B n.claims.length cb] w fun e w' => e = .returned (.bool (decide (m = n))) ∧ Below w.heap.size w w' := by
  obtain ⟨P, hP⟩ : ∃ P : Ending → World → Prop, P = fun e w' => e = .returned (.bool (decide (m = n))) ∧ Below w.heap.size w w' := ⟨_, rfl⟩
  have HQ1 : Hid (m ≠ n → ∀ w', Below w.heap.size w w' → P (.returned (.bool false)) w') := by rw [hP]; exact fun h w' hb => ⟨by rw [decide_eq_false h], hb⟩
  have HQ2 : Hid (m = n → ∀ w', Below w.heap.size w w' → P (.returned (.bool true)) w') := by rw [hP]; exact fun h w' hb => ⟨by rw [decide_eq_true h], hb⟩
  rw [← hP]
  clear hP
  have HA := Lib.hid hA
  have HB := Lib.hid hB
  obtain ⟨k1, c1, g1, s1, p1, h1, o1, t1, l1⟩ := m
  obtain ⟨k2, c2, g2, s2, p2, h2, o2, t2, l2⟩ := n
  simp only at HA HB hl hl2 ⊢
  clear hA hB
  simp only [msgA]
  obtain ⟨n1, hn1⟩ : ∃ n1, n1 = l1.length := ⟨_, rfl⟩
  obtain ⟨n2, hn2⟩ : ∃ n2, n2 = l2.length := ⟨_, rfl⟩
  have HN1 := Lib.hid hn1
  have HN2 := Lib.hid hn2
  rw [← hn1, ← hn2]
  rw [← hn1] at hl
  rw [← hn2] at hl2
  clear hn1 hn2
  obtain ⟨W0, hW0⟩ : ∃ W0, W0 = (w.alloc (.cells #[.int .i64 k1, .int .i64 c1, .int .u32 (g1 : Nat), .int .u64 (s1 : Nat), .int .i64 p1, .int .i64 h1, .int .i64 o1, .int .i64 t1, .slice A n1 ca] 26)).alloc (.cells #[.int .i64 k2, .int .i64 c2, .int .u32 (g2 : Nat), .int .u64 (s2 : Nat), .int .i64 p2, .int .i64 h2, .int .i64 o2, .int .i64 t2, .slice B n2 cb] 26) := ⟨_, rfl⟩
  have HWB : Hid (Below w.heap.size w W0) := by rw [hW0]; exact ((Below.refl _ w).alloc (Nat.le_refl _) _).alloc (by simp) _
  have hb1 : W0.heap[w.heap.size]? = some (.cells #[.int .i64 k1, .int .i64 c1, .int .u32 (g1 : Nat), .int .u64 (s1 : Nat), .int .i64 p1, .int .i64 h1, .int .i64 o1, .int .i64 t1, .slice A n1 ca] 26 (0, 0)) := by rw [hW0]; exact (Below.heap_alloc _ _ _ (by simp)).trans (World.alloc_heap_new w _)
  have hb2 : W0.heap[w.heap.size + 1]? = some (.cells #[.int .i64 k2, .int .i64 c2, .int .u32 (g2 : Nat), .int .u64 (s2 : Nat), .int .i64 p2, .int .i64 h2, .int .i64 o2, .int .i64 t2, .slice B n2 cb] 26 (0, 0)) := by
    rw [hW0]
    have := World.alloc_heap_new (w.alloc (.cells #[.int .i64 k1, .int .i64 c1, .int .u32 (g1 : Nat), .int .u64 (s1 : Nat), .int .i64 p1, .int .i64 h1, .int .i64 o1, .int .i64 t1, .slice A n1 ca] 26)) (.cells #[.int .i64 k2, .int .i64 c2, .int .u32 (g2 : Nat), .int .u64 (s2 : Nat), .int .i64 p2, .int .i64 h2, .int .i64 o2, .int .i64 t2, .slice B n2 cb] 26)
    rwa [World.size_alloc] at this
  obtain ⟨a0, a1, a2, a3, a4, a5, a6, a7, a8⟩ := msg_cells (n := n1) (m := ⟨k1, c1, g1, s1, p1, h1, o1, t1, l1⟩) hb1
  obtain ⟨b0, b1, b2, b3, b4, b5, b6, b7, b8⟩ := msg_cells (n := n2) (m := ⟨k2, c2, g2, s2, p2, h2, o2, t2, l2⟩) hb2
  simp only at a0 a1 a2 a3 a4 a5 a6 a7 b0 b1 b2 b3 b4 b5 b6 b7
  have HX1 := Lib.hid hb1
  have HX2 := Lib.hid hb2
  have HCA : Hid (∀ W, Below w.heap.size w W → ClaimsAt W A l1) := fun W h => HA.out.below h
  have HCB : Hid (∀ W, Below w.heap.size w W → ClaimsAt W B l2) := fun W h => HB.out.below h
  clear hb1 hb2
  have HN : Hid (∀ o o', Below w.heap.size w ((w.alloc o).alloc o')) := fun o o' => ((Below.refl _ w).alloc (Nat.le_refl _) o).alloc (by simp) o'
  by_cases hne : k1 ≠ k2
  · have HF := Lib.hid (HQ1.out (fun e => hne (congrArg Msg.kind e)))
    have d1 : (k1 != k2) = true := by simpa using hne
    go_enter Tryd.func18, Tryd.ntmps18
    go_wp2
    first | exact HF.out _ (HN.out _ _) | (go_ret; exact HF.out _ (HN.out _ _))
  replace hne := Classical.not_not.1 hne
  subst hne
  by_cases hne : c1 ≠ c2
  · have HF := Lib.hid (HQ1.out (fun e => hne (congrArg Msg.cell e)))
    have d1 : (c1 != c2) = true := by simpa using hne
    go_enter Tryd.func18, Tryd.ntmps18
    go_wp2
    first | exact HF.out _ (HN.out _ _) | (go_ret; exact HF.out _ (HN.out _ _))
  replace hne := Classical.not_not.1 hne
  subst hne
  by_cases hne : g1 ≠ g2
  · have HF := Lib.hid (HQ1.out (fun e => hne (congrArg Msg.gen e)))
    have d1 : ((g1 : Int) != (g2 : Int)) = true := by simp; omega
    have d2 : (g1 != g2) = true := by simpa using hne
    have d3 : ¬ (g1 : Int) = (g2 : Int) := by omega
    go_enter Tryd.func18, Tryd.ntmps18
    go_wp2
    first | exact HF.out _ (HN.out _ _) | (go_ret; exact HF.out _ (HN.out _ _))
  replace hne := Classical.not_not.1 hne
  subst hne
  by_cases hne : s1 ≠ s2
  · have HF := Lib.hid (HQ1.out (fun e => hne (congrArg Msg.stamp e)))
    have d1 : ((s1 : Int) != (s2 : Int)) = true := by simp; omega
    have d2 : (s1 != s2) = true := by simpa using hne
    have d3 : ¬ (s1 : Int) = (s2 : Int) := by omega
    go_enter Tryd.func18, Tryd.ntmps18
    go_wp2
    first | exact HF.out _ (HN.out _ _) | (go_ret; exact HF.out _ (HN.out _ _))
  replace hne := Classical.not_not.1 hne
  subst hne
  by_cases hne : p1 ≠ p2
  · have HF := Lib.hid (HQ1.out (fun e => hne (congrArg Msg.prio e)))
    have d1 : (p1 != p2) = true := by simpa using hne
    go_enter Tryd.func18, Tryd.ntmps18
    go_wp2
    first | exact HF.out _ (HN.out _ _) | (go_ret; exact HF.out _ (HN.out _ _))
  replace hne := Classical.not_not.1 hne
  subst hne
  by_cases hne : h1 ≠ h2
  · have HF := Lib.hid (HQ1.out (fun e => hne (congrArg Msg.hops e)))
    have d1 : (h1 != h2) = true := by simpa using hne
    go_enter Tryd.func18, Tryd.ntmps18
    go_wp2
    first | exact HF.out _ (HN.out _ _) | (go_ret; exact HF.out _ (HN.out _ _))
  replace hne := Classical.not_not.1 hne
  subst hne
  by_cases hne : o1 ≠ o2
  · have HF := Lib.hid (HQ1.out (fun e => hne (congrArg Msg.origin e)))
    have d1 : (o1 != o2) = true := by simpa using hne
    go_enter Tryd.func18, Tryd.ntmps18
    go_wp2
    first | exact HF.out _ (HN.out _ _) | (go_ret; exact HF.out _ (HN.out _ _))
  replace hne := Classical.not_not.1 hne
  subst hne
  by_cases hne : t1 ≠ t2
  · have HF := Lib.hid (HQ1.out (fun e => hne (congrArg Msg.other e)))
    have d1 : (t1 != t2) = true := by simpa using hne
    go_enter Tryd.func18, Tryd.ntmps18
    go_wp2
    first | exact HF.out _ (HN.out _ _) | (go_ret; exact HF.out _ (HN.out _ _))
  replace hne := Classical.not_not.1 hne
  subst hne
  by_cases hl12 : n1 ≠ n2
  · have HF := Lib.hid (HQ1.out (fun e => hl12 (by rw [HN1.out, HN2.out]; exact congrArg (fun m : Msg => m.claims.length) e)))
    have d1 : ((n1 : Int) != (n2 : Int)) = true := by simp; omega
    have d2 : (n1 != n2) = true := by simpa using hl12
    clear hW0
    go_enter Tryd.func18, Tryd.ntmps18
    go_wp2
    first | exact HF.out _ (HN.out _ _) | (go_ret; exact HF.out _ (HN.out _ _))
  replace hl12 := Classical.not_not.1 hl12
  subst hl12
  have HEQ : Hid (l1 = l2 → (⟨k1, c1, g1, s1, p1, h1, o1, t1, l1⟩ : Msg) = ⟨k1, c1, g1, s1, p1, h1, o1, t1, l2⟩) := fun e => by rw [e]
  have HNE : Hid (l1 ≠ l2 → (⟨k1, c1, g1, s1, p1, h1, o1, t1, l1⟩ : Msg) ≠ ⟨k1, c1, g1, s1, p1, h1, o1, t1, l2⟩) := by
    intro h e
    exact h (Msg.mk.inj e).2.2.2.2.2.2.2.2
  have d1 : ((n1 : Int) != (n1 : Int)) = false := by simp
  go_enter Tryd.func18, Tryd.ntmps18
  go_wp2_with fail
  rw [← hW0]
  clear d1 hW0 a0 a1 a2 a3 a4 a5 a6 a7 b0 b1 b2 b3 b4 b5 b6 b7 a8 b8
  have HBX : Hid (∀ W, Below W0.heap.size W0 W → W.cell? ⟨w.heap.size, 8, none⟩ = some (.slice A n1 ca) ∧ W.cell? ⟨w.heap.size + 1, 8, none⟩ = some (.slice B n1 cb) ∧ Below w.heap.size w W) := by
    intro W h
    have q1 := ((Kept.of_below (X := fun _ => False) h (Nat.le_refl _)).block _ (blk_lt HX1.out) id).trans HX1.out
    have q2 := ((Kept.of_below (X := fun _ => False) h (Nat.le_refl _)).block _ (blk_lt HX2.out) id).trans HX2.out
    exact ⟨by rw [blk_cell q1]; rfl, by rw [blk_cell q2]; rfl, HWB.out.trans (h.mono HWB.out.size)⟩
  clear HX1 HX2
  clear hl2 HN HWB
  go_loopw [5] (fun v wr => ∃ k : Nat, k ≤ n1 ∧ v = .int .i64 (k : Int) ∧ l1.take k = l2.take k ∧ Below W0.heap.size W0 wr) (fun v _ => n1 - (intOf v).toNat)
  case atStart => exact ⟨0, Nat.zero_le _, rfl, rfl, Below.refl _ _⟩
  case round =>
    obtain ⟨k, hk, rfl, he, hw⟩ := hrel
    have HE := Lib.hid he
    have HW := Lib.hid hw
    clear he hw
    obtain ⟨x8, y8, hbw⟩ := HBX.out wr HW.out
    have HBW := Lib.hid hbw
    clear hbw
    by_cases hlt : k < n1
    · have hla : k < l1.length := by rw [← HN1.out]; exact hlt
      have hlb : k < l2.length := by rw [← HN2.out]; exact hlt
      obtain ⟨a, ha, u1, u2⟩ := HCA.out wr HBW.out k hla
      obtain ⟨b, hb, v1, v2⟩ := HCB.out wr HBW.out k hlb
      have HT : Hid (l1.getD k (0, 0) = l2.getD k (0, 0) → l1.take (k + 1) = l2.take (k + 1)) := fun h => take_snoc_c hla hlb HE.out h
      have HF : Hid (l1.getD k (0, 0) ≠ l2.getD k (0, 0) → l1 ≠ l2) := fun h e => h (by rw [e])
      clear hla hlb
      subst ha
      subst hb
      generalize l1.getD k (0, 0) = x at *
      generalize l2.getD k (0, 0) = y at *
      obtain ⟨x1, x2⟩ := x
      obtain ⟨y1, y2⟩ := y
      simp only at u1 u2 v1 v2
      have k0 : (0 : Int) ≤ (k : Int) := by omega
      have k1' : (k : Int) < (n1 : Int) := by omega
      by_cases hx : x1 = y1
      · subst hx
        by_cases hy : x2 = y2
        · subst hy
          have HT2 := Lib.hid (HT.out rfl)
          clear HT HF
          go_wp2
          go_quiet (fail)
          go_wp2
          go_roundw
          case rel => exact ⟨k + 1, by omega, by go_num, HT2.out, belowN HW.out nq⟩
          case measure => simp [intOf]; omega
        · have HF2 := Lib.hid (HNE.out (HF.out (fun e => hy (congrArg Prod.snd e))))
          have d1 : ((x2 : Int) == (y2 : Int)) = false := by simp; omega
          have d2 : (x2 == y2) = false := by simpa using hy
          clear HT HF
          go_wp2
          go_quiet (fail)
          go_wp2
          exact HQ1.out HF2.out _ (belowN HBW.out nq)
      · have HF2 := Lib.hid (HNE.out (HF.out (fun e => hx (congrArg Prod.fst e))))
        have d1 : (x1 == y1) = false := by simpa using hx
        clear HT HF
        go_wp2
        go_quiet (fail)
        go_wp2
        exact HQ1.out HF2.out _ (belowN HBW.out nq)
    · obtain rfl : k = n1 := by omega
      have HF2 : Hid (l1 = l2) := by
        have := HE.out
        have e1 := List.take_length (l := l1)
        have e2 := List.take_length (l := l2)
        rw [← HN1.out] at e1
        rw [← HN2.out] at e2
        rw [e1, e2] at this
        exact this
      go_wp2
      exact HQ2.out (HEQ.out HF2.out) _ HBW.out
end Go.Proofs.YtmfbokaaoffdnaaDoor
