/-
  wire.Same, of two messages.
-/
import Derived.Test.YtmfbokaaoffdnaaDoorWrV
namespace Go.Proofs.YtmfbokaaoffdnaaDoor
set_option maxRecDepth 100000
set_option linter.unusedSimpArgs false
open Go Go.RowKit Wr

theorem w64_inj {a b : Nat} (ha : a < 18446744073709551616) (hb : b < 18446744073709551616) (h : w64 (a : Int) = w64 (b : Int)) : a = b := by
  unfold w64 at h; omega
/-- Are the numbers of both the same? -/
def numE (m n : Msg) : Bool := (0 : Int) == 0 && (m.cell == n.cell && (((m.gen : Nat) : Int) == ((n.gen : Nat) : Int) && (w64 (m.stamp : Nat) == w64 (n.stamp : Nat) && (m.prio == n.prio && (m.hops == n.hops && (m.origin == n.origin && (m.other == n.other && ((m.claims.length : Nat) : Int) == ((n.claims.length : Nat) : Int))))))))
theorem numE_iff {m n : Msg} (hm : FitM m) (hn : FitM n) : (m.kind = n.kind ∧ numE m n = true ∧ m.claims = n.claims) ↔ m = n := by
  constructor
  · rintro ⟨h1, h2, h3⟩
    simp only [numE, Bool.and_eq_true, beq_iff_eq] at h2
    obtain ⟨_, a, b, c, d, e, f, g, _⟩ := h2
    have c' := w64_inj hm.stamp hn.stamp c
    have b' : m.gen = n.gen := by omega
    cases m; cases n
    simp only at *
    simp [h1, a, b', c', d, e, f, g, h3]
  · rintro rfl
    exact ⟨rfl, by simp [numE], rfl⟩

set_option maxHeartbeats 4000000 in
theorem same_kind {w : World} (m n : Msg) {A B : Option Addr} (ca cb : Nat) (h : m.kind ≠ n.kind) :
    Calls Tryd.prog 17 #[msgA m A m.claims.length ca, msgA n B n.claims.length cb] w fun e w' => e = .returned (.bool false) ∧ Below w.heap.size w w' := by
  obtain ⟨P, hP⟩ : ∃ P : Ending → World → Prop, P = fun e w' => e = .returned (.bool false) ∧ Below w.heap.size w w' := ⟨_, rfl⟩
  have HQ : Hid (∀ w', Below w.heap.size w w' → P (.returned (.bool false)) w') := by rw [hP]; exact fun w' h => ⟨rfl, h⟩
  rw [← hP]
  clear hP
  have HN : Hid (∀ o o' n, Below w.heap.size w (((w.alloc o).alloc o').drewN n)) := fun o o' n => belowN (((Below.refl _ w).alloc (Nat.le_refl _) o).alloc (by simp) o') n
  have d1 : (m.kind == n.kind) = false := by simpa using h
  simp only [msgA]
  generalize m.claims.length = n1
  generalize n.claims.length = n2
  go_enter Tryd.func17, Tryd.ntmps17
  go_wp2_with fail
  go_quiet (fail)
  go_wp2
  first | exact HQ.out _ (HN.out _ _ _) | (go_ret; exact HQ.out _ (HN.out _ _ _))

set_option maxHeartbeats 8000000 in
theorem same_num {w : World} (m n : Msg) {A B : Option Addr} (ca cb : Nat) (hA : ClaimsAt w A m.claims) (hB : ClaimsAt w B n.claims) (hl : m.claims.length ≤ 100000) (hl2 : n.claims.length ≤ 100000) (hm : m.gen < 4294967296) (hn : n.gen < 4294967296) (hk : m.kind = n.kind) (hE : numE m n = true) :
    Calls Tryd.prog 17 #[msgA m A m.claims.length ca, msgA n B n.claims.length cb] w fun e w' => e = .returned (.bool (decide (m.claims = n.claims))) ∧ Below w.heap.size w w' := by
  obtain ⟨P, hP⟩ : ∃ P : Ending → World → Prop, P = fun e w' => e = .returned (.bool (decide (m.claims = n.claims))) ∧ Below w.heap.size w w' := ⟨_, rfl⟩
  have HQ : Hid (∀ b w', b = decide (m.claims = n.claims) → Below w.heap.size w w' → P (.returned (.bool b)) w') := by rw [hP]; exact fun b w' e h => ⟨by rw [e], h⟩
  rw [← hP]
  clear hP
  obtain ⟨W0, hW0⟩ : ∃ W0, W0 = (w.alloc (.cells (msgC2 m A m.claims.length ca) 26)).alloc (.cells (msgC2 n B n.claims.length cb) 26) := ⟨_, rfl⟩
  have HWB : Hid (Below w.heap.size w W0) := by rw [hW0]; exact ((Below.refl _ w).alloc (Nat.le_refl _) _).alloc (by simp) _
  have hb1 : W0.heap[w.heap.size]? = some (.cells (msgC2 m A m.claims.length ca) 26 (0, 0)) := by rw [hW0]; exact (Below.heap_alloc _ _ _ (by simp)).trans (World.alloc_heap_new w _)
  have hb2 : W0.heap[w.heap.size + 1]? = some (.cells (msgC2 n B n.claims.length cb) 26 (0, 0)) := by
    rw [hW0]
    have := World.alloc_heap_new (w.alloc (.cells (msgC2 m A m.claims.length ca) 26)) (.cells (msgC2 n B n.claims.length cb) 26)
    rwa [World.size_alloc] at this
  have HBX : Hid (∀ W, Below W0.heap.size W0 W → (W.cell? ⟨w.heap.size, 0, none⟩ = some (.int .i64 m.kind) ∧ W.cell? ⟨w.heap.size, 1, none⟩ = some (.int .i64 m.cell) ∧ W.cell? ⟨w.heap.size, 2, none⟩ = some (.int .u32 (m.gen : Nat)) ∧ W.cell? ⟨w.heap.size, 3, none⟩ = some (.int .u64 (m.stamp : Nat)) ∧ W.cell? ⟨w.heap.size, 4, none⟩ = some (.int .i64 m.prio) ∧ W.cell? ⟨w.heap.size, 5, none⟩ = some (.int .i64 m.hops) ∧ W.cell? ⟨w.heap.size, 6, none⟩ = some (.int .i64 m.origin) ∧ W.cell? ⟨w.heap.size, 7, none⟩ = some (.int .i64 m.other) ∧ W.cell? ⟨w.heap.size, 8, none⟩ = some (.slice A m.claims.length ca)) ∧ (W.cell? ⟨w.heap.size + 1, 0, none⟩ = some (.int .i64 n.kind) ∧ W.cell? ⟨w.heap.size + 1, 1, none⟩ = some (.int .i64 n.cell) ∧ W.cell? ⟨w.heap.size + 1, 2, none⟩ = some (.int .u32 (n.gen : Nat)) ∧ W.cell? ⟨w.heap.size + 1, 3, none⟩ = some (.int .u64 (n.stamp : Nat)) ∧ W.cell? ⟨w.heap.size + 1, 4, none⟩ = some (.int .i64 n.prio) ∧ W.cell? ⟨w.heap.size + 1, 5, none⟩ = some (.int .i64 n.hops) ∧ W.cell? ⟨w.heap.size + 1, 6, none⟩ = some (.int .i64 n.origin) ∧ W.cell? ⟨w.heap.size + 1, 7, none⟩ = some (.int .i64 n.other) ∧ W.cell? ⟨w.heap.size + 1, 8, none⟩ = some (.slice B n.claims.length cb))) := by
    intro W h
    have q1 := ((Kept.of_below (X := fun _ => False) h (Nat.le_refl _)).block _ (blk_lt hb1) id).trans hb1
    have q2 := ((Kept.of_below (X := fun _ => False) h (Nat.le_refl _)).block _ (blk_lt hb2) id).trans hb2
    exact ⟨msg_cells q1, msg_cells q2⟩
  have HNa : Hid (∀ W, Below W0.heap.size W0 W → Calls Tryd.prog 22 #[msgA m A m.claims.length ca] W fun e w' => e = .returned (numA m m.claims.length) ∧ Below W0.heap.size W0 w') := fun W h => (numbers_any W m A m.claims.length ca hm).mono fun e w' ⟨h1, h2⟩ => ⟨h1, h.trans (h2.mono h.size)⟩
  have HNb : Hid (∀ W, Below W0.heap.size W0 W → Calls Tryd.prog 22 #[msgA n B n.claims.length cb] W fun e w' => e = .returned (numA n n.claims.length) ∧ Below W0.heap.size W0 w') := fun W h => (numbers_any W n B n.claims.length cb hn).mono fun e w' ⟨h1, h2⟩ => ⟨h1, h.trans (h2.mono h.size)⟩
  have HSE : Hid (∀ W, Below W0.heap.size W0 W → Calls Tryd.prog 30 #[.slice A m.claims.length ca, .slice B n.claims.length cb] W fun e w' => e = .returned (.bool (decide (m.claims = n.claims))) ∧ Below W0.heap.size W0 w') := fun W h => by
    have hw := HWB.out.trans (h.mono HWB.out.size)
    exact (sequal_any m.claims n.claims ca cb (hA.below hw) (hB.below hw) hl hl2).mono fun e w' ⟨h1, h2⟩ => ⟨h1, h.trans (h2.mono h.size)⟩
  have hE9 : ∀ W, (Op.equalIn 10000 53 (numA m m.claims.length) (numA n n.claims.length)).run Tryd.prog W = .ok true W := fun W => (eq9 0 m.cell m.gen (w64 m.stamp) m.prio m.hops m.origin m.other m.claims.length 0 n.cell n.gen (w64 n.stamp) n.prio n.hops n.origin n.other n.claims.length W).trans (by
    have := hE
    unfold numE at this
    rw [this])
  have HWF : Hid (∀ W, Below W0.heap.size W0 W → Below w.heap.size w W) := fun W h => HWB.out.trans (h.mono HWB.out.size)
  obtain ⟨bb, hbb⟩ : ∃ bb, bb = decide (m.claims = n.claims) := ⟨_, rfl⟩
  have HBB := Lib.hid hbb
  rw [← hbb] at HSE
  have DK : Hid ((m.kind == n.kind) = true) := by simpa [Hid] using hk
  clear hk hb1 hb2 hA hB hl hl2 hm hn hE hbb
  generalize m.claims.length = n1 at *
  generalize n.claims.length = n2 at *
  simp only [msgA, numA] at HNa HNb hE9 ⊢
  go_enter Tryd.func17, Tryd.ntmps17
  go_wp2_with fail
  simp only [msgC2] at hW0
  rw [← hW0]
  clear hW0
  have dk := DK.out
  have d0 : Below W0.heap.size W0 W0.drew := (Below.refl _ _).drew
  go_region_held3 (fun W => (W.cell? ⟨w.heap.size, 0, none⟩ = some (.int .i64 m.kind) ∧ W.cell? ⟨w.heap.size, 1, none⟩ = some (.int .i64 m.cell) ∧ W.cell? ⟨w.heap.size, 2, none⟩ = some (.int .u32 (m.gen : Nat)) ∧ W.cell? ⟨w.heap.size, 3, none⟩ = some (.int .u64 (m.stamp : Nat)) ∧ W.cell? ⟨w.heap.size, 4, none⟩ = some (.int .i64 m.prio) ∧ W.cell? ⟨w.heap.size, 5, none⟩ = some (.int .i64 m.hops) ∧ W.cell? ⟨w.heap.size, 6, none⟩ = some (.int .i64 m.origin) ∧ W.cell? ⟨w.heap.size, 7, none⟩ = some (.int .i64 m.other) ∧ W.cell? ⟨w.heap.size, 8, none⟩ = some (.slice A n1 ca)) ∧ (W.cell? ⟨w.heap.size + 1, 0, none⟩ = some (.int .i64 n.kind) ∧ W.cell? ⟨w.heap.size + 1, 1, none⟩ = some (.int .i64 n.cell) ∧ W.cell? ⟨w.heap.size + 1, 2, none⟩ = some (.int .u32 (n.gen : Nat)) ∧ W.cell? ⟨w.heap.size + 1, 3, none⟩ = some (.int .u64 (n.stamp : Nat)) ∧ W.cell? ⟨w.heap.size + 1, 4, none⟩ = some (.int .i64 n.prio) ∧ W.cell? ⟨w.heap.size + 1, 5, none⟩ = some (.int .i64 n.hops) ∧ W.cell? ⟨w.heap.size + 1, 6, none⟩ = some (.int .i64 n.origin) ∧ W.cell? ⟨w.heap.size + 1, 7, none⟩ = some (.int .i64 n.other) ∧ W.cell? ⟨w.heap.size + 1, 8, none⟩ = some (.slice B n2 cb))) (first | exact HBX.out _ (by assumption) | exact HBX.out _ (Below.refl _ _) | exact HBX.out _ (Below.drew (by assumption))) (first | (go_at_call 22; (first | (with_reducible refine (HNa.out _ (by first | exact (Below.refl _ _).drew | assumption | exact Below.drew (by assumption))).mono ?_) | (with_reducible refine (HNb.out _ (by first | exact (Below.refl _ _).drew | assumption | exact Below.drew (by assumption))).mono ?_)); rintro e w5 ⟨rfl, hbS⟩) | (go_at_call 30; (with_reducible refine (HSE.out _ (by first | exact (Below.refl _ _).drew | assumption | exact Below.drew (by assumption))).mono ?_); rintro e w5 ⟨rfl, hbS⟩))
  have HFB : Hid (Below w.heap.size w w5) := HWF.out _ hbS
  clear HSE HNa HNb HBX hE9 HWF hbS d0
  go_wp2
  first | exact HQ.out _ _ HBB.out HFB.out | (go_ret; exact HQ.out _ _ HBB.out HFB.out)

end Go.Proofs.YtmfbokaaoffdnaaDoor
