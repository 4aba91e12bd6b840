/-
  wire.Same, of two messages of which some number is another one; and whole.
-/
import Derived.Test.YtmfbokaaoffdnaaDoorWrX
import Derived.Test.YtmfbokaaoffdnaaDoorTk
namespace Go.Proofs.YtmfbokaaoffdnaaDoor
set_option maxRecDepth 100000
set_option linter.unusedSimpArgs false
open Go Go.RowKit Wr

set_option maxHeartbeats 8000000 in
theorem same_no {w : World} (m n : Msg) {A B : Option Addr} (ca cb : Nat) (hm : m.gen < 4294967296) (hn : n.gen < 4294967296) (hk : m.kind = n.kind) (hE : numE m n = false) :
    Calls Tryd.prog 17 #[msgA m A m.claims.length ca, msgA n B n.claims.length cb] w fun e w' => e = .returned (.bool false) ∧ Below w.heap.size w w' := by
  obtain ⟨P, hP⟩ : ∃ P : Ending → World → Prop, P = fun e w' => e = .returned (.bool false) ∧ Below w.heap.size w w' := ⟨_, rfl⟩
  have HQ : Hid (∀ w', Below w.heap.size w w' → P (.returned (.bool false)) w') := by rw [hP]; exact fun w' h => ⟨rfl, h⟩
  rw [← hP]
  clear hP
  obtain ⟨W0, hW0⟩ : ∃ W0, W0 = (w.alloc (.cells (msgC2 m A m.claims.length ca) 26)).alloc (.cells (msgC2 n B n.claims.length cb) 26) := ⟨_, rfl⟩
  have HWB : Hid (Below w.heap.size w W0) := by rw [hW0]; exact ((Below.refl _ w).alloc (Nat.le_refl _) _).alloc (by simp) _
  have hb1 : W0.heap[w.heap.size]? = some (.cells (msgC2 m A m.claims.length ca) 26 (0, 0)) := by rw [hW0]; exact (Below.heap_alloc _ _ _ (by simp)).trans (World.alloc_heap_new w _)
  have hb2 : W0.heap[w.heap.size + 1]? = some (.cells (msgC2 n B n.claims.length cb) 26 (0, 0)) := by
    rw [hW0]
    have := World.alloc_heap_new (w.alloc (.cells (msgC2 m A m.claims.length ca) 26)) (.cells (msgC2 n B n.claims.length cb) 26)
    rwa [World.size_alloc] at this
  have HBX : Hid (∀ W, Below W0.heap.size W0 W → (W.cell? ⟨w.heap.size, 0, none⟩ = some (.int .i64 m.kind) ∧ W.cell? ⟨w.heap.size, 1, none⟩ = some (.int .i64 m.cell) ∧ W.cell? ⟨w.heap.size, 2, none⟩ = some (.int .u32 (m.gen : Nat)) ∧ W.cell? ⟨w.heap.size, 3, none⟩ = some (.int .u64 (m.stamp : Nat)) ∧ W.cell? ⟨w.heap.size, 4, none⟩ = some (.int .i64 m.prio) ∧ W.cell? ⟨w.heap.size, 5, none⟩ = some (.int .i64 m.hops) ∧ W.cell? ⟨w.heap.size, 6, none⟩ = some (.int .i64 m.origin) ∧ W.cell? ⟨w.heap.size, 7, none⟩ = some (.int .i64 m.other) ∧ W.cell? ⟨w.heap.size, 8, none⟩ = some (.slice A m.claims.length ca)) ∧ (W.cell? ⟨w.heap.size + 1, 0, none⟩ = some (.int .i64 n.kind) ∧ W.cell? ⟨w.heap.size + 1, 1, none⟩ = some (.int .i64 n.cell) ∧ W.cell? ⟨w.heap.size + 1, 2, none⟩ = some (.int .u32 (n.gen : Nat)) ∧ W.cell? ⟨w.heap.size + 1, 3, none⟩ = some (.int .u64 (n.stamp : Nat)) ∧ W.cell? ⟨w.heap.size + 1, 4, none⟩ = some (.int .i64 n.prio) ∧ W.cell? ⟨w.heap.size + 1, 5, none⟩ = some (.int .i64 n.hops) ∧ W.cell? ⟨w.heap.size + 1, 6, none⟩ = some (.int .i64 n.origin) ∧ W.cell? ⟨w.heap.size + 1, 7, none⟩ = some (.int .i64 n.other) ∧ W.cell? ⟨w.heap.size + 1, 8, none⟩ = some (.slice B n.claims.length cb))) := by
    intro W h
    have q1 := ((Kept.of_below (X := fun _ => False) h (Nat.le_refl _)).block _ (blk_lt hb1) id).trans hb1
    have q2 := ((Kept.of_below (X := fun _ => False) h (Nat.le_refl _)).block _ (blk_lt hb2) id).trans hb2
    exact ⟨msg_cells q1, msg_cells q2⟩
  have HNa : Hid (∀ W, Below W0.heap.size W0 W → Calls Tryd.prog 22 #[msgA m A m.claims.length ca] W fun e w' => e = .returned (numA m m.claims.length) ∧ Below W0.heap.size W0 w') := fun W h => (numbers_any W m A m.claims.length ca hm).mono fun e w' ⟨h1, h2⟩ => ⟨h1, h.trans (h2.mono h.size)⟩
  have HNb : Hid (∀ W, Below W0.heap.size W0 W → Calls Tryd.prog 22 #[msgA n B n.claims.length cb] W fun e w' => e = .returned (numA n n.claims.length) ∧ Below W0.heap.size W0 w') := fun W h => (numbers_any W n B n.claims.length cb hn).mono fun e w' ⟨h1, h2⟩ => ⟨h1, h.trans (h2.mono h.size)⟩
  have hE9 : ∀ W, (Op.equalIn 10000 53 (numA m m.claims.length) (numA n n.claims.length)).run Tryd.prog W = .ok false W := fun W => (eq9 0 m.cell m.gen (w64 m.stamp) m.prio m.hops m.origin m.other m.claims.length 0 n.cell n.gen (w64 n.stamp) n.prio n.hops n.origin n.other n.claims.length W).trans (by
    have := hE
    unfold numE at this
    rw [this])
  have HWF : Hid (∀ W, Below W0.heap.size W0 W → Below w.heap.size w W) := fun W h => HWB.out.trans (h.mono HWB.out.size)
  have DK : Hid ((m.kind == n.kind) = true) := by simpa [Hid] using hk
  clear hk hb1 hb2 hm hn hE
  generalize m.claims.length = n1 at *
  generalize n.claims.length = n2 at *
  simp only [msgA, numA] at HNa HNb hE9 ⊢
  go_enter Tryd.func17, Tryd.ntmps17
  go_wp2_with fail
  simp only [msgC2] at hW0
  rw [← hW0]
  clear hW0
  have dk := DK.out
  have d0 : Below W0.heap.size W0 W0.drew := (Below.refl _ _).drew
  refine wp_region_held_drew (S := (fun W => (W.cell? ⟨w.heap.size, 0, none⟩ = some (.int .i64 m.kind) ∧ W.cell? ⟨w.heap.size, 1, none⟩ = some (.int .i64 m.cell) ∧ W.cell? ⟨w.heap.size, 2, none⟩ = some (.int .u32 (m.gen : Nat)) ∧ W.cell? ⟨w.heap.size, 3, none⟩ = some (.int .u64 (m.stamp : Nat)) ∧ W.cell? ⟨w.heap.size, 4, none⟩ = some (.int .i64 m.prio) ∧ W.cell? ⟨w.heap.size, 5, none⟩ = some (.int .i64 m.hops) ∧ W.cell? ⟨w.heap.size, 6, none⟩ = some (.int .i64 m.origin) ∧ W.cell? ⟨w.heap.size, 7, none⟩ = some (.int .i64 m.other) ∧ W.cell? ⟨w.heap.size, 8, none⟩ = some (.slice A n1 ca)) ∧ (W.cell? ⟨w.heap.size + 1, 0, none⟩ = some (.int .i64 n.kind) ∧ W.cell? ⟨w.heap.size + 1, 1, none⟩ = some (.int .i64 n.cell) ∧ W.cell? ⟨w.heap.size + 1, 2, none⟩ = some (.int .u32 (n.gen : Nat)) ∧ W.cell? ⟨w.heap.size + 1, 3, none⟩ = some (.int .u64 (n.stamp : Nat)) ∧ W.cell? ⟨w.heap.size + 1, 4, none⟩ = some (.int .i64 n.prio) ∧ W.cell? ⟨w.heap.size + 1, 5, none⟩ = some (.int .i64 n.hops) ∧ W.cell? ⟨w.heap.size + 1, 6, none⟩ = some (.int .i64 n.origin) ∧ W.cell? ⟨w.heap.size + 1, 7, none⟩ = some (.int .i64 n.other) ∧ W.cell? ⟨w.heap.size + 1, 8, none⟩ = some (.slice B n2 cb)))) (by kernel_rfl) (HBX.out _ d0) (fun hHeld => ?_)
  simp only [List.size_toArray, List.length_cons, List.length_nil, Nat.reduceAdd, Array.replicate_succ, Array.replicate_zero, List.push_toArray, List.nil_append, List.cons_append, List.append_toArray]
  refine take_op (i := 0) (v := ?_) rfl (by kernel_rfl) (by kernel_rfl) (by kernel_rfl) (fun _ _ _ h => h) (Or.inl ⟨by rfl, ?_⟩) (by assumption) ?_
  rotate_left
  · (intro w' hSw; (try dsimp only at hSw); go_simp; (try with_reducible rfl))
  simp only [Act.put, List.setIfInBounds_toArray, List.set_cons_zero, List.set_cons_succ]
  refine take_op (i := 1) (v := ?_) rfl (by kernel_rfl) (by kernel_rfl) (by kernel_rfl) (fun _ _ _ h => h) (Or.inl ⟨by rfl, ?_⟩) (by assumption) ?_
  rotate_left
  · (intro w' hSw; (try dsimp only at hSw); go_simp; (try with_reducible rfl))
  simp only [Act.put, List.setIfInBounds_toArray, List.set_cons_zero, List.set_cons_succ]
  refine take_op (i := 2) (v := ?_) rfl (by kernel_rfl) (by kernel_rfl) (by kernel_rfl) (fun _ _ _ h => h) (Or.inl ⟨by rfl, ?_⟩) (by assumption) ?_
  rotate_left
  · (intro w' hSw; (try dsimp only at hSw); go_simp; (try with_reducible rfl))
  simp only [Act.put, List.setIfInBounds_toArray, List.set_cons_zero, List.set_cons_succ]
  refine take_op (i := 3) (v := ?_) rfl (by kernel_rfl) (by kernel_rfl) (by kernel_rfl) (fun _ _ _ h => h) (Or.inl ⟨by rfl, ?_⟩) (by assumption) ?_
  rotate_left
  · (intro w' hSw; (try dsimp only at hSw); go_simp; (try with_reducible rfl))
  simp only [Act.put, List.setIfInBounds_toArray, List.set_cons_zero, List.set_cons_succ]
  refine take_op (i := 4) (v := ?_) rfl (by kernel_rfl) (by kernel_rfl) (by kernel_rfl) (fun _ _ _ h => h) (Or.inl ⟨by rfl, ?_⟩) (by assumption) ?_
  rotate_left
  · (intro w' hSw; (try dsimp only at hSw); go_simp; (try with_reducible rfl))
  simp only [Act.put, List.setIfInBounds_toArray, List.set_cons_zero, List.set_cons_succ]
  refine take_op (i := 5) (v := ?_) rfl (by kernel_rfl) (by kernel_rfl) (by kernel_rfl) (fun _ _ _ h => h) (Or.inl ⟨by rfl, ?_⟩) (by assumption) ?_
  rotate_left
  · (intro w' hSw; (try dsimp only at hSw); go_simp; (try with_reducible rfl))
  simp only [Act.put, List.setIfInBounds_toArray, List.set_cons_zero, List.set_cons_succ]
  refine take_op (i := 6) (v := ?_) rfl (by kernel_rfl) (by kernel_rfl) (by kernel_rfl) (fun _ _ _ h => h) (Or.inl ⟨by rfl, ?_⟩) (by assumption) ?_
  rotate_left
  · (intro w' hSw; (try dsimp only at hSw); go_simp; (try with_reducible rfl))
  simp only [Act.put, List.setIfInBounds_toArray, List.set_cons_zero, List.set_cons_succ]
  refine take_op (i := 8) (v := ?_) rfl (by kernel_rfl) (by kernel_rfl) (by kernel_rfl) (fun _ _ _ h => h) (Or.inl ⟨by rfl, ?_⟩) (by assumption) ?_
  rotate_left
  · (intro w' hSw; (try dsimp only at hSw); go_simp; (try with_reducible rfl))
  simp only [Act.put, List.setIfInBounds_toArray, List.set_cons_zero, List.set_cons_succ]
  refine wpAnyH_ready (rs := [7]) (by kernel_rfl) (by simp) ?_
  refine cons_op rfl (fun K hK => ?_) AllReadyH.nil
  go_simp
  with_reducible refine (HNa.out _ d0).mono ?_
  rintro e w9 ⟨rfl, hb9⟩
  have hC9 := HBX.out _ hb9
  (try go_wp2_with fail)
  refine hK.out _ _ hC9 (fun hHeld => ?_)
  clear hK K
  (try simp only [Act.put, List.setIfInBounds_toArray, List.set_cons_zero, List.set_cons_succ])
  refine wpAnyH_ready (rs := [9]) (by kernel_rfl) (by simp) ?_
  refine cons_op rfl (fun K hK => ?_) AllReadyH.nil
  go_simp
  with_reducible refine (HNb.out _ hb9).mono ?_
  rintro e w10 ⟨rfl, hb10⟩
  have hC10 := HBX.out _ hb10
  (try go_wp2_with fail)
  refine hK.out _ _ hC10 (fun hHeld => ?_)
  clear hK K
  (try simp only [Act.put, List.setIfInBounds_toArray, List.set_cons_zero, List.set_cons_succ])
  refine take_op (i := 10) (v := ?_) rfl (by kernel_rfl) (by kernel_rfl) (by kernel_rfl) (fun _ _ _ h => h) (Or.inl ⟨by rfl, ?_⟩) (by assumption) ?_
  rotate_left
  · (intro w' hSw; (try dsimp only at hSw); go_simp; (try with_reducible rfl))
  simp only [Act.put, List.setIfInBounds_toArray, List.set_cons_zero, List.set_cons_succ]
  refine take_op (i := 11) (v := ?_) rfl (by kernel_rfl) (by kernel_rfl) (by kernel_rfl) (fun _ _ _ h => h) (Or.inl ⟨by rfl, ?_⟩) (by assumption) ?_
  rotate_left
  · (intro w' hSw; (try dsimp only at hSw); go_simp; (try with_reducible rfl))
  simp only [Act.put, List.setIfInBounds_toArray, List.set_cons_zero, List.set_cons_succ]
  refine take_op (i := 12) (v := ?_) rfl (by kernel_rfl) (by kernel_rfl) (by kernel_rfl) (fun _ _ _ h => h) (Or.inl ⟨by rfl, ?_⟩) (by assumption) ?_
  rotate_left
  · (intro w' hSw; (try dsimp only at hSw); go_simp; (try with_reducible rfl))
  simp only [Act.put, List.setIfInBounds_toArray, List.set_cons_zero, List.set_cons_succ]
  refine take_op (i := 13) rfl (by kernel_rfl) (by kernel_rfl) (by kernel_rfl) (fun _ _ _ h => h) (Or.inr ⟨by rfl, rfl⟩) (by assumption) ?_
  (try simp only [Act.put, List.setIfInBounds_toArray, List.set_cons_zero, List.set_cons_succ])
  refine take_op (i := 14) rfl (by kernel_rfl) (by kernel_rfl) (by kernel_rfl) (fun _ _ _ h => h) (Or.inr ⟨by rfl, rfl⟩) (by assumption) ?_
  (try simp only [Act.put, List.setIfInBounds_toArray, List.set_cons_zero, List.set_cons_succ])
  refine take_op (i := 15) rfl (by kernel_rfl) (by kernel_rfl) (by kernel_rfl) (fun _ _ _ h => h) (Or.inr ⟨by rfl, rfl⟩) (by assumption) ?_
  (try simp only [Act.put, List.setIfInBounds_toArray, List.set_cons_zero, List.set_cons_succ])
  refine take_op (i := 16) rfl (by kernel_rfl) (by kernel_rfl) (by kernel_rfl) (fun _ _ _ h => h) (Or.inr ⟨by rfl, rfl⟩) (by assumption) ?_
  (try simp only [Act.put, List.setIfInBounds_toArray, List.set_cons_zero, List.set_cons_succ])
  refine take_op (i := 17) rfl (by kernel_rfl) (by kernel_rfl) (by kernel_rfl) (fun _ _ _ h => h) (Or.inr ⟨by rfl, rfl⟩) (by assumption) ?_
  (try simp only [Act.put, List.setIfInBounds_toArray, List.set_cons_zero, List.set_cons_succ])
  refine take_op (i := 18) (v := ?_) rfl (by kernel_rfl) (by kernel_rfl) (by kernel_rfl) (fun _ _ _ h => h) (Or.inl ⟨by rfl, ?_⟩) (by assumption) ?_
  rotate_left
  · (intro w' hSw; (try dsimp only at hSw); go_simp; (try with_reducible rfl))
  simp only [Act.put, List.setIfInBounds_toArray, List.set_cons_zero, List.set_cons_succ]
  refine take_op (i := 19) (v := ?_) rfl (by kernel_rfl) (by kernel_rfl) (by kernel_rfl) (fun _ _ _ h => h) (Or.inl ⟨by rfl, ?_⟩) (by assumption) ?_
  rotate_left
  · (intro w' hSw; (try dsimp only at hSw); go_simp; (try with_reducible rfl))
  simp only [Act.put, List.setIfInBounds_toArray, List.set_cons_zero, List.set_cons_succ]
  refine wpAnyH_done (by kernel_rfl) ?_ _
  have HFB : Hid (Below w.heap.size w w10) := HWF.out _ hb10
  clear HNa HNb HBX hE9 HWF hb9 hb10 d0
  go_wp2
  first | exact HQ.out _ HFB.out | (go_ret; exact HQ.out _ HFB.out)

/-- wire.Same, of two messages in memory. -/
theorem same_any {w : World} (m n : Msg) {A B : Option Addr} (ca cb : Nat) (hA : ClaimsAt w A m.claims) (hB : ClaimsAt w B n.claims) (hl : m.claims.length ≤ 100000) (hl2 : n.claims.length ≤ 100000) (hm : FitM m) (hn : FitM n) :
    Calls Tryd.prog 17 #[msgA m A m.claims.length ca, msgA n B n.claims.length cb] w fun e w' => e = .returned (.bool (decide (m = n))) ∧ Below w.heap.size w w' := by
  have hI := numE_iff hm hn
  by_cases hk : m.kind = n.kind
  · cases hE : numE m n with
    | false =>
      have : ¬ m = n := fun e => by have := (hI.2 e).2.1; rw [hE] at this; cases this
      rw [decide_eq_false this]
      exact same_no m n ca cb hm.gen hn.gen hk hE
    | true =>
      have e : decide (m = n) = decide (m.claims = n.claims) := by
        by_cases hc : m.claims = n.claims
        · rw [decide_eq_true hc, decide_eq_true (hI.1 ⟨hk, hE, hc⟩)]
        · rw [decide_eq_false hc, decide_eq_false (fun e => hc (hI.2 e).2.2)]
      rw [e]
      exact same_num m n ca cb hA hB hl hl2 hm.gen hn.gen hk hE
  · rw [decide_eq_false (fun e => hk (hI.2 e).1)]
    exact same_kind m n ca cb hk
end Go.Proofs.YtmfbokaaoffdnaaDoor
