/- Joined texts: LkJ, LkK. -/
import Derived.Test.YtfgajjfcjlejmaaDoorLkI

/-
  Take, where a packet is refused.
-/
namespace Go.Proofs.YtfgajjfcjlejmaaDoor
set_option maxRecDepth 100000
set_option linter.unusedSimpArgs false
open Go Go.RowKit Wr
attribute [local go_sem] Oper.semAt_some

set_option maxHeartbeats 8000000 in
theorem take_e1 {w : World} {T S : Nat → Prop} {o N : Nat} {s : Lk.S} {n : Nat} {p : Pkt} {A : Option Addr} {cap : Nat} (ha : TkA w T S o N s n p A cap) (hok : okP p = false) :
    Calls Tryd.prog 17 #[.pointer (some ⟨o, 0, none⟩), .int .u64 (n : Nat), pktA p A p.msg.claims.length cap] w (TakeQ w T S o N ⟨s, [], [], false⟩ 2) := by
  obtain ⟨h, hO, hT, hZ, hgz, hn, hC, hl, hfe, hsq, hmt, hg, hN⟩ := ha
  obtain ⟨P, hP⟩ : ∃ P : Ending → World → Prop, P = TakeQ w T S o N ⟨s, [], [], false⟩ 2 := ⟨_, rfl⟩
  have HQ : Hid (∀ e W, TakeQ w T S o N ⟨s, [], [], false⟩ 2 e W → P e W) := by rw [hP]; exact fun e W h => h
  rw [← hP]
  clear hP
  have HM : Hid (∀ W, Below w.heap.size w W → Calls Tryd.prog 35 #[.pointer (some ⟨o, 0, none⟩)] W fun e w' => e = .returned (.bool true) ∧ w' = W) := fun W hW => made_any (h.below hW) hO.ep1
  have HCK : Hid (∀ W, Below w.heap.size w W → Calls Tryd.prog 46 #[pktA p A p.msg.claims.length cap] W fun e w' => e = .returned (.int .i64 71) ∧ Below W.heap.size W w') := fun W hW => (checkP_any (hT.below hW) p cap (hC.at_.below hW) hl hg).mono (by rintro e w' ⟨rfl, hb⟩; rw [hok]; exact ⟨rfl, hb⟩)
  have HBN : Hid (∀ V, V = (w.alloc (.cells (pktCl p A p.msg.claims.length cap) 39)).alloc (.cells #[nilS, nilS, .bool false] 52) → (Below w.heap.size w V ∧ V.heap[w.heap.size]? = some (.cells (pktCl p A p.msg.claims.length cap) 39 (0, 0))) ∧ V.heap[w.heap.size + 1]? = some (.cells #[nilS, nilS, .bool false] 52 (0, 0))) := by
    rintro V rfl
    refine ⟨⟨((Below.refl _ w).alloc (Nat.le_refl _) _).alloc (by simp) _, ?_⟩, ?_⟩
    · rw [Below.heap_alloc _ _ _ (by simp)]; exact World.alloc_heap_new w _
    · have := World.alloc_heap_new (w.alloc (.cells (pktCl p A p.msg.claims.length cap) 39)) (.cells #[nilS, nilS, .bool false] 52)
      rw [World.size_alloc] at this
      exact this
  have HL3 : Hid (∀ W, (Below w.heap.size w W ∧ W.heap[w.heap.size]? = some (.cells (pktCl p A p.msg.claims.length cap) 39 (0, 0))) → (W.cell? ⟨o, 0, none⟩ = some (.int .i64 s.self) ∧ W.cell? ⟨o, 1, none⟩ = some (.int .i64 s.peer)) ∧ (W.cell? ⟨w.heap.size, 0, none⟩ = some (.int .i64 p.from_) ∧ W.cell? ⟨w.heap.size, 1, none⟩ = some (.int .i64 p.to_) ∧ W.cell? ⟨w.heap.size, 2, none⟩ = some (.int .u32 (p.fe : Nat)) ∧ W.cell? ⟨w.heap.size, 3, none⟩ = some (.int .u32 (p.te : Nat)) ∧ W.cell? ⟨w.heap.size, 4, none⟩ = some (.int .u32 (p.seq : Nat)) ∧ W.cell? ⟨w.heap.size, 5, none⟩ = some (.int .u32 (p.met : Nat)) ∧ W.cell? ⟨w.heap.size, 6, none⟩ = some (.int .i64 p.msg.kind) ∧ W.cell? ⟨w.heap.size, 7, none⟩ = some (.int .i64 p.msg.cell) ∧ W.cell? ⟨w.heap.size, 8, none⟩ = some (.int .u32 (p.msg.gen : Nat)) ∧ W.cell? ⟨w.heap.size, 9, none⟩ = some (.int .u64 (p.msg.stamp : Nat)) ∧ W.cell? ⟨w.heap.size, 10, none⟩ = some (.int .i64 p.msg.prio) ∧ W.cell? ⟨w.heap.size, 11, none⟩ = some (.int .i64 p.msg.hops) ∧ W.cell? ⟨w.heap.size, 12, none⟩ = some (.int .i64 p.msg.origin) ∧ W.cell? ⟨w.heap.size, 13, none⟩ = some (.int .i64 p.msg.other) ∧ W.cell? ⟨w.heap.size, 14, none⟩ = some (.slice A p.msg.claims.length cap))) := by
    intro W hW
    obtain ⟨c0, c1, _⟩ := (h.below hW.1).cells
    exact ⟨⟨c0, c1⟩, (pk_cells hW.2).1⟩
  have HSB : Hid (∀ W W', (Below w.heap.size w W ∧ W.heap[w.heap.size]? = some (.cells (pktCl p A p.msg.claims.length cap) 39 (0, 0))) → Below W.heap.size W W' → (Below w.heap.size w W' ∧ W'.heap[w.heap.size]? = some (.cells (pktCl p A p.msg.claims.length cap) 39 (0, 0)))) := fun W W' h1 h2 => ⟨h1.1.trans (h2.mono h1.1.size), (h2.block _ (blk_lt h1.2)).trans h1.2⟩
  have HBD : Hid (∀ w1 W', Below w.heap.size w w1 → w.heap.size + 1 < w1.heap.size → Kept (fun k => k = w.heap.size + 1) w1 W' → P (.returned (.tuple #[.agg #[.slice none 0 0, .slice none 0 0, .bool false], .int .i64 2])) W') := fun w1 W' h1 h2 h3 => HQ.out _ _ (take_bad h h1 h2 h3)
  clear h hO hT hZ hgz hn hC hl hfe hsq hmt hg hN hok HQ
  go_enter Tryd.func17, Tryd.ntmps17
  go_wp2_with fail
  obtain ⟨hbv, hz0⟩ := HBN.out _ rfl
  refine (HM.out _ hbv.1).mono ?_
  rintro e wm ⟨rfl, hwm⟩
  rw [hwm]
  clear hwm
  go_wp2_with fail
  have hb0 := HSB.out _ _ hbv (Below.refl _ _).drew
  refine wp_region_held_drew (S := fun W => Below w.heap.size w W ∧ W.heap[w.heap.size]? = some (.cells (pktCl p A p.msg.claims.length cap) 39 (0, 0))) (by kernel_rfl) hb0 (fun hHeld => ?_)
  simp only [List.size_toArray, List.length_cons, List.length_nil, Nat.reduceAdd, Array.replicate_succ, Array.replicate_zero, List.push_toArray, List.nil_append, List.cons_append, List.append_toArray]
  refine take_op (i := 0) (v := ?_) rfl (by kernel_rfl) (by kernel_rfl) (by kernel_rfl) (fun _ _ _ h => h) (Or.inl ⟨by rfl, ?_⟩) (by assumption) ?_
  rotate_left
  · (intro w' hSw; obtain ⟨⟨o0, o1⟩, q0, q1, q2, q3, q4, q5, q6, q7, q8, q9, q10, q11, q12, q13, q14⟩ := HL3.out _ hSw; go_simp; (try with_reducible rfl))
  simp only [Act.put, List.setIfInBounds_toArray, List.set_cons_zero, List.set_cons_succ]
  refine wpAnyH_ready (rs := [1]) (by kernel_rfl) (by simp) ?_
  refine cons_op rfl (fun K hK => ?_) AllReadyH.nil
  go_simp
  refine (HCK.out _ hb0.1).mono ?_
  rintro e w1 ⟨rfl, hb1'⟩
  have hb1 := HSB.out _ _ hb0 hb1'
  have hz1 := (hb1'.block _ (blk_lt hz0)).trans hz0
  (try go_wp2_with fail)
  refine hK.out _ _ hb1 (fun hHeld => ?_)
  clear hK K
  (try simp only [Act.put, List.setIfInBounds_toArray, List.set_cons_zero, List.set_cons_succ])
  refine take_op (i := 2) (v := ?_) rfl (by kernel_rfl) (by kernel_rfl) (by kernel_rfl) (fun _ _ _ h => h) (Or.inl ⟨by rfl, ?_⟩) (by assumption) ?_
  rotate_left
  · (intro w' hSw; (try dsimp only at hSw); go_simp; (try with_reducible rfl))
  simp only [Act.put, List.setIfInBounds_toArray, List.set_cons_zero, List.set_cons_succ]
  refine take_op (i := 3) (v := ?_) rfl (by kernel_rfl) (by kernel_rfl) (by kernel_rfl) (fun _ _ _ h => h) (Or.inl ⟨by rfl, ?_⟩) (by assumption) ?_
  rotate_left
  · (intro w' hSw; (try dsimp only at hSw); go_simp; (try with_reducible rfl))
  simp only [Act.put, List.setIfInBounds_toArray, List.set_cons_zero, List.set_cons_succ]
  refine take_op (i := 4) rfl (by kernel_rfl) (by kernel_rfl) (by kernel_rfl) (fun _ _ _ h => h) (Or.inr ⟨by rfl, rfl⟩) (by assumption) ?_
  (try simp only [Act.put, List.setIfInBounds_toArray, List.set_cons_zero, List.set_cons_succ])
  refine take_op (i := 5) rfl (by kernel_rfl) (by kernel_rfl) (by kernel_rfl) (fun _ _ _ h => h) (Or.inr ⟨by rfl, rfl⟩) (by assumption) ?_
  (try simp only [Act.put, List.setIfInBounds_toArray, List.set_cons_zero, List.set_cons_succ])
  refine take_op (i := 6) rfl (by kernel_rfl) (by kernel_rfl) (by kernel_rfl) (fun _ _ _ h => h) (Or.inr ⟨by rfl, rfl⟩) (by assumption) ?_
  (try simp only [Act.put, List.setIfInBounds_toArray, List.set_cons_zero, List.set_cons_succ])
  refine take_op (i := 7) rfl (by kernel_rfl) (by kernel_rfl) (by kernel_rfl) (fun _ _ _ h => h) (Or.inr ⟨by rfl, rfl⟩) (by assumption) ?_
  (try simp only [Act.put, List.setIfInBounds_toArray, List.set_cons_zero, List.set_cons_succ])
  refine take_op (i := 8) rfl (by kernel_rfl) (by kernel_rfl) (by kernel_rfl) (fun _ _ _ h => h) (Or.inr ⟨by rfl, rfl⟩) (by assumption) ?_
  (try simp only [Act.put, List.setIfInBounds_toArray, List.set_cons_zero, List.set_cons_succ])
  refine take_op (i := 9) rfl (by kernel_rfl) (by kernel_rfl) (by kernel_rfl) (fun _ _ _ h => h) (Or.inr ⟨by rfl, rfl⟩) (by assumption) ?_
  (try simp only [Act.put, List.setIfInBounds_toArray, List.set_cons_zero, List.set_cons_succ])
  refine take_op (i := 10) rfl (by kernel_rfl) (by kernel_rfl) (by kernel_rfl) (fun _ _ _ h => h) (Or.inr ⟨by rfl, rfl⟩) (by assumption) ?_
  (try simp only [Act.put, List.setIfInBounds_toArray, List.set_cons_zero, List.set_cons_succ])
  refine take_op (i := 11) (v := ?_) rfl (by kernel_rfl) (by kernel_rfl) (by kernel_rfl) (fun _ _ _ h => h) (Or.inl ⟨by rfl, ?_⟩) (by assumption) ?_
  rotate_left
  · (intro w' hSw; (try dsimp only at hSw); go_simp; (try with_reducible rfl))
  simp only [Act.put, List.setIfInBounds_toArray, List.set_cons_zero, List.set_cons_succ]
  refine take_op (i := 12) (v := ?_) rfl (by kernel_rfl) (by kernel_rfl) (by kernel_rfl) (fun _ _ _ h => h) (Or.inl ⟨by rfl, ?_⟩) (by assumption) ?_
  rotate_left
  · (intro w' hSw; (try dsimp only at hSw); go_simp; (try with_reducible rfl))
  simp only [Act.put, List.setIfInBounds_toArray, List.set_cons_zero, List.set_cons_succ]
  refine take_op (i := 13) rfl (by kernel_rfl) (by kernel_rfl) (by kernel_rfl) (fun _ _ _ h => h) (Or.inr ⟨by rfl, rfl⟩) (by assumption) ?_
  (try simp only [Act.put, List.setIfInBounds_toArray, List.set_cons_zero, List.set_cons_succ])
  refine take_op (i := 14) rfl (by kernel_rfl) (by kernel_rfl) (by kernel_rfl) (fun _ _ _ h => h) (Or.inr ⟨by rfl, rfl⟩) (by assumption) ?_
  (try simp only [Act.put, List.setIfInBounds_toArray, List.set_cons_zero, List.set_cons_succ])
  refine take_op (i := 15) rfl (by kernel_rfl) (by kernel_rfl) (by kernel_rfl) (fun _ _ _ h => h) (Or.inr ⟨by rfl, rfl⟩) (by assumption) ?_
  (try simp only [Act.put, List.setIfInBounds_toArray, List.set_cons_zero, List.set_cons_succ])
  refine take_op (i := 16) rfl (by kernel_rfl) (by kernel_rfl) (by kernel_rfl) (fun _ _ _ h => h) (Or.inr ⟨by rfl, rfl⟩) (by assumption) ?_
  (try simp only [Act.put, List.setIfInBounds_toArray, List.set_cons_zero, List.set_cons_succ])
  refine take_op (i := 17) rfl (by kernel_rfl) (by kernel_rfl) (by kernel_rfl) (fun _ _ _ h => h) (Or.inr ⟨by rfl, rfl⟩) (by assumption) ?_
  (try simp only [Act.put, List.setIfInBounds_toArray, List.set_cons_zero, List.set_cons_succ])
  refine take_op (i := 18) rfl (by kernel_rfl) (by kernel_rfl) (by kernel_rfl) (fun _ _ _ h => h) (Or.inr ⟨by rfl, rfl⟩) (by assumption) ?_
  (try simp only [Act.put, List.setIfInBounds_toArray, List.set_cons_zero, List.set_cons_succ])
  refine take_op (i := 19) rfl (by kernel_rfl) (by kernel_rfl) (by kernel_rfl) (fun _ _ _ h => h) (Or.inr ⟨by rfl, rfl⟩) (by assumption) ?_
  (try simp only [Act.put, List.setIfInBounds_toArray, List.set_cons_zero, List.set_cons_succ])
  refine take_op (i := 20) (v := ?_) rfl (by kernel_rfl) (by kernel_rfl) (by kernel_rfl) (fun _ _ _ h => h) (Or.inl ⟨by rfl, ?_⟩) (by assumption) ?_
  rotate_left
  · (intro w' hSw; (try dsimp only at hSw); go_simp; (try with_reducible rfl))
  simp only [Act.put, List.setIfInBounds_toArray, List.set_cons_zero, List.set_cons_succ]
  refine wpAnyH_done (by kernel_rfl) ?_ _
  clear hb1' hb0 hbv hz0 HSB HL3 HBN HCK HM hHeld
  obtain ⟨⟨r0, r1, r2⟩, rf0, rf1, rf2⟩ := athree hz1
  have hK9 : Kept (fun k => k = w.heap.size + 1) w1 (((w1.setCell ⟨w.heap.size + 1, 0, none⟩ (.slice none 0 0)).setCell ⟨w.heap.size + 1, 1, none⟩ (.slice none 0 0)).setCell ⟨w.heap.size + 1, 2, none⟩ (.bool false)) := ((kO _ _ 0 _).trans (kO _ _ 1 _) (fun _ _ h => h)).trans (kO _ _ 2 _) (fun _ _ h => h)
  have hB9 : (((w1.setCell ⟨w.heap.size + 1, 0, none⟩ (.slice none 0 0)).setCell ⟨w.heap.size + 1, 1, none⟩ (.slice none 0 0)).setCell ⟨w.heap.size + 1, 2, none⟩ (.bool false)).heap[w.heap.size + 1]? = some (.cells #[.slice none 0 0, .slice none 0 0, .bool false] 52 (0, 0)) := blk_set (blk_set (blk_set hz1 0 _) 1 _) 2 _
  have hF9 := HBD.out _ _ hb1.1 (blk_lt hz1) hK9
  have hF9h := Lib.hid hF9
  have hB9h := Lib.hid hB9
  clear hF9 hB9 hK9 hz1 hb1
  go_wp2
  have hF9 := hF9h.out
  have hB9 := hB9h.out
  clear hF9h hB9h
  obtain ⟨WF, hWF⟩ : ∃ WF, (((w1.setCell ⟨w.heap.size + 1, 0, none⟩ (.slice none 0 0)).setCell ⟨w.heap.size + 1, 1, none⟩ (.slice none 0 0)).setCell ⟨w.heap.size + 1, 2, none⟩ (.bool false)) = WF := ⟨_, rfl⟩
  rw [hWF] at hB9 hF9 ⊢
  obtain ⟨⟨z0, z1, z2⟩, _⟩ := athree hB9
  have HFF := Lib.hid hF9
  clear hWF hB9 hF9
  refine bodyPost_ret (v := .tuple #[.agg #[.slice none 0 0, .slice none 0 0, .bool false], .int .i64 2]) (by simp only [results, Tryd.results17]; simp [go_sem, z0, z1, z2]) rfl HFF.out

set_option maxHeartbeats 8000000 in
theorem take_e2 {w : World} {T S : Nat → Prop} {o N : Nat} {s : Lk.S} {n : Nat} {p : Pkt} {A : Option Addr} {cap : Nat} (ha : TkA w T S o N s n p A cap) (hok : okP p = true) (hf1 : p.from_ ≠ s.peer) :
    Calls Tryd.prog 17 #[.pointer (some ⟨o, 0, none⟩), .int .u64 (n : Nat), pktA p A p.msg.claims.length cap] w (TakeQ w T S o N ⟨s, [], [], false⟩ 2) := by
  obtain ⟨h, hO, hT, hZ, hgz, hn, hC, hl, hfe, hsq, hmt, hg, hN⟩ := ha
  obtain ⟨P, hP⟩ : ∃ P : Ending → World → Prop, P = TakeQ w T S o N ⟨s, [], [], false⟩ 2 := ⟨_, rfl⟩
  have HQ : Hid (∀ e W, TakeQ w T S o N ⟨s, [], [], false⟩ 2 e W → P e W) := by rw [hP]; exact fun e W h => h
  rw [← hP]
  clear hP
  have HM : Hid (∀ W, Below w.heap.size w W → Calls Tryd.prog 35 #[.pointer (some ⟨o, 0, none⟩)] W fun e w' => e = .returned (.bool true) ∧ w' = W) := fun W hW => made_any (h.below hW) hO.ep1
  have HCK : Hid (∀ W, Below w.heap.size w W → Calls Tryd.prog 46 #[pktA p A p.msg.claims.length cap] W fun e w' => e = .returned (.int .i64 0) ∧ Below W.heap.size W w') := fun W hW => (checkP_any (hT.below hW) p cap (hC.at_.below hW) hl hg).mono (by rintro e w' ⟨rfl, hb⟩; rw [hok]; exact ⟨rfl, hb⟩)
  have HBN : Hid (∀ V, V = (w.alloc (.cells (pktCl p A p.msg.claims.length cap) 39)).alloc (.cells #[nilS, nilS, .bool false] 52) → (Below w.heap.size w V ∧ V.heap[w.heap.size]? = some (.cells (pktCl p A p.msg.claims.length cap) 39 (0, 0))) ∧ V.heap[w.heap.size + 1]? = some (.cells #[nilS, nilS, .bool false] 52 (0, 0))) := by
    rintro V rfl
    refine ⟨⟨((Below.refl _ w).alloc (Nat.le_refl _) _).alloc (by simp) _, ?_⟩, ?_⟩
    · rw [Below.heap_alloc _ _ _ (by simp)]; exact World.alloc_heap_new w _
    · have := World.alloc_heap_new (w.alloc (.cells (pktCl p A p.msg.claims.length cap) 39)) (.cells #[nilS, nilS, .bool false] 52)
      rw [World.size_alloc] at this
      exact this
  have HL3 : Hid (∀ W, (Below w.heap.size w W ∧ W.heap[w.heap.size]? = some (.cells (pktCl p A p.msg.claims.length cap) 39 (0, 0))) → (W.cell? ⟨o, 0, none⟩ = some (.int .i64 s.self) ∧ W.cell? ⟨o, 1, none⟩ = some (.int .i64 s.peer)) ∧ (W.cell? ⟨w.heap.size, 0, none⟩ = some (.int .i64 p.from_) ∧ W.cell? ⟨w.heap.size, 1, none⟩ = some (.int .i64 p.to_) ∧ W.cell? ⟨w.heap.size, 2, none⟩ = some (.int .u32 (p.fe : Nat)) ∧ W.cell? ⟨w.heap.size, 3, none⟩ = some (.int .u32 (p.te : Nat)) ∧ W.cell? ⟨w.heap.size, 4, none⟩ = some (.int .u32 (p.seq : Nat)) ∧ W.cell? ⟨w.heap.size, 5, none⟩ = some (.int .u32 (p.met : Nat)) ∧ W.cell? ⟨w.heap.size, 6, none⟩ = some (.int .i64 p.msg.kind) ∧ W.cell? ⟨w.heap.size, 7, none⟩ = some (.int .i64 p.msg.cell) ∧ W.cell? ⟨w.heap.size, 8, none⟩ = some (.int .u32 (p.msg.gen : Nat)) ∧ W.cell? ⟨w.heap.size, 9, none⟩ = some (.int .u64 (p.msg.stamp : Nat)) ∧ W.cell? ⟨w.heap.size, 10, none⟩ = some (.int .i64 p.msg.prio) ∧ W.cell? ⟨w.heap.size, 11, none⟩ = some (.int .i64 p.msg.hops) ∧ W.cell? ⟨w.heap.size, 12, none⟩ = some (.int .i64 p.msg.origin) ∧ W.cell? ⟨w.heap.size, 13, none⟩ = some (.int .i64 p.msg.other) ∧ W.cell? ⟨w.heap.size, 14, none⟩ = some (.slice A p.msg.claims.length cap))) := by
    intro W hW
    obtain ⟨c0, c1, _⟩ := (h.below hW.1).cells
    exact ⟨⟨c0, c1⟩, (pk_cells hW.2).1⟩
  have HSB : Hid (∀ W W', (Below w.heap.size w W ∧ W.heap[w.heap.size]? = some (.cells (pktCl p A p.msg.claims.length cap) 39 (0, 0))) → Below W.heap.size W W' → (Below w.heap.size w W' ∧ W'.heap[w.heap.size]? = some (.cells (pktCl p A p.msg.claims.length cap) 39 (0, 0)))) := fun W W' h1 h2 => ⟨h1.1.trans (h2.mono h1.1.size), (h2.block _ (blk_lt h1.2)).trans h1.2⟩
  have e1 : (p.from_ != s.peer) = true := by simpa using hf1
  have e1b : (p.from_ == s.peer) = false := by simpa using hf1
  clear hf1
  have HBD : Hid (∀ w1 W', Below w.heap.size w w1 → w.heap.size + 1 < w1.heap.size → Kept (fun k => k = w.heap.size + 1) w1 W' → P (.returned (.tuple #[.agg #[.slice none 0 0, .slice none 0 0, .bool false], .int .i64 2])) W') := fun w1 W' h1 h2 h3 => HQ.out _ _ (take_bad h h1 h2 h3)
  clear h hO hT hZ hgz hn hC hl hfe hsq hmt hg hN hok HQ
  go_enter Tryd.func17, Tryd.ntmps17
  go_wp2_with fail
  obtain ⟨hbv, hz0⟩ := HBN.out _ rfl
  refine (HM.out _ hbv.1).mono ?_
  rintro e wm ⟨rfl, hwm⟩
  rw [hwm]
  clear hwm
  go_wp2_with fail
  have hb0 := HSB.out _ _ hbv (Below.refl _ _).drew
  refine wp_region_held_drew (S := fun W => Below w.heap.size w W ∧ W.heap[w.heap.size]? = some (.cells (pktCl p A p.msg.claims.length cap) 39 (0, 0))) (by kernel_rfl) hb0 (fun hHeld => ?_)
  simp only [List.size_toArray, List.length_cons, List.length_nil, Nat.reduceAdd, Array.replicate_succ, Array.replicate_zero, List.push_toArray, List.nil_append, List.cons_append, List.append_toArray]
  refine take_op (i := 0) (v := ?_) rfl (by kernel_rfl) (by kernel_rfl) (by kernel_rfl) (fun _ _ _ h => h) (Or.inl ⟨by rfl, ?_⟩) (by assumption) ?_
  rotate_left
  · (intro w' hSw; obtain ⟨⟨o0, o1⟩, q0, q1, q2, q3, q4, q5, q6, q7, q8, q9, q10, q11, q12, q13, q14⟩ := HL3.out _ hSw; go_simp; (try with_reducible rfl))
  simp only [Act.put, List.setIfInBounds_toArray, List.set_cons_zero, List.set_cons_succ]
  refine wpAnyH_ready (rs := [1]) (by kernel_rfl) (by simp) ?_
  refine cons_op rfl (fun K hK => ?_) AllReadyH.nil
  go_simp
  refine (HCK.out _ hb0.1).mono ?_
  rintro e w1 ⟨rfl, hb1'⟩
  have hb1 := HSB.out _ _ hb0 hb1'
  have hz1 := (hb1'.block _ (blk_lt hz0)).trans hz0
  (try go_wp2_with fail)
  refine hK.out _ _ hb1 (fun hHeld => ?_)
  clear hK K
  (try simp only [Act.put, List.setIfInBounds_toArray, List.set_cons_zero, List.set_cons_succ])
  refine take_op (i := 2) (v := ?_) rfl (by kernel_rfl) (by kernel_rfl) (by kernel_rfl) (fun _ _ _ h => h) (Or.inl ⟨by rfl, ?_⟩) (by assumption) ?_
  rotate_left
  · (intro w' hSw; (try dsimp only at hSw); go_simp; (try with_reducible rfl))
  simp only [Act.put, List.setIfInBounds_toArray, List.set_cons_zero, List.set_cons_succ]
  refine take_op (i := 3) (v := ?_) rfl (by kernel_rfl) (by kernel_rfl) (by kernel_rfl) (fun _ _ _ h => h) (Or.inl ⟨by rfl, ?_⟩) (by assumption) ?_
  rotate_left
  · (intro w' hSw; (try dsimp only at hSw); go_simp; (try with_reducible rfl))
  simp only [Act.put, List.setIfInBounds_toArray, List.set_cons_zero, List.set_cons_succ]
  refine take_op (i := 4) (v := ?_) rfl (by kernel_rfl) (by kernel_rfl) (by kernel_rfl) (fun _ _ _ h => h) (Or.inl ⟨by rfl, ?_⟩) (by assumption) ?_
  rotate_left
  · (intro w' hSw; (try dsimp only at hSw); go_simp; (try with_reducible rfl))
  simp only [Act.put, List.setIfInBounds_toArray, List.set_cons_zero, List.set_cons_succ]
  refine take_op (i := 5) (v := ?_) rfl (by kernel_rfl) (by kernel_rfl) (by kernel_rfl) (fun _ _ _ h => h) (Or.inl ⟨by rfl, ?_⟩) (by assumption) ?_
  rotate_left
  · (intro w' hSw; obtain ⟨⟨o0, o1⟩, q0, q1, q2, q3, q4, q5, q6, q7, q8, q9, q10, q11, q12, q13, q14⟩ := HL3.out _ hSw; go_simp; (try with_reducible rfl))
  simp only [Act.put, List.setIfInBounds_toArray, List.set_cons_zero, List.set_cons_succ]
  refine take_op (i := 6) (v := ?_) rfl (by kernel_rfl) (by kernel_rfl) (by kernel_rfl) (fun _ _ _ h => h) (Or.inl ⟨by rfl, ?_⟩) (by assumption) ?_
  rotate_left
  · (intro w' hSw; (try dsimp only at hSw); go_simp; (try with_reducible rfl))
  simp only [Act.put, List.setIfInBounds_toArray, List.set_cons_zero, List.set_cons_succ]
  refine take_op (i := 7) (v := ?_) rfl (by kernel_rfl) (by kernel_rfl) (by kernel_rfl) (fun _ _ _ h => h) (Or.inl ⟨by rfl, ?_⟩) (by assumption) ?_
  rotate_left
  · (intro w' hSw; (try dsimp only at hSw); go_simp; (try with_reducible rfl))
  simp only [Act.put, List.setIfInBounds_toArray, List.set_cons_zero, List.set_cons_succ]
  refine take_op (i := 8) (v := ?_) rfl (by kernel_rfl) (by kernel_rfl) (by kernel_rfl) (fun _ _ _ h => h) (Or.inl ⟨by rfl, ?_⟩) (by assumption) ?_
  rotate_left
  · (intro w' hSw; (try dsimp only at hSw); go_simp; (try with_reducible rfl))
  simp only [Act.put, List.setIfInBounds_toArray, List.set_cons_zero, List.set_cons_succ]
  refine take_op (i := 9) (v := ?_) rfl (by kernel_rfl) (by kernel_rfl) (by kernel_rfl) (fun _ _ _ h => h) (Or.inl ⟨by rfl, ?_⟩) (by assumption) ?_
  rotate_left
  · (intro w' hSw; obtain ⟨⟨o0, o1⟩, q0, q1, q2, q3, q4, q5, q6, q7, q8, q9, q10, q11, q12, q13, q14⟩ := HL3.out _ hSw; go_simp; (try with_reducible rfl))
  simp only [Act.put, List.setIfInBounds_toArray, List.set_cons_zero, List.set_cons_succ]
  refine take_op (i := 10) (v := ?_) rfl (by kernel_rfl) (by kernel_rfl) (by kernel_rfl) (fun _ _ _ h => h) (Or.inl ⟨by rfl, ?_⟩) (by assumption) ?_
  rotate_left
  · (intro w' hSw; (try dsimp only at hSw); go_simp; (try with_reducible rfl))
  simp only [Act.put, List.setIfInBounds_toArray, List.set_cons_zero, List.set_cons_succ]
  refine take_op (i := 11) (v := ?_) rfl (by kernel_rfl) (by kernel_rfl) (by kernel_rfl) (fun _ _ _ h => h) (Or.inl ⟨by rfl, ?_⟩) (by assumption) ?_
  rotate_left
  · (intro w' hSw; (try dsimp only at hSw); go_simp; (try with_reducible rfl))
  simp only [Act.put, List.setIfInBounds_toArray, List.set_cons_zero, List.set_cons_succ]
  refine take_op (i := 12) (v := ?_) rfl (by kernel_rfl) (by kernel_rfl) (by kernel_rfl) (fun _ _ _ h => h) (Or.inl ⟨by rfl, ?_⟩) (by assumption) ?_
  rotate_left
  · (intro w' hSw; (try dsimp only at hSw); go_simp; (try with_reducible rfl))
  simp only [Act.put, List.setIfInBounds_toArray, List.set_cons_zero, List.set_cons_succ]
  refine take_op (i := 13) rfl (by kernel_rfl) (by kernel_rfl) (by kernel_rfl) (fun _ _ _ h => h) (Or.inr ⟨by rfl, rfl⟩) (by assumption) ?_
  (try simp only [Act.put, List.setIfInBounds_toArray, List.set_cons_zero, List.set_cons_succ])
  refine take_op (i := 14) rfl (by kernel_rfl) (by kernel_rfl) (by kernel_rfl) (fun _ _ _ h => h) (Or.inr ⟨by rfl, rfl⟩) (by assumption) ?_
  (try simp only [Act.put, List.setIfInBounds_toArray, List.set_cons_zero, List.set_cons_succ])
  refine take_op (i := 15) rfl (by kernel_rfl) (by kernel_rfl) (by kernel_rfl) (fun _ _ _ h => h) (Or.inr ⟨by rfl, rfl⟩) (by assumption) ?_
  (try simp only [Act.put, List.setIfInBounds_toArray, List.set_cons_zero, List.set_cons_succ])
  refine take_op (i := 16) rfl (by kernel_rfl) (by kernel_rfl) (by kernel_rfl) (fun _ _ _ h => h) (Or.inr ⟨by rfl, rfl⟩) (by assumption) ?_
  (try simp only [Act.put, List.setIfInBounds_toArray, List.set_cons_zero, List.set_cons_succ])
  refine take_op (i := 17) rfl (by kernel_rfl) (by kernel_rfl) (by kernel_rfl) (fun _ _ _ h => h) (Or.inr ⟨by rfl, rfl⟩) (by assumption) ?_
  (try simp only [Act.put, List.setIfInBounds_toArray, List.set_cons_zero, List.set_cons_succ])
  refine take_op (i := 18) rfl (by kernel_rfl) (by kernel_rfl) (by kernel_rfl) (fun _ _ _ h => h) (Or.inr ⟨by rfl, rfl⟩) (by assumption) ?_
  (try simp only [Act.put, List.setIfInBounds_toArray, List.set_cons_zero, List.set_cons_succ])
  refine take_op (i := 19) rfl (by kernel_rfl) (by kernel_rfl) (by kernel_rfl) (fun _ _ _ h => h) (Or.inr ⟨by rfl, rfl⟩) (by assumption) ?_
  (try simp only [Act.put, List.setIfInBounds_toArray, List.set_cons_zero, List.set_cons_succ])
  refine take_op (i := 20) (v := ?_) rfl (by kernel_rfl) (by kernel_rfl) (by kernel_rfl) (fun _ _ _ h => h) (Or.inl ⟨by rfl, ?_⟩) (by assumption) ?_
  rotate_left
  · (intro w' hSw; (try dsimp only at hSw); go_simp; (try with_reducible rfl))
  simp only [Act.put, List.setIfInBounds_toArray, List.set_cons_zero, List.set_cons_succ]
  refine wpAnyH_done (by kernel_rfl) ?_ _
  clear hb1' hb0 hbv hz0 HSB HL3 HBN HCK HM hHeld
  obtain ⟨⟨r0, r1, r2⟩, rf0, rf1, rf2⟩ := athree hz1
  have hK9 : Kept (fun k => k = w.heap.size + 1) w1 (((w1.setCell ⟨w.heap.size + 1, 0, none⟩ (.slice none 0 0)).setCell ⟨w.heap.size + 1, 1, none⟩ (.slice none 0 0)).setCell ⟨w.heap.size + 1, 2, none⟩ (.bool false)) := ((kO _ _ 0 _).trans (kO _ _ 1 _) (fun _ _ h => h)).trans (kO _ _ 2 _) (fun _ _ h => h)
  have hB9 : (((w1.setCell ⟨w.heap.size + 1, 0, none⟩ (.slice none 0 0)).setCell ⟨w.heap.size + 1, 1, none⟩ (.slice none 0 0)).setCell ⟨w.heap.size + 1, 2, none⟩ (.bool false)).heap[w.heap.size + 1]? = some (.cells #[.slice none 0 0, .slice none 0 0, .bool false] 52 (0, 0)) := blk_set (blk_set (blk_set hz1 0 _) 1 _) 2 _
  have hF9 := HBD.out _ _ hb1.1 (blk_lt hz1) hK9
  have hF9h := Lib.hid hF9
  have hB9h := Lib.hid hB9
  clear hF9 hB9 hK9 hz1 hb1
  go_wp2
  have hF9 := hF9h.out
  have hB9 := hB9h.out
  clear hF9h hB9h
  obtain ⟨WF, hWF⟩ : ∃ WF, (((w1.setCell ⟨w.heap.size + 1, 0, none⟩ (.slice none 0 0)).setCell ⟨w.heap.size + 1, 1, none⟩ (.slice none 0 0)).setCell ⟨w.heap.size + 1, 2, none⟩ (.bool false)) = WF := ⟨_, rfl⟩
  rw [hWF] at hB9 hF9 ⊢
  obtain ⟨⟨z0, z1, z2⟩, _⟩ := athree hB9
  have HFF := Lib.hid hF9
  clear hWF hB9 hF9
  refine bodyPost_ret (v := .tuple #[.agg #[.slice none 0 0, .slice none 0 0, .bool false], .int .i64 2]) (by simp only [results, Tryd.results17]; simp [go_sem, z0, z1, z2]) rfl HFF.out

set_option maxHeartbeats 8000000 in
theorem take_e3 {w : World} {T S : Nat → Prop} {o N : Nat} {s : Lk.S} {n : Nat} {p : Pkt} {A : Option Addr} {cap : Nat} (ha : TkA w T S o N s n p A cap) (hok : okP p = true) (hf1 : p.from_ = s.peer) (hf2 : p.to_ ≠ s.self) :
    Calls Tryd.prog 17 #[.pointer (some ⟨o, 0, none⟩), .int .u64 (n : Nat), pktA p A p.msg.claims.length cap] w (TakeQ w T S o N ⟨s, [], [], false⟩ 2) := by
  obtain ⟨h, hO, hT, hZ, hgz, hn, hC, hl, hfe, hsq, hmt, hg, hN⟩ := ha
  obtain ⟨P, hP⟩ : ∃ P : Ending → World → Prop, P = TakeQ w T S o N ⟨s, [], [], false⟩ 2 := ⟨_, rfl⟩
  have HQ : Hid (∀ e W, TakeQ w T S o N ⟨s, [], [], false⟩ 2 e W → P e W) := by rw [hP]; exact fun e W h => h
  rw [← hP]
  clear hP
  have HM : Hid (∀ W, Below w.heap.size w W → Calls Tryd.prog 35 #[.pointer (some ⟨o, 0, none⟩)] W fun e w' => e = .returned (.bool true) ∧ w' = W) := fun W hW => made_any (h.below hW) hO.ep1
  have HCK : Hid (∀ W, Below w.heap.size w W → Calls Tryd.prog 46 #[pktA p A p.msg.claims.length cap] W fun e w' => e = .returned (.int .i64 0) ∧ Below W.heap.size W w') := fun W hW => (checkP_any (hT.below hW) p cap (hC.at_.below hW) hl hg).mono (by rintro e w' ⟨rfl, hb⟩; rw [hok]; exact ⟨rfl, hb⟩)
  have HBN : Hid (∀ V, V = (w.alloc (.cells (pktCl p A p.msg.claims.length cap) 39)).alloc (.cells #[nilS, nilS, .bool false] 52) → (Below w.heap.size w V ∧ V.heap[w.heap.size]? = some (.cells (pktCl p A p.msg.claims.length cap) 39 (0, 0))) ∧ V.heap[w.heap.size + 1]? = some (.cells #[nilS, nilS, .bool false] 52 (0, 0))) := by
    rintro V rfl
    refine ⟨⟨((Below.refl _ w).alloc (Nat.le_refl _) _).alloc (by simp) _, ?_⟩, ?_⟩
    · rw [Below.heap_alloc _ _ _ (by simp)]; exact World.alloc_heap_new w _
    · have := World.alloc_heap_new (w.alloc (.cells (pktCl p A p.msg.claims.length cap) 39)) (.cells #[nilS, nilS, .bool false] 52)
      rw [World.size_alloc] at this
      exact this
  have HL3 : Hid (∀ W, (Below w.heap.size w W ∧ W.heap[w.heap.size]? = some (.cells (pktCl p A p.msg.claims.length cap) 39 (0, 0))) → (W.cell? ⟨o, 0, none⟩ = some (.int .i64 s.self) ∧ W.cell? ⟨o, 1, none⟩ = some (.int .i64 s.peer)) ∧ (W.cell? ⟨w.heap.size, 0, none⟩ = some (.int .i64 p.from_) ∧ W.cell? ⟨w.heap.size, 1, none⟩ = some (.int .i64 p.to_) ∧ W.cell? ⟨w.heap.size, 2, none⟩ = some (.int .u32 (p.fe : Nat)) ∧ W.cell? ⟨w.heap.size, 3, none⟩ = some (.int .u32 (p.te : Nat)) ∧ W.cell? ⟨w.heap.size, 4, none⟩ = some (.int .u32 (p.seq : Nat)) ∧ W.cell? ⟨w.heap.size, 5, none⟩ = some (.int .u32 (p.met : Nat)) ∧ W.cell? ⟨w.heap.size, 6, none⟩ = some (.int .i64 p.msg.kind) ∧ W.cell? ⟨w.heap.size, 7, none⟩ = some (.int .i64 p.msg.cell) ∧ W.cell? ⟨w.heap.size, 8, none⟩ = some (.int .u32 (p.msg.gen : Nat)) ∧ W.cell? ⟨w.heap.size, 9, none⟩ = some (.int .u64 (p.msg.stamp : Nat)) ∧ W.cell? ⟨w.heap.size, 10, none⟩ = some (.int .i64 p.msg.prio) ∧ W.cell? ⟨w.heap.size, 11, none⟩ = some (.int .i64 p.msg.hops) ∧ W.cell? ⟨w.heap.size, 12, none⟩ = some (.int .i64 p.msg.origin) ∧ W.cell? ⟨w.heap.size, 13, none⟩ = some (.int .i64 p.msg.other) ∧ W.cell? ⟨w.heap.size, 14, none⟩ = some (.slice A p.msg.claims.length cap))) := by
    intro W hW
    obtain ⟨c0, c1, _⟩ := (h.below hW.1).cells
    exact ⟨⟨c0, c1⟩, (pk_cells hW.2).1⟩
  have HSB : Hid (∀ W W', (Below w.heap.size w W ∧ W.heap[w.heap.size]? = some (.cells (pktCl p A p.msg.claims.length cap) 39 (0, 0))) → Below W.heap.size W W' → (Below w.heap.size w W' ∧ W'.heap[w.heap.size]? = some (.cells (pktCl p A p.msg.claims.length cap) 39 (0, 0)))) := fun W W' h1 h2 => ⟨h1.1.trans (h2.mono h1.1.size), (h2.block _ (blk_lt h1.2)).trans h1.2⟩
  have e1 : (p.from_ != s.peer) = false := by simp [hf1]
  have e2 : (p.to_ != s.self) = true := by simpa using hf2
  have e2b : (p.to_ == s.self) = false := by simpa using hf2
  clear hf1 hf2
  have HBD : Hid (∀ w1 W', Below w.heap.size w w1 → w.heap.size + 1 < w1.heap.size → Kept (fun k => k = w.heap.size + 1) w1 W' → P (.returned (.tuple #[.agg #[.slice none 0 0, .slice none 0 0, .bool false], .int .i64 2])) W') := fun w1 W' h1 h2 h3 => HQ.out _ _ (take_bad h h1 h2 h3)
  clear h hO hT hZ hgz hn hC hl hfe hsq hmt hg hN hok HQ
  go_enter Tryd.func17, Tryd.ntmps17
  go_wp2_with fail
  obtain ⟨hbv, hz0⟩ := HBN.out _ rfl
  refine (HM.out _ hbv.1).mono ?_
  rintro e wm ⟨rfl, hwm⟩
  rw [hwm]
  clear hwm
  go_wp2_with fail
  have hb0 := HSB.out _ _ hbv (Below.refl _ _).drew
  refine wp_region_held_drew (S := fun W => Below w.heap.size w W ∧ W.heap[w.heap.size]? = some (.cells (pktCl p A p.msg.claims.length cap) 39 (0, 0))) (by kernel_rfl) hb0 (fun hHeld => ?_)
  simp only [List.size_toArray, List.length_cons, List.length_nil, Nat.reduceAdd, Array.replicate_succ, Array.replicate_zero, List.push_toArray, List.nil_append, List.cons_append, List.append_toArray]
  refine take_op (i := 0) (v := ?_) rfl (by kernel_rfl) (by kernel_rfl) (by kernel_rfl) (fun _ _ _ h => h) (Or.inl ⟨by rfl, ?_⟩) (by assumption) ?_
  rotate_left
  · (intro w' hSw; obtain ⟨⟨o0, o1⟩, q0, q1, q2, q3, q4, q5, q6, q7, q8, q9, q10, q11, q12, q13, q14⟩ := HL3.out _ hSw; go_simp; (try with_reducible rfl))
  simp only [Act.put, List.setIfInBounds_toArray, List.set_cons_zero, List.set_cons_succ]
  refine wpAnyH_ready (rs := [1]) (by kernel_rfl) (by simp) ?_
  refine cons_op rfl (fun K hK => ?_) AllReadyH.nil
  go_simp
  refine (HCK.out _ hb0.1).mono ?_
  rintro e w1 ⟨rfl, hb1'⟩
  have hb1 := HSB.out _ _ hb0 hb1'
  have hz1 := (hb1'.block _ (blk_lt hz0)).trans hz0
  (try go_wp2_with fail)
  refine hK.out _ _ hb1 (fun hHeld => ?_)
  clear hK K
  (try simp only [Act.put, List.setIfInBounds_toArray, List.set_cons_zero, List.set_cons_succ])
  refine take_op (i := 2) (v := ?_) rfl (by kernel_rfl) (by kernel_rfl) (by kernel_rfl) (fun _ _ _ h => h) (Or.inl ⟨by rfl, ?_⟩) (by assumption) ?_
  rotate_left
  · (intro w' hSw; (try dsimp only at hSw); go_simp; (try with_reducible rfl))
  simp only [Act.put, List.setIfInBounds_toArray, List.set_cons_zero, List.set_cons_succ]
  refine take_op (i := 3) (v := ?_) rfl (by kernel_rfl) (by kernel_rfl) (by kernel_rfl) (fun _ _ _ h => h) (Or.inl ⟨by rfl, ?_⟩) (by assumption) ?_
  rotate_left
  · (intro w' hSw; (try dsimp only at hSw); go_simp; (try with_reducible rfl))
  simp only [Act.put, List.setIfInBounds_toArray, List.set_cons_zero, List.set_cons_succ]
  refine take_op (i := 4) (v := ?_) rfl (by kernel_rfl) (by kernel_rfl) (by kernel_rfl) (fun _ _ _ h => h) (Or.inl ⟨by rfl, ?_⟩) (by assumption) ?_
  rotate_left
  · (intro w' hSw; (try dsimp only at hSw); go_simp; (try with_reducible rfl))
  simp only [Act.put, List.setIfInBounds_toArray, List.set_cons_zero, List.set_cons_succ]
  refine take_op (i := 5) (v := ?_) rfl (by kernel_rfl) (by kernel_rfl) (by kernel_rfl) (fun _ _ _ h => h) (Or.inl ⟨by rfl, ?_⟩) (by assumption) ?_
  rotate_left
  · (intro w' hSw; obtain ⟨⟨o0, o1⟩, q0, q1, q2, q3, q4, q5, q6, q7, q8, q9, q10, q11, q12, q13, q14⟩ := HL3.out _ hSw; go_simp; (try with_reducible rfl))
  simp only [Act.put, List.setIfInBounds_toArray, List.set_cons_zero, List.set_cons_succ]
  refine take_op (i := 6) (v := ?_) rfl (by kernel_rfl) (by kernel_rfl) (by kernel_rfl) (fun _ _ _ h => h) (Or.inl ⟨by rfl, ?_⟩) (by assumption) ?_
  rotate_left
  · (intro w' hSw; (try dsimp only at hSw); go_simp; (try with_reducible rfl))
  simp only [Act.put, List.setIfInBounds_toArray, List.set_cons_zero, List.set_cons_succ]
  refine take_op (i := 7) (v := ?_) rfl (by kernel_rfl) (by kernel_rfl) (by kernel_rfl) (fun _ _ _ h => h) (Or.inl ⟨by rfl, ?_⟩) (by assumption) ?_
  rotate_left
  · (intro w' hSw; (try dsimp only at hSw); go_simp; (try with_reducible rfl))
  simp only [Act.put, List.setIfInBounds_toArray, List.set_cons_zero, List.set_cons_succ]
  refine take_op (i := 8) (v := ?_) rfl (by kernel_rfl) (by kernel_rfl) (by kernel_rfl) (fun _ _ _ h => h) (Or.inl ⟨by rfl, ?_⟩) (by assumption) ?_
  rotate_left
  · (intro w' hSw; (try dsimp only at hSw); go_simp; (try with_reducible rfl))
  simp only [Act.put, List.setIfInBounds_toArray, List.set_cons_zero, List.set_cons_succ]
  refine take_op (i := 9) (v := ?_) rfl (by kernel_rfl) (by kernel_rfl) (by kernel_rfl) (fun _ _ _ h => h) (Or.inl ⟨by rfl, ?_⟩) (by assumption) ?_
  rotate_left
  · (intro w' hSw; obtain ⟨⟨o0, o1⟩, q0, q1, q2, q3, q4, q5, q6, q7, q8, q9, q10, q11, q12, q13, q14⟩ := HL3.out _ hSw; go_simp; (try with_reducible rfl))
  simp only [Act.put, List.setIfInBounds_toArray, List.set_cons_zero, List.set_cons_succ]
  refine take_op (i := 10) (v := ?_) rfl (by kernel_rfl) (by kernel_rfl) (by kernel_rfl) (fun _ _ _ h => h) (Or.inl ⟨by rfl, ?_⟩) (by assumption) ?_
  rotate_left
  · (intro w' hSw; (try dsimp only at hSw); go_simp; (try with_reducible rfl))
  simp only [Act.put, List.setIfInBounds_toArray, List.set_cons_zero, List.set_cons_succ]
  refine take_op (i := 11) (v := ?_) rfl (by kernel_rfl) (by kernel_rfl) (by kernel_rfl) (fun _ _ _ h => h) (Or.inl ⟨by rfl, ?_⟩) (by assumption) ?_
  rotate_left
  · (intro w' hSw; (try dsimp only at hSw); go_simp; (try with_reducible rfl))
  simp only [Act.put, List.setIfInBounds_toArray, List.set_cons_zero, List.set_cons_succ]
  refine take_op (i := 12) (v := ?_) rfl (by kernel_rfl) (by kernel_rfl) (by kernel_rfl) (fun _ _ _ h => h) (Or.inl ⟨by rfl, ?_⟩) (by assumption) ?_
  rotate_left
  · (intro w' hSw; (try dsimp only at hSw); go_simp; (try with_reducible rfl))
  simp only [Act.put, List.setIfInBounds_toArray, List.set_cons_zero, List.set_cons_succ]
  refine take_op (i := 13) (v := ?_) rfl (by kernel_rfl) (by kernel_rfl) (by kernel_rfl) (fun _ _ _ h => h) (Or.inl ⟨by rfl, ?_⟩) (by assumption) ?_
  rotate_left
  · (intro w' hSw; (try dsimp only at hSw); go_simp; (try with_reducible rfl))
  simp only [Act.put, List.setIfInBounds_toArray, List.set_cons_zero, List.set_cons_succ]
  refine take_op (i := 14) (v := ?_) rfl (by kernel_rfl) (by kernel_rfl) (by kernel_rfl) (fun _ _ _ h => h) (Or.inl ⟨by rfl, ?_⟩) (by assumption) ?_
  rotate_left
  · (intro w' hSw; obtain ⟨⟨o0, o1⟩, q0, q1, q2, q3, q4, q5, q6, q7, q8, q9, q10, q11, q12, q13, q14⟩ := HL3.out _ hSw; go_simp; (try with_reducible rfl))
  simp only [Act.put, List.setIfInBounds_toArray, List.set_cons_zero, List.set_cons_succ]
  refine take_op (i := 15) (v := ?_) rfl (by kernel_rfl) (by kernel_rfl) (by kernel_rfl) (fun _ _ _ h => h) (Or.inl ⟨by rfl, ?_⟩) (by assumption) ?_
  rotate_left
  · (intro w' hSw; (try dsimp only at hSw); go_simp; (try with_reducible rfl))
  simp only [Act.put, List.setIfInBounds_toArray, List.set_cons_zero, List.set_cons_succ]
  refine take_op (i := 16) (v := ?_) rfl (by kernel_rfl) (by kernel_rfl) (by kernel_rfl) (fun _ _ _ h => h) (Or.inl ⟨by rfl, ?_⟩) (by assumption) ?_
  rotate_left
  · (intro w' hSw; (try dsimp only at hSw); go_simp; (try with_reducible rfl))
  simp only [Act.put, List.setIfInBounds_toArray, List.set_cons_zero, List.set_cons_succ]
  refine take_op (i := 17) (v := ?_) rfl (by kernel_rfl) (by kernel_rfl) (by kernel_rfl) (fun _ _ _ h => h) (Or.inl ⟨by rfl, ?_⟩) (by assumption) ?_
  rotate_left
  · (intro w' hSw; (try dsimp only at hSw); go_simp; (try with_reducible rfl))
  simp only [Act.put, List.setIfInBounds_toArray, List.set_cons_zero, List.set_cons_succ]
  refine take_op (i := 18) (v := ?_) rfl (by kernel_rfl) (by kernel_rfl) (by kernel_rfl) (fun _ _ _ h => h) (Or.inl ⟨by rfl, ?_⟩) (by assumption) ?_
  rotate_left
  · (intro w' hSw; obtain ⟨⟨o0, o1⟩, q0, q1, q2, q3, q4, q5, q6, q7, q8, q9, q10, q11, q12, q13, q14⟩ := HL3.out _ hSw; go_simp; (try with_reducible rfl))
  simp only [Act.put, List.setIfInBounds_toArray, List.set_cons_zero, List.set_cons_succ]
  refine take_op (i := 19) (v := ?_) rfl (by kernel_rfl) (by kernel_rfl) (by kernel_rfl) (fun _ _ _ h => h) (Or.inl ⟨by rfl, ?_⟩) (by assumption) ?_
  rotate_left
  · (intro w' hSw; (try dsimp only at hSw); go_simp; (try with_reducible rfl))
  simp only [Act.put, List.setIfInBounds_toArray, List.set_cons_zero, List.set_cons_succ]
  refine take_op (i := 20) (v := ?_) rfl (by kernel_rfl) (by kernel_rfl) (by kernel_rfl) (fun _ _ _ h => h) (Or.inl ⟨by rfl, ?_⟩) (by assumption) ?_
  rotate_left
  · (intro w' hSw; (try dsimp only at hSw); go_simp; (try with_reducible rfl))
  simp only [Act.put, List.setIfInBounds_toArray, List.set_cons_zero, List.set_cons_succ]
  refine wpAnyH_done (by kernel_rfl) ?_ _
  clear hb1' hb0 hbv hz0 HSB HL3 HBN HCK HM hHeld
  obtain ⟨⟨r0, r1, r2⟩, rf0, rf1, rf2⟩ := athree hz1
  have hK9 : Kept (fun k => k = w.heap.size + 1) w1 (((w1.setCell ⟨w.heap.size + 1, 0, none⟩ (.slice none 0 0)).setCell ⟨w.heap.size + 1, 1, none⟩ (.slice none 0 0)).setCell ⟨w.heap.size + 1, 2, none⟩ (.bool false)) := ((kO _ _ 0 _).trans (kO _ _ 1 _) (fun _ _ h => h)).trans (kO _ _ 2 _) (fun _ _ h => h)
  have hB9 : (((w1.setCell ⟨w.heap.size + 1, 0, none⟩ (.slice none 0 0)).setCell ⟨w.heap.size + 1, 1, none⟩ (.slice none 0 0)).setCell ⟨w.heap.size + 1, 2, none⟩ (.bool false)).heap[w.heap.size + 1]? = some (.cells #[.slice none 0 0, .slice none 0 0, .bool false] 52 (0, 0)) := blk_set (blk_set (blk_set hz1 0 _) 1 _) 2 _
  have hF9 := HBD.out _ _ hb1.1 (blk_lt hz1) hK9
  have hF9h := Lib.hid hF9
  have hB9h := Lib.hid hB9
  clear hF9 hB9 hK9 hz1 hb1
  go_wp2
  have hF9 := hF9h.out
  have hB9 := hB9h.out
  clear hF9h hB9h
  obtain ⟨WF, hWF⟩ : ∃ WF, (((w1.setCell ⟨w.heap.size + 1, 0, none⟩ (.slice none 0 0)).setCell ⟨w.heap.size + 1, 1, none⟩ (.slice none 0 0)).setCell ⟨w.heap.size + 1, 2, none⟩ (.bool false)) = WF := ⟨_, rfl⟩
  rw [hWF] at hB9 hF9 ⊢
  obtain ⟨⟨z0, z1, z2⟩, _⟩ := athree hB9
  have HFF := Lib.hid hF9
  clear hWF hB9 hF9
  refine bodyPost_ret (v := .tuple #[.agg #[.slice none 0 0, .slice none 0 0, .bool false], .int .i64 2]) (by simp only [results, Tryd.results17]; simp [go_sem, z0, z1, z2]) rfl HFF.out
end Go.Proofs.YtfgajjfcjlejmaaDoor

/-
  Take, where a packet is of an elder epoch.
-/
namespace Go.Proofs.YtfgajjfcjlejmaaDoor
set_option maxRecDepth 100000
set_option linter.unusedSimpArgs false
open Go Go.RowKit Wr
attribute [local go_sem] Oper.semAt_some

set_option maxHeartbeats 8000000 in
theorem take_s1 {w : World} {T S : Nat → Prop} {o N : Nat} {s : Lk.S} {n : Nat} {p : Pkt} {A : Option Addr} {cap : Nat} (ha : TkA w T S o N s n p A cap) (hok : okP p = true) (hf1 : p.from_ = s.peer) (hf2 : p.to_ = s.self) (h0 : p.fe = 0) :
    Calls Tryd.prog 17 #[.pointer (some ⟨o, 0, none⟩), .int .u64 (n : Nat), pktA p A p.msg.claims.length cap] w (TakeQ w T S o N ⟨s, [], [], false⟩ 0) := by
  obtain ⟨h, hO, hT, hZ, hgz, hn, hC, hl, hfe, hsq, hmt, hg, hN⟩ := ha
  obtain ⟨P, hP⟩ : ∃ P : Ending → World → Prop, P = TakeQ w T S o N ⟨s, [], [], false⟩ 0 := ⟨_, rfl⟩
  have HQ : Hid (∀ e W, TakeQ w T S o N ⟨s, [], [], false⟩ 0 e W → P e W) := by rw [hP]; exact fun e W h => h
  rw [← hP]
  clear hP
  have HM : Hid (∀ W, Below w.heap.size w W → Calls Tryd.prog 35 #[.pointer (some ⟨o, 0, none⟩)] W fun e w' => e = .returned (.bool true) ∧ w' = W) := fun W hW => made_any (h.below hW) hO.ep1
  have HCK : Hid (∀ W, Below w.heap.size w W → Calls Tryd.prog 46 #[pktA p A p.msg.claims.length cap] W fun e w' => e = .returned (.int .i64 0) ∧ Below W.heap.size W w') := fun W hW => (checkP_any (hT.below hW) p cap (hC.at_.below hW) hl hg).mono (by rintro e w' ⟨rfl, hb⟩; rw [hok]; exact ⟨rfl, hb⟩)
  have HBN : Hid (∀ V, V = (w.alloc (.cells (pktCl p A p.msg.claims.length cap) 39)).alloc (.cells #[nilS, nilS, .bool false] 52) → (Below w.heap.size w V ∧ V.heap[w.heap.size]? = some (.cells (pktCl p A p.msg.claims.length cap) 39 (0, 0))) ∧ V.heap[w.heap.size + 1]? = some (.cells #[nilS, nilS, .bool false] 52 (0, 0))) := by
    rintro V rfl
    refine ⟨⟨((Below.refl _ w).alloc (Nat.le_refl _) _).alloc (by simp) _, ?_⟩, ?_⟩
    · rw [Below.heap_alloc _ _ _ (by simp)]; exact World.alloc_heap_new w _
    · have := World.alloc_heap_new (w.alloc (.cells (pktCl p A p.msg.claims.length cap) 39)) (.cells #[nilS, nilS, .bool false] 52)
      rw [World.size_alloc] at this
      exact this
  have HL3 : Hid (∀ W, (Below w.heap.size w W ∧ W.heap[w.heap.size]? = some (.cells (pktCl p A p.msg.claims.length cap) 39 (0, 0))) → (W.cell? ⟨o, 0, none⟩ = some (.int .i64 s.self) ∧ W.cell? ⟨o, 1, none⟩ = some (.int .i64 s.peer)) ∧ (W.cell? ⟨w.heap.size, 0, none⟩ = some (.int .i64 p.from_) ∧ W.cell? ⟨w.heap.size, 1, none⟩ = some (.int .i64 p.to_) ∧ W.cell? ⟨w.heap.size, 2, none⟩ = some (.int .u32 (p.fe : Nat)) ∧ W.cell? ⟨w.heap.size, 3, none⟩ = some (.int .u32 (p.te : Nat)) ∧ W.cell? ⟨w.heap.size, 4, none⟩ = some (.int .u32 (p.seq : Nat)) ∧ W.cell? ⟨w.heap.size, 5, none⟩ = some (.int .u32 (p.met : Nat)) ∧ W.cell? ⟨w.heap.size, 6, none⟩ = some (.int .i64 p.msg.kind) ∧ W.cell? ⟨w.heap.size, 7, none⟩ = some (.int .i64 p.msg.cell) ∧ W.cell? ⟨w.heap.size, 8, none⟩ = some (.int .u32 (p.msg.gen : Nat)) ∧ W.cell? ⟨w.heap.size, 9, none⟩ = some (.int .u64 (p.msg.stamp : Nat)) ∧ W.cell? ⟨w.heap.size, 10, none⟩ = some (.int .i64 p.msg.prio) ∧ W.cell? ⟨w.heap.size, 11, none⟩ = some (.int .i64 p.msg.hops) ∧ W.cell? ⟨w.heap.size, 12, none⟩ = some (.int .i64 p.msg.origin) ∧ W.cell? ⟨w.heap.size, 13, none⟩ = some (.int .i64 p.msg.other) ∧ W.cell? ⟨w.heap.size, 14, none⟩ = some (.slice A p.msg.claims.length cap))) := by
    intro W hW
    obtain ⟨c0, c1, _⟩ := (h.below hW.1).cells
    exact ⟨⟨c0, c1⟩, (pk_cells hW.2).1⟩
  have HSB : Hid (∀ W W', (Below w.heap.size w W ∧ W.heap[w.heap.size]? = some (.cells (pktCl p A p.msg.claims.length cap) 39 (0, 0))) → Below W.heap.size W W' → (Below w.heap.size w W' ∧ W'.heap[w.heap.size]? = some (.cells (pktCl p A p.msg.claims.length cap) 39 (0, 0)))) := fun W W' h1 h2 => ⟨h1.1.trans (h2.mono h1.1.size), (h2.block _ (blk_lt h1.2)).trans h1.2⟩
  have HSTART : Hid (∀ w1, Below w.heap.size w w1 → w1.heap[w.heap.size]? = some (.cells (pktCl p A p.msg.claims.length cap) 39 (0, 0)) → w1.heap[w.heap.size + 1]? = some (.cells #[nilS, nilS, .bool false] 52 (0, 0)) → ∃ T1 : Nat → Prop, TkH w (w1.heap.size + 1) T T1 S o w1.heap.size ∧ TkE w (w1.heap.size + 1) T1 S o N w1.heap.size p A cap s nilS nilS [] [] false (w1.alloc (.cells #[nilS, nilS, .bool false] 52))) := fun w1 a b c => take_start h hC a b c
  have e1 : (p.from_ != s.peer) = false := by simp [hf1]
  have e1b : (p.from_ == s.peer) = true := by simp [hf1]
  have e2 : (p.to_ != s.self) = false := by simp [hf2]
  have e2b : (p.to_ == s.self) = true := by simp [hf2]
  have z1 : ((p.fe : Int) == 0) = true := by rw [h0]; rfl
  clear h0
  clear h hO hT hZ hgz hn hC hl hsq hmt hg hN hok hf1 hf2 hfe
  go_enter Tryd.func17, Tryd.ntmps17
  go_wp2_with fail
  obtain ⟨hbv, hz0⟩ := HBN.out _ rfl
  refine (HM.out _ hbv.1).mono ?_
  rintro e wm ⟨rfl, hwm⟩
  rw [hwm]
  clear hwm
  go_wp2_with fail
  have hb0 := HSB.out _ _ hbv (Below.refl _ _).drew
  refine wp_region_held_drew (S := fun W => Below w.heap.size w W ∧ W.heap[w.heap.size]? = some (.cells (pktCl p A p.msg.claims.length cap) 39 (0, 0))) (by kernel_rfl) hb0 (fun hHeld => ?_)
  simp only [List.size_toArray, List.length_cons, List.length_nil, Nat.reduceAdd, Array.replicate_succ, Array.replicate_zero, List.push_toArray, List.nil_append, List.cons_append, List.append_toArray]
  refine take_op (i := 0) (v := ?_) rfl (by kernel_rfl) (by kernel_rfl) (by kernel_rfl) (fun _ _ _ h => h) (Or.inl ⟨by rfl, ?_⟩) (by assumption) ?_
  rotate_left
  · (intro w' hSw; obtain ⟨⟨o0, o1⟩, q0, q1, q2, q3, q4, q5, q6, q7, q8, q9, q10, q11, q12, q13, q14⟩ := HL3.out _ hSw; go_simp; (try with_reducible rfl))
  simp only [Act.put, List.setIfInBounds_toArray, List.set_cons_zero, List.set_cons_succ]
  refine wpAnyH_ready (rs := [1]) (by kernel_rfl) (by simp) ?_
  refine cons_op rfl (fun K hK => ?_) AllReadyH.nil
  go_simp
  refine (HCK.out _ hb0.1).mono ?_
  rintro e w1 ⟨rfl, hb1'⟩
  have hb1 := HSB.out _ _ hb0 hb1'
  have hz1 := (hb1'.block _ (blk_lt hz0)).trans hz0
  (try go_wp2_with fail)
  refine hK.out _ _ hb1 (fun hHeld => ?_)
  clear hK K
  (try simp only [Act.put, List.setIfInBounds_toArray, List.set_cons_zero, List.set_cons_succ])
  refine take_op (i := 2) (v := ?_) rfl (by kernel_rfl) (by kernel_rfl) (by kernel_rfl) (fun _ _ _ h => h) (Or.inl ⟨by rfl, ?_⟩) (by assumption) ?_
  rotate_left
  · (intro w' hSw; (try dsimp only at hSw); go_simp; (try with_reducible rfl))
  simp only [Act.put, List.setIfInBounds_toArray, List.set_cons_zero, List.set_cons_succ]
  refine take_op (i := 3) (v := ?_) rfl (by kernel_rfl) (by kernel_rfl) (by kernel_rfl) (fun _ _ _ h => h) (Or.inl ⟨by rfl, ?_⟩) (by assumption) ?_
  rotate_left
  · (intro w' hSw; (try dsimp only at hSw); go_simp; (try with_reducible rfl))
  simp only [Act.put, List.setIfInBounds_toArray, List.set_cons_zero, List.set_cons_succ]
  refine take_op (i := 4) (v := ?_) rfl (by kernel_rfl) (by kernel_rfl) (by kernel_rfl) (fun _ _ _ h => h) (Or.inl ⟨by rfl, ?_⟩) (by assumption) ?_
  rotate_left
  · (intro w' hSw; (try dsimp only at hSw); go_simp; (try with_reducible rfl))
  simp only [Act.put, List.setIfInBounds_toArray, List.set_cons_zero, List.set_cons_succ]
  refine take_op (i := 5) (v := ?_) rfl (by kernel_rfl) (by kernel_rfl) (by kernel_rfl) (fun _ _ _ h => h) (Or.inl ⟨by rfl, ?_⟩) (by assumption) ?_
  rotate_left
  · (intro w' hSw; obtain ⟨⟨o0, o1⟩, q0, q1, q2, q3, q4, q5, q6, q7, q8, q9, q10, q11, q12, q13, q14⟩ := HL3.out _ hSw; go_simp; (try with_reducible rfl))
  simp only [Act.put, List.setIfInBounds_toArray, List.set_cons_zero, List.set_cons_succ]
  refine take_op (i := 6) (v := ?_) rfl (by kernel_rfl) (by kernel_rfl) (by kernel_rfl) (fun _ _ _ h => h) (Or.inl ⟨by rfl, ?_⟩) (by assumption) ?_
  rotate_left
  · (intro w' hSw; (try dsimp only at hSw); go_simp; (try with_reducible rfl))
  simp only [Act.put, List.setIfInBounds_toArray, List.set_cons_zero, List.set_cons_succ]
  refine take_op (i := 7) (v := ?_) rfl (by kernel_rfl) (by kernel_rfl) (by kernel_rfl) (fun _ _ _ h => h) (Or.inl ⟨by rfl, ?_⟩) (by assumption) ?_
  rotate_left
  · (intro w' hSw; (try dsimp only at hSw); go_simp; (try with_reducible rfl))
  simp only [Act.put, List.setIfInBounds_toArray, List.set_cons_zero, List.set_cons_succ]
  refine take_op (i := 8) (v := ?_) rfl (by kernel_rfl) (by kernel_rfl) (by kernel_rfl) (fun _ _ _ h => h) (Or.inl ⟨by rfl, ?_⟩) (by assumption) ?_
  rotate_left
  · (intro w' hSw; (try dsimp only at hSw); go_simp; (try with_reducible rfl))
  simp only [Act.put, List.setIfInBounds_toArray, List.set_cons_zero, List.set_cons_succ]
  refine take_op (i := 9) (v := ?_) rfl (by kernel_rfl) (by kernel_rfl) (by kernel_rfl) (fun _ _ _ h => h) (Or.inl ⟨by rfl, ?_⟩) (by assumption) ?_
  rotate_left
  · (intro w' hSw; obtain ⟨⟨o0, o1⟩, q0, q1, q2, q3, q4, q5, q6, q7, q8, q9, q10, q11, q12, q13, q14⟩ := HL3.out _ hSw; go_simp; (try with_reducible rfl))
  simp only [Act.put, List.setIfInBounds_toArray, List.set_cons_zero, List.set_cons_succ]
  refine take_op (i := 10) (v := ?_) rfl (by kernel_rfl) (by kernel_rfl) (by kernel_rfl) (fun _ _ _ h => h) (Or.inl ⟨by rfl, ?_⟩) (by assumption) ?_
  rotate_left
  · (intro w' hSw; (try dsimp only at hSw); go_simp; (try with_reducible rfl))
  simp only [Act.put, List.setIfInBounds_toArray, List.set_cons_zero, List.set_cons_succ]
  refine take_op (i := 11) (v := ?_) rfl (by kernel_rfl) (by kernel_rfl) (by kernel_rfl) (fun _ _ _ h => h) (Or.inl ⟨by rfl, ?_⟩) (by assumption) ?_
  rotate_left
  · (intro w' hSw; (try dsimp only at hSw); go_simp; (try with_reducible rfl))
  simp only [Act.put, List.setIfInBounds_toArray, List.set_cons_zero, List.set_cons_succ]
  refine take_op (i := 12) (v := ?_) rfl (by kernel_rfl) (by kernel_rfl) (by kernel_rfl) (fun _ _ _ h => h) (Or.inl ⟨by rfl, ?_⟩) (by assumption) ?_
  rotate_left
  · (intro w' hSw; (try dsimp only at hSw); go_simp; (try with_reducible rfl))
  simp only [Act.put, List.setIfInBounds_toArray, List.set_cons_zero, List.set_cons_succ]
  refine take_op (i := 13) (v := ?_) rfl (by kernel_rfl) (by kernel_rfl) (by kernel_rfl) (fun _ _ _ h => h) (Or.inl ⟨by rfl, ?_⟩) (by assumption) ?_
  rotate_left
  · (intro w' hSw; (try dsimp only at hSw); go_simp; (try with_reducible rfl))
  simp only [Act.put, List.setIfInBounds_toArray, List.set_cons_zero, List.set_cons_succ]
  refine take_op (i := 14) (v := ?_) rfl (by kernel_rfl) (by kernel_rfl) (by kernel_rfl) (fun _ _ _ h => h) (Or.inl ⟨by rfl, ?_⟩) (by assumption) ?_
  rotate_left
  · (intro w' hSw; obtain ⟨⟨o0, o1⟩, q0, q1, q2, q3, q4, q5, q6, q7, q8, q9, q10, q11, q12, q13, q14⟩ := HL3.out _ hSw; go_simp; (try with_reducible rfl))
  simp only [Act.put, List.setIfInBounds_toArray, List.set_cons_zero, List.set_cons_succ]
  refine take_op (i := 15) (v := ?_) rfl (by kernel_rfl) (by kernel_rfl) (by kernel_rfl) (fun _ _ _ h => h) (Or.inl ⟨by rfl, ?_⟩) (by assumption) ?_
  rotate_left
  · (intro w' hSw; (try dsimp only at hSw); go_simp; (try with_reducible rfl))
  simp only [Act.put, List.setIfInBounds_toArray, List.set_cons_zero, List.set_cons_succ]
  refine take_op (i := 16) (v := ?_) rfl (by kernel_rfl) (by kernel_rfl) (by kernel_rfl) (fun _ _ _ h => h) (Or.inl ⟨by rfl, ?_⟩) (by assumption) ?_
  rotate_left
  · (intro w' hSw; (try dsimp only at hSw); go_simp; (try with_reducible rfl))
  simp only [Act.put, List.setIfInBounds_toArray, List.set_cons_zero, List.set_cons_succ]
  refine take_op (i := 17) (v := ?_) rfl (by kernel_rfl) (by kernel_rfl) (by kernel_rfl) (fun _ _ _ h => h) (Or.inl ⟨by rfl, ?_⟩) (by assumption) ?_
  rotate_left
  · (intro w' hSw; (try dsimp only at hSw); go_simp; (try with_reducible rfl))
  simp only [Act.put, List.setIfInBounds_toArray, List.set_cons_zero, List.set_cons_succ]
  refine take_op (i := 18) (v := ?_) rfl (by kernel_rfl) (by kernel_rfl) (by kernel_rfl) (fun _ _ _ h => h) (Or.inl ⟨by rfl, ?_⟩) (by assumption) ?_
  rotate_left
  · (intro w' hSw; obtain ⟨⟨o0, o1⟩, q0, q1, q2, q3, q4, q5, q6, q7, q8, q9, q10, q11, q12, q13, q14⟩ := HL3.out _ hSw; go_simp; (try with_reducible rfl))
  simp only [Act.put, List.setIfInBounds_toArray, List.set_cons_zero, List.set_cons_succ]
  refine take_op (i := 19) (v := ?_) rfl (by kernel_rfl) (by kernel_rfl) (by kernel_rfl) (fun _ _ _ h => h) (Or.inl ⟨by rfl, ?_⟩) (by assumption) ?_
  rotate_left
  · (intro w' hSw; (try dsimp only at hSw); go_simp; (try with_reducible rfl))
  simp only [Act.put, List.setIfInBounds_toArray, List.set_cons_zero, List.set_cons_succ]
  refine take_op (i := 20) (v := ?_) rfl (by kernel_rfl) (by kernel_rfl) (by kernel_rfl) (fun _ _ _ h => h) (Or.inl ⟨by rfl, ?_⟩) (by assumption) ?_
  rotate_left
  · (intro w' hSw; (try dsimp only at hSw); go_simp; (try with_reducible rfl))
  simp only [Act.put, List.setIfInBounds_toArray, List.set_cons_zero, List.set_cons_succ]
  refine wpAnyH_done (by kernel_rfl) ?_ _
  clear hb1' hb0 hbv hz0 HSB HL3 HBN HCK HM hHeld
  go_wp2_with fail
  obtain ⟨T1, hH, hE⟩ := HSTART.out _ hb1.1 hb1.2 hz1
  have HH := Lib.hid hH
  obtain ⟨bt, hbt⟩ : ∃ bt, w1.heap.size = bt := ⟨_, rfl⟩
  obtain ⟨V, hV⟩ : ∃ V, w1.alloc (.cells #[.slice none 0 0, .slice none 0 0, .bool false] 52) = V := ⟨_, rfl⟩
  have HE0 := Lib.hid hE
  rw [hbt] at HH
  rw [hbt, hV] at HE0
  rw [hbt, hV]
  clear hE hH hV HSTART hb1 hz1
  go_wp2_with fail
  have HL6 : Hid (∀ W', Hid (W' = V.drew) → TkC w o bt p A cap s nilS nilS false W') := fun W' e => by rw [e.out]; exact HE0.out.drew.cells
  refine wp_region_held_drew (S := fun W' => Hid (W' = V.drew)) (by kernel_rfl) (Lib.hid rfl) (fun hHeld => ?_)
  simp only [List.size_toArray, List.length_cons, List.length_nil, Nat.reduceAdd, Array.replicate_succ, Array.replicate_zero, List.push_toArray, List.nil_append, List.cons_append, List.append_toArray]
  refine take_op (i := 0) (v := ?_) rfl (by kernel_rfl) (by kernel_rfl) (by kernel_rfl) (fun _ _ _ h => h) (Or.inl ⟨by rfl, ?_⟩) (by assumption) ?_
  rotate_left
  · (intro w' hSw; (try dsimp only at hSw); go_simp; (try with_reducible rfl))
  simp only [Act.put, List.setIfInBounds_toArray, List.set_cons_zero, List.set_cons_succ]
  refine take_op (i := 1) (v := ?_) rfl (by kernel_rfl) (by kernel_rfl) (by kernel_rfl) (fun _ _ _ h => h) (Or.inl ⟨by rfl, ?_⟩) (by assumption) ?_
  rotate_left
  · (intro w' hSw; obtain ⟨⟨o0, o1, o2, o3, of3⟩, ⟨q0, q1, q2, q3, q4, q5, q6, q7, q8, q9, q10, q11, q12, q13, q14⟩, ⟨⟨r0, r1, r2⟩, rf0, rf1, rf2⟩, ⟨⟨t0, t1, t2⟩, tf0, tf1, tf2⟩⟩ := HL6.out _ hSw; go_simp; (try with_reducible rfl))
  simp only [Act.put, List.setIfInBounds_toArray, List.set_cons_zero, List.set_cons_succ]
  refine take_op (i := 2) (v := ?_) rfl (by kernel_rfl) (by kernel_rfl) (by kernel_rfl) (fun _ _ _ h => h) (Or.inl ⟨by rfl, ?_⟩) (by assumption) ?_
  rotate_left
  · (intro w' hSw; (try dsimp only at hSw); go_simp; (try with_reducible rfl))
  simp only [Act.put, List.setIfInBounds_toArray, List.set_cons_zero, List.set_cons_succ]
  refine take_op (i := 3) (v := ?_) rfl (by kernel_rfl) (by kernel_rfl) (by kernel_rfl) (fun _ _ _ h => h) (Or.inl ⟨by rfl, ?_⟩) (by assumption) ?_
  rotate_left
  · (intro w' hSw; (try dsimp only at hSw); go_simp; (try with_reducible rfl))
  simp only [Act.put, List.setIfInBounds_toArray, List.set_cons_zero, List.set_cons_succ]
  refine take_op (i := 4) rfl (by kernel_rfl) (by kernel_rfl) (by kernel_rfl) (fun _ _ _ h => h) (Or.inr ⟨by rfl, rfl⟩) (by assumption) ?_
  (try simp only [Act.put, List.setIfInBounds_toArray, List.set_cons_zero, List.set_cons_succ])
  refine take_op (i := 5) rfl (by kernel_rfl) (by kernel_rfl) (by kernel_rfl) (fun _ _ _ h => h) (Or.inr ⟨by rfl, rfl⟩) (by assumption) ?_
  (try simp only [Act.put, List.setIfInBounds_toArray, List.set_cons_zero, List.set_cons_succ])
  refine take_op (i := 6) rfl (by kernel_rfl) (by kernel_rfl) (by kernel_rfl) (fun _ _ _ h => h) (Or.inr ⟨by rfl, rfl⟩) (by assumption) ?_
  (try simp only [Act.put, List.setIfInBounds_toArray, List.set_cons_zero, List.set_cons_succ])
  refine take_op (i := 7) rfl (by kernel_rfl) (by kernel_rfl) (by kernel_rfl) (fun _ _ _ h => h) (Or.inr ⟨by rfl, rfl⟩) (by assumption) ?_
  (try simp only [Act.put, List.setIfInBounds_toArray, List.set_cons_zero, List.set_cons_succ])
  refine take_op (i := 8) rfl (by kernel_rfl) (by kernel_rfl) (by kernel_rfl) (fun _ _ _ h => h) (Or.inr ⟨by rfl, rfl⟩) (by assumption) ?_
  (try simp only [Act.put, List.setIfInBounds_toArray, List.set_cons_zero, List.set_cons_succ])
  refine take_op (i := 9) rfl (by kernel_rfl) (by kernel_rfl) (by kernel_rfl) (fun _ _ _ h => h) (Or.inr ⟨by rfl, rfl⟩) (by assumption) ?_
  (try simp only [Act.put, List.setIfInBounds_toArray, List.set_cons_zero, List.set_cons_succ])
  refine take_op (i := 10) rfl (by kernel_rfl) (by kernel_rfl) (by kernel_rfl) (fun _ _ _ h => h) (Or.inr ⟨by rfl, rfl⟩) (by assumption) ?_
  (try simp only [Act.put, List.setIfInBounds_toArray, List.set_cons_zero, List.set_cons_succ])
  refine take_op (i := 11) (v := ?_) rfl (by kernel_rfl) (by kernel_rfl) (by kernel_rfl) (fun _ _ _ h => h) (Or.inl ⟨by rfl, ?_⟩) (by assumption) ?_
  rotate_left
  · (intro w' hSw; (try dsimp only at hSw); go_simp; (try with_reducible rfl))
  simp only [Act.put, List.setIfInBounds_toArray, List.set_cons_zero, List.set_cons_succ]
  refine wpAnyH_done (by kernel_rfl) ?_ _
  obtain ⟨V1, hnV1⟩ : ∃ X, V.drew = X := ⟨_, rfl⟩
  have HE1 := Lib.hid HE0.out.drew
  rw [hnV1] at HE1 ⊢
  clear hnV1 hHeld HL6 HE0
  obtain ⟨⟨o0, o1, o2, o3, of3⟩, ⟨q0, q1, q2, q3, q4, q5, q6, q7, q8, q9, q10, q11, q12, q13, q14⟩, ⟨⟨r0, r1, r2⟩, rf0, rf1, rf2⟩, ⟨⟨t0, t1, t2⟩, tf0, tf1, tf2⟩⟩ := HE1.out.cells
  go_wp2
  obtain ⟨S9, hI9⟩ := HE1.out
  have hK9 : Kept (fun k => k = w.heap.size + 1) V1 (((V1.setCell ⟨w.heap.size + 1, 0, none⟩ (.slice none 0 0)).setCell ⟨w.heap.size + 1, 1, none⟩ (.slice none 0 0)).setCell ⟨w.heap.size + 1, 2, none⟩ (.bool false)) := ((kO _ _ 0 _).trans (kO _ _ 1 _) (fun _ _ h => h)).trans (kO _ _ 2 _) (fun _ _ h => h)
  have hB9 : (((V1.setCell ⟨w.heap.size + 1, 0, none⟩ (.slice none 0 0)).setCell ⟨w.heap.size + 1, 1, none⟩ (.slice none 0 0)).setCell ⟨w.heap.size + 1, 2, none⟩ (.bool false)).heap[w.heap.size + 1]? = some (.cells #[(.slice none 0 0), (.slice none 0 0), .bool false] 52 (0, 0)) := blk_set (blk_set (blk_set hI9.rb 0 _) 1 _) 2 _
  have hF9 := HQ.out _ _ (TkI.done (r := ⟨s, [], [], false⟩) (err := 0) HH.out hI9 hK9)
  obtain ⟨WF, hWF⟩ : ∃ WF, (((V1.setCell ⟨w.heap.size + 1, 0, none⟩ (.slice none 0 0)).setCell ⟨w.heap.size + 1, 1, none⟩ (.slice none 0 0)).setCell ⟨w.heap.size + 1, 2, none⟩ (.bool false)) = WF := ⟨_, rfl⟩
  rw [hWF] at hB9 hF9 ⊢
  obtain ⟨⟨z0, z1, z2⟩, _⟩ := athree hB9
  have HFF := Lib.hid hF9
  clear hWF hB9 hF9 hK9 hI9
  refine bodyPost_ret (v := .tuple #[.agg #[(.slice none 0 0), (.slice none 0 0), .bool false], .int .i64 0]) (by simp only [results, Tryd.results17]; simp [go_sem, z0, z1, z2]) rfl HFF.out

set_option maxHeartbeats 8000000 in
theorem take_s2 {w : World} {T S : Nat → Prop} {o N : Nat} {s : Lk.S} {n : Nat} {p : Pkt} {A : Option Addr} {cap : Nat} (ha : TkA w T S o N s n p A cap) (hok : okP p = true) (hf1 : p.from_ = s.peer) (hf2 : p.to_ = s.self) (h0 : p.fe ≠ 0) (h1 : p.fe < s.kn) :
    Calls Tryd.prog 17 #[.pointer (some ⟨o, 0, none⟩), .int .u64 (n : Nat), pktA p A p.msg.claims.length cap] w (TakeQ w T S o N ⟨s, [], [], false⟩ 0) := by
  obtain ⟨h, hO, hT, hZ, hgz, hn, hC, hl, hfe, hsq, hmt, hg, hN⟩ := ha
  obtain ⟨P, hP⟩ : ∃ P : Ending → World → Prop, P = TakeQ w T S o N ⟨s, [], [], false⟩ 0 := ⟨_, rfl⟩
  have HQ : Hid (∀ e W, TakeQ w T S o N ⟨s, [], [], false⟩ 0 e W → P e W) := by rw [hP]; exact fun e W h => h
  rw [← hP]
  clear hP
  have HM : Hid (∀ W, Below w.heap.size w W → Calls Tryd.prog 35 #[.pointer (some ⟨o, 0, none⟩)] W fun e w' => e = .returned (.bool true) ∧ w' = W) := fun W hW => made_any (h.below hW) hO.ep1
  have HCK : Hid (∀ W, Below w.heap.size w W → Calls Tryd.prog 46 #[pktA p A p.msg.claims.length cap] W fun e w' => e = .returned (.int .i64 0) ∧ Below W.heap.size W w') := fun W hW => (checkP_any (hT.below hW) p cap (hC.at_.below hW) hl hg).mono (by rintro e w' ⟨rfl, hb⟩; rw [hok]; exact ⟨rfl, hb⟩)
  have HBN : Hid (∀ V, V = (w.alloc (.cells (pktCl p A p.msg.claims.length cap) 39)).alloc (.cells #[nilS, nilS, .bool false] 52) → (Below w.heap.size w V ∧ V.heap[w.heap.size]? = some (.cells (pktCl p A p.msg.claims.length cap) 39 (0, 0))) ∧ V.heap[w.heap.size + 1]? = some (.cells #[nilS, nilS, .bool false] 52 (0, 0))) := by
    rintro V rfl
    refine ⟨⟨((Below.refl _ w).alloc (Nat.le_refl _) _).alloc (by simp) _, ?_⟩, ?_⟩
    · rw [Below.heap_alloc _ _ _ (by simp)]; exact World.alloc_heap_new w _
    · have := World.alloc_heap_new (w.alloc (.cells (pktCl p A p.msg.claims.length cap) 39)) (.cells #[nilS, nilS, .bool false] 52)
      rw [World.size_alloc] at this
      exact this
  have HL3 : Hid (∀ W, (Below w.heap.size w W ∧ W.heap[w.heap.size]? = some (.cells (pktCl p A p.msg.claims.length cap) 39 (0, 0))) → (W.cell? ⟨o, 0, none⟩ = some (.int .i64 s.self) ∧ W.cell? ⟨o, 1, none⟩ = some (.int .i64 s.peer)) ∧ (W.cell? ⟨w.heap.size, 0, none⟩ = some (.int .i64 p.from_) ∧ W.cell? ⟨w.heap.size, 1, none⟩ = some (.int .i64 p.to_) ∧ W.cell? ⟨w.heap.size, 2, none⟩ = some (.int .u32 (p.fe : Nat)) ∧ W.cell? ⟨w.heap.size, 3, none⟩ = some (.int .u32 (p.te : Nat)) ∧ W.cell? ⟨w.heap.size, 4, none⟩ = some (.int .u32 (p.seq : Nat)) ∧ W.cell? ⟨w.heap.size, 5, none⟩ = some (.int .u32 (p.met : Nat)) ∧ W.cell? ⟨w.heap.size, 6, none⟩ = some (.int .i64 p.msg.kind) ∧ W.cell? ⟨w.heap.size, 7, none⟩ = some (.int .i64 p.msg.cell) ∧ W.cell? ⟨w.heap.size, 8, none⟩ = some (.int .u32 (p.msg.gen : Nat)) ∧ W.cell? ⟨w.heap.size, 9, none⟩ = some (.int .u64 (p.msg.stamp : Nat)) ∧ W.cell? ⟨w.heap.size, 10, none⟩ = some (.int .i64 p.msg.prio) ∧ W.cell? ⟨w.heap.size, 11, none⟩ = some (.int .i64 p.msg.hops) ∧ W.cell? ⟨w.heap.size, 12, none⟩ = some (.int .i64 p.msg.origin) ∧ W.cell? ⟨w.heap.size, 13, none⟩ = some (.int .i64 p.msg.other) ∧ W.cell? ⟨w.heap.size, 14, none⟩ = some (.slice A p.msg.claims.length cap))) := by
    intro W hW
    obtain ⟨c0, c1, _⟩ := (h.below hW.1).cells
    exact ⟨⟨c0, c1⟩, (pk_cells hW.2).1⟩
  have HSB : Hid (∀ W W', (Below w.heap.size w W ∧ W.heap[w.heap.size]? = some (.cells (pktCl p A p.msg.claims.length cap) 39 (0, 0))) → Below W.heap.size W W' → (Below w.heap.size w W' ∧ W'.heap[w.heap.size]? = some (.cells (pktCl p A p.msg.claims.length cap) 39 (0, 0)))) := fun W W' h1 h2 => ⟨h1.1.trans (h2.mono h1.1.size), (h2.block _ (blk_lt h1.2)).trans h1.2⟩
  have HSTART : Hid (∀ w1, Below w.heap.size w w1 → w1.heap[w.heap.size]? = some (.cells (pktCl p A p.msg.claims.length cap) 39 (0, 0)) → w1.heap[w.heap.size + 1]? = some (.cells #[nilS, nilS, .bool false] 52 (0, 0)) → ∃ T1 : Nat → Prop, TkH w (w1.heap.size + 1) T T1 S o w1.heap.size ∧ TkE w (w1.heap.size + 1) T1 S o N w1.heap.size p A cap s nilS nilS [] [] false (w1.alloc (.cells #[nilS, nilS, .bool false] 52))) := fun w1 a b c => take_start h hC a b c
  have e1 : (p.from_ != s.peer) = false := by simp [hf1]
  have e1b : (p.from_ == s.peer) = true := by simp [hf1]
  have e2 : (p.to_ != s.self) = false := by simp [hf2]
  have e2b : (p.to_ == s.self) = true := by simp [hf2]
  have z1 : ((p.fe : Int) == 0) = false := by
    have : ¬ (p.fe : Int) = 0 := by omega
    simpa using this
  have z2 : decide ((p.fe : Int) < (s.kn : Int)) = true := by simp; omega
  have z2b : decide (p.fe < s.kn) = true := by simpa using h1
  clear h0 h1
  clear h hO hT hZ hgz hn hC hl hsq hmt hg hN hok hf1 hf2 hfe
  go_enter Tryd.func17, Tryd.ntmps17
  go_wp2_with fail
  obtain ⟨hbv, hz0⟩ := HBN.out _ rfl
  refine (HM.out _ hbv.1).mono ?_
  rintro e wm ⟨rfl, hwm⟩
  rw [hwm]
  clear hwm
  go_wp2_with fail
  have hb0 := HSB.out _ _ hbv (Below.refl _ _).drew
  refine wp_region_held_drew (S := fun W => Below w.heap.size w W ∧ W.heap[w.heap.size]? = some (.cells (pktCl p A p.msg.claims.length cap) 39 (0, 0))) (by kernel_rfl) hb0 (fun hHeld => ?_)
  simp only [List.size_toArray, List.length_cons, List.length_nil, Nat.reduceAdd, Array.replicate_succ, Array.replicate_zero, List.push_toArray, List.nil_append, List.cons_append, List.append_toArray]
  refine take_op (i := 0) (v := ?_) rfl (by kernel_rfl) (by kernel_rfl) (by kernel_rfl) (fun _ _ _ h => h) (Or.inl ⟨by rfl, ?_⟩) (by assumption) ?_
  rotate_left
  · (intro w' hSw; obtain ⟨⟨o0, o1⟩, q0, q1, q2, q3, q4, q5, q6, q7, q8, q9, q10, q11, q12, q13, q14⟩ := HL3.out _ hSw; go_simp; (try with_reducible rfl))
  simp only [Act.put, List.setIfInBounds_toArray, List.set_cons_zero, List.set_cons_succ]
  refine wpAnyH_ready (rs := [1]) (by kernel_rfl) (by simp) ?_
  refine cons_op rfl (fun K hK => ?_) AllReadyH.nil
  go_simp
  refine (HCK.out _ hb0.1).mono ?_
  rintro e w1 ⟨rfl, hb1'⟩
  have hb1 := HSB.out _ _ hb0 hb1'
  have hz1 := (hb1'.block _ (blk_lt hz0)).trans hz0
  (try go_wp2_with fail)
  refine hK.out _ _ hb1 (fun hHeld => ?_)
  clear hK K
  (try simp only [Act.put, List.setIfInBounds_toArray, List.set_cons_zero, List.set_cons_succ])
  refine take_op (i := 2) (v := ?_) rfl (by kernel_rfl) (by kernel_rfl) (by kernel_rfl) (fun _ _ _ h => h) (Or.inl ⟨by rfl, ?_⟩) (by assumption) ?_
  rotate_left
  · (intro w' hSw; (try dsimp only at hSw); go_simp; (try with_reducible rfl))
  simp only [Act.put, List.setIfInBounds_toArray, List.set_cons_zero, List.set_cons_succ]
  refine take_op (i := 3) (v := ?_) rfl (by kernel_rfl) (by kernel_rfl) (by kernel_rfl) (fun _ _ _ h => h) (Or.inl ⟨by rfl, ?_⟩) (by assumption) ?_
  rotate_left
  · (intro w' hSw; (try dsimp only at hSw); go_simp; (try with_reducible rfl))
  simp only [Act.put, List.setIfInBounds_toArray, List.set_cons_zero, List.set_cons_succ]
  refine take_op (i := 4) (v := ?_) rfl (by kernel_rfl) (by kernel_rfl) (by kernel_rfl) (fun _ _ _ h => h) (Or.inl ⟨by rfl, ?_⟩) (by assumption) ?_
  rotate_left
  · (intro w' hSw; (try dsimp only at hSw); go_simp; (try with_reducible rfl))
  simp only [Act.put, List.setIfInBounds_toArray, List.set_cons_zero, List.set_cons_succ]
  refine take_op (i := 5) (v := ?_) rfl (by kernel_rfl) (by kernel_rfl) (by kernel_rfl) (fun _ _ _ h => h) (Or.inl ⟨by rfl, ?_⟩) (by assumption) ?_
  rotate_left
  · (intro w' hSw; obtain ⟨⟨o0, o1⟩, q0, q1, q2, q3, q4, q5, q6, q7, q8, q9, q10, q11, q12, q13, q14⟩ := HL3.out _ hSw; go_simp; (try with_reducible rfl))
  simp only [Act.put, List.setIfInBounds_toArray, List.set_cons_zero, List.set_cons_succ]
  refine take_op (i := 6) (v := ?_) rfl (by kernel_rfl) (by kernel_rfl) (by kernel_rfl) (fun _ _ _ h => h) (Or.inl ⟨by rfl, ?_⟩) (by assumption) ?_
  rotate_left
  · (intro w' hSw; (try dsimp only at hSw); go_simp; (try with_reducible rfl))
  simp only [Act.put, List.setIfInBounds_toArray, List.set_cons_zero, List.set_cons_succ]
  refine take_op (i := 7) (v := ?_) rfl (by kernel_rfl) (by kernel_rfl) (by kernel_rfl) (fun _ _ _ h => h) (Or.inl ⟨by rfl, ?_⟩) (by assumption) ?_
  rotate_left
  · (intro w' hSw; (try dsimp only at hSw); go_simp; (try with_reducible rfl))
  simp only [Act.put, List.setIfInBounds_toArray, List.set_cons_zero, List.set_cons_succ]
  refine take_op (i := 8) (v := ?_) rfl (by kernel_rfl) (by kernel_rfl) (by kernel_rfl) (fun _ _ _ h => h) (Or.inl ⟨by rfl, ?_⟩) (by assumption) ?_
  rotate_left
  · (intro w' hSw; (try dsimp only at hSw); go_simp; (try with_reducible rfl))
  simp only [Act.put, List.setIfInBounds_toArray, List.set_cons_zero, List.set_cons_succ]
  refine take_op (i := 9) (v := ?_) rfl (by kernel_rfl) (by kernel_rfl) (by kernel_rfl) (fun _ _ _ h => h) (Or.inl ⟨by rfl, ?_⟩) (by assumption) ?_
  rotate_left
  · (intro w' hSw; obtain ⟨⟨o0, o1⟩, q0, q1, q2, q3, q4, q5, q6, q7, q8, q9, q10, q11, q12, q13, q14⟩ := HL3.out _ hSw; go_simp; (try with_reducible rfl))
  simp only [Act.put, List.setIfInBounds_toArray, List.set_cons_zero, List.set_cons_succ]
  refine take_op (i := 10) (v := ?_) rfl (by kernel_rfl) (by kernel_rfl) (by kernel_rfl) (fun _ _ _ h => h) (Or.inl ⟨by rfl, ?_⟩) (by assumption) ?_
  rotate_left
  · (intro w' hSw; (try dsimp only at hSw); go_simp; (try with_reducible rfl))
  simp only [Act.put, List.setIfInBounds_toArray, List.set_cons_zero, List.set_cons_succ]
  refine take_op (i := 11) (v := ?_) rfl (by kernel_rfl) (by kernel_rfl) (by kernel_rfl) (fun _ _ _ h => h) (Or.inl ⟨by rfl, ?_⟩) (by assumption) ?_
  rotate_left
  · (intro w' hSw; (try dsimp only at hSw); go_simp; (try with_reducible rfl))
  simp only [Act.put, List.setIfInBounds_toArray, List.set_cons_zero, List.set_cons_succ]
  refine take_op (i := 12) (v := ?_) rfl (by kernel_rfl) (by kernel_rfl) (by kernel_rfl) (fun _ _ _ h => h) (Or.inl ⟨by rfl, ?_⟩) (by assumption) ?_
  rotate_left
  · (intro w' hSw; (try dsimp only at hSw); go_simp; (try with_reducible rfl))
  simp only [Act.put, List.setIfInBounds_toArray, List.set_cons_zero, List.set_cons_succ]
  refine take_op (i := 13) (v := ?_) rfl (by kernel_rfl) (by kernel_rfl) (by kernel_rfl) (fun _ _ _ h => h) (Or.inl ⟨by rfl, ?_⟩) (by assumption) ?_
  rotate_left
  · (intro w' hSw; (try dsimp only at hSw); go_simp; (try with_reducible rfl))
  simp only [Act.put, List.setIfInBounds_toArray, List.set_cons_zero, List.set_cons_succ]
  refine take_op (i := 14) (v := ?_) rfl (by kernel_rfl) (by kernel_rfl) (by kernel_rfl) (fun _ _ _ h => h) (Or.inl ⟨by rfl, ?_⟩) (by assumption) ?_
  rotate_left
  · (intro w' hSw; obtain ⟨⟨o0, o1⟩, q0, q1, q2, q3, q4, q5, q6, q7, q8, q9, q10, q11, q12, q13, q14⟩ := HL3.out _ hSw; go_simp; (try with_reducible rfl))
  simp only [Act.put, List.setIfInBounds_toArray, List.set_cons_zero, List.set_cons_succ]
  refine take_op (i := 15) (v := ?_) rfl (by kernel_rfl) (by kernel_rfl) (by kernel_rfl) (fun _ _ _ h => h) (Or.inl ⟨by rfl, ?_⟩) (by assumption) ?_
  rotate_left
  · (intro w' hSw; (try dsimp only at hSw); go_simp; (try with_reducible rfl))
  simp only [Act.put, List.setIfInBounds_toArray, List.set_cons_zero, List.set_cons_succ]
  refine take_op (i := 16) (v := ?_) rfl (by kernel_rfl) (by kernel_rfl) (by kernel_rfl) (fun _ _ _ h => h) (Or.inl ⟨by rfl, ?_⟩) (by assumption) ?_
  rotate_left
  · (intro w' hSw; (try dsimp only at hSw); go_simp; (try with_reducible rfl))
  simp only [Act.put, List.setIfInBounds_toArray, List.set_cons_zero, List.set_cons_succ]
  refine take_op (i := 17) (v := ?_) rfl (by kernel_rfl) (by kernel_rfl) (by kernel_rfl) (fun _ _ _ h => h) (Or.inl ⟨by rfl, ?_⟩) (by assumption) ?_
  rotate_left
  · (intro w' hSw; (try dsimp only at hSw); go_simp; (try with_reducible rfl))
  simp only [Act.put, List.setIfInBounds_toArray, List.set_cons_zero, List.set_cons_succ]
  refine take_op (i := 18) (v := ?_) rfl (by kernel_rfl) (by kernel_rfl) (by kernel_rfl) (fun _ _ _ h => h) (Or.inl ⟨by rfl, ?_⟩) (by assumption) ?_
  rotate_left
  · (intro w' hSw; obtain ⟨⟨o0, o1⟩, q0, q1, q2, q3, q4, q5, q6, q7, q8, q9, q10, q11, q12, q13, q14⟩ := HL3.out _ hSw; go_simp; (try with_reducible rfl))
  simp only [Act.put, List.setIfInBounds_toArray, List.set_cons_zero, List.set_cons_succ]
  refine take_op (i := 19) (v := ?_) rfl (by kernel_rfl) (by kernel_rfl) (by kernel_rfl) (fun _ _ _ h => h) (Or.inl ⟨by rfl, ?_⟩) (by assumption) ?_
  rotate_left
  · (intro w' hSw; (try dsimp only at hSw); go_simp; (try with_reducible rfl))
  simp only [Act.put, List.setIfInBounds_toArray, List.set_cons_zero, List.set_cons_succ]
  refine take_op (i := 20) (v := ?_) rfl (by kernel_rfl) (by kernel_rfl) (by kernel_rfl) (fun _ _ _ h => h) (Or.inl ⟨by rfl, ?_⟩) (by assumption) ?_
  rotate_left
  · (intro w' hSw; (try dsimp only at hSw); go_simp; (try with_reducible rfl))
  simp only [Act.put, List.setIfInBounds_toArray, List.set_cons_zero, List.set_cons_succ]
  refine wpAnyH_done (by kernel_rfl) ?_ _
  clear hb1' hb0 hbv hz0 HSB HL3 HBN HCK HM hHeld
  go_wp2_with fail
  obtain ⟨T1, hH, hE⟩ := HSTART.out _ hb1.1 hb1.2 hz1
  have HH := Lib.hid hH
  obtain ⟨bt, hbt⟩ : ∃ bt, w1.heap.size = bt := ⟨_, rfl⟩
  obtain ⟨V, hV⟩ : ∃ V, w1.alloc (.cells #[.slice none 0 0, .slice none 0 0, .bool false] 52) = V := ⟨_, rfl⟩
  have HE0 := Lib.hid hE
  rw [hbt] at HH
  rw [hbt, hV] at HE0
  rw [hbt, hV]
  clear hE hH hV HSTART hb1 hz1
  go_wp2_with fail
  have HL6 : Hid (∀ W', Hid (W' = V.drew) → TkC w o bt p A cap s nilS nilS false W') := fun W' e => by rw [e.out]; exact HE0.out.drew.cells
  refine wp_region_held_drew (S := fun W' => Hid (W' = V.drew)) (by kernel_rfl) (Lib.hid rfl) (fun hHeld => ?_)
  simp only [List.size_toArray, List.length_cons, List.length_nil, Nat.reduceAdd, Array.replicate_succ, Array.replicate_zero, List.push_toArray, List.nil_append, List.cons_append, List.append_toArray]
  refine take_op (i := 0) (v := ?_) rfl (by kernel_rfl) (by kernel_rfl) (by kernel_rfl) (fun _ _ _ h => h) (Or.inl ⟨by rfl, ?_⟩) (by assumption) ?_
  rotate_left
  · (intro w' hSw; (try dsimp only at hSw); go_simp; (try with_reducible rfl))
  simp only [Act.put, List.setIfInBounds_toArray, List.set_cons_zero, List.set_cons_succ]
  refine take_op (i := 1) (v := ?_) rfl (by kernel_rfl) (by kernel_rfl) (by kernel_rfl) (fun _ _ _ h => h) (Or.inl ⟨by rfl, ?_⟩) (by assumption) ?_
  rotate_left
  · (intro w' hSw; obtain ⟨⟨o0, o1, o2, o3, of3⟩, ⟨q0, q1, q2, q3, q4, q5, q6, q7, q8, q9, q10, q11, q12, q13, q14⟩, ⟨⟨r0, r1, r2⟩, rf0, rf1, rf2⟩, ⟨⟨t0, t1, t2⟩, tf0, tf1, tf2⟩⟩ := HL6.out _ hSw; go_simp; (try with_reducible rfl))
  simp only [Act.put, List.setIfInBounds_toArray, List.set_cons_zero, List.set_cons_succ]
  refine take_op (i := 2) (v := ?_) rfl (by kernel_rfl) (by kernel_rfl) (by kernel_rfl) (fun _ _ _ h => h) (Or.inl ⟨by rfl, ?_⟩) (by assumption) ?_
  rotate_left
  · (intro w' hSw; (try dsimp only at hSw); go_simp; (try with_reducible rfl))
  simp only [Act.put, List.setIfInBounds_toArray, List.set_cons_zero, List.set_cons_succ]
  refine take_op (i := 3) (v := ?_) rfl (by kernel_rfl) (by kernel_rfl) (by kernel_rfl) (fun _ _ _ h => h) (Or.inl ⟨by rfl, ?_⟩) (by assumption) ?_
  rotate_left
  · (intro w' hSw; (try dsimp only at hSw); go_simp; (try with_reducible rfl))
  simp only [Act.put, List.setIfInBounds_toArray, List.set_cons_zero, List.set_cons_succ]
  refine take_op (i := 4) (v := ?_) rfl (by kernel_rfl) (by kernel_rfl) (by kernel_rfl) (fun _ _ _ h => h) (Or.inl ⟨by rfl, ?_⟩) (by assumption) ?_
  rotate_left
  · (intro w' hSw; (try dsimp only at hSw); go_simp; (try with_reducible rfl))
  simp only [Act.put, List.setIfInBounds_toArray, List.set_cons_zero, List.set_cons_succ]
  refine take_op (i := 5) (v := ?_) rfl (by kernel_rfl) (by kernel_rfl) (by kernel_rfl) (fun _ _ _ h => h) (Or.inl ⟨by rfl, ?_⟩) (by assumption) ?_
  rotate_left
  · (intro w' hSw; obtain ⟨⟨o0, o1, o2, o3, of3⟩, ⟨q0, q1, q2, q3, q4, q5, q6, q7, q8, q9, q10, q11, q12, q13, q14⟩, ⟨⟨r0, r1, r2⟩, rf0, rf1, rf2⟩, ⟨⟨t0, t1, t2⟩, tf0, tf1, tf2⟩⟩ := HL6.out _ hSw; go_simp; (try with_reducible rfl))
  simp only [Act.put, List.setIfInBounds_toArray, List.set_cons_zero, List.set_cons_succ]
  refine take_op (i := 6) (v := ?_) rfl (by kernel_rfl) (by kernel_rfl) (by kernel_rfl) (fun _ _ _ h => h) (Or.inl ⟨by rfl, ?_⟩) (by assumption) ?_
  rotate_left
  · (intro w' hSw; (try dsimp only at hSw); go_simp; (try with_reducible rfl))
  simp only [Act.put, List.setIfInBounds_toArray, List.set_cons_zero, List.set_cons_succ]
  refine take_op (i := 7) (v := ?_) rfl (by kernel_rfl) (by kernel_rfl) (by kernel_rfl) (fun _ _ _ h => h) (Or.inl ⟨by rfl, ?_⟩) (by assumption) ?_
  rotate_left
  · (intro w' hSw; (try dsimp only at hSw); go_simp; (try with_reducible rfl))
  simp only [Act.put, List.setIfInBounds_toArray, List.set_cons_zero, List.set_cons_succ]
  refine take_op (i := 8) (v := ?_) rfl (by kernel_rfl) (by kernel_rfl) (by kernel_rfl) (fun _ _ _ h => h) (Or.inl ⟨by rfl, ?_⟩) (by assumption) ?_
  rotate_left
  · (intro w' hSw; (try dsimp only at hSw); go_simp; (try with_reducible rfl))
  simp only [Act.put, List.setIfInBounds_toArray, List.set_cons_zero, List.set_cons_succ]
  refine take_op (i := 9) (v := ?_) rfl (by kernel_rfl) (by kernel_rfl) (by kernel_rfl) (fun _ _ _ h => h) (Or.inl ⟨by rfl, ?_⟩) (by assumption) ?_
  rotate_left
  · (intro w' hSw; obtain ⟨⟨o0, o1, o2, o3, of3⟩, ⟨q0, q1, q2, q3, q4, q5, q6, q7, q8, q9, q10, q11, q12, q13, q14⟩, ⟨⟨r0, r1, r2⟩, rf0, rf1, rf2⟩, ⟨⟨t0, t1, t2⟩, tf0, tf1, tf2⟩⟩ := HL6.out _ hSw; go_simp; (try with_reducible rfl))
  simp only [Act.put, List.setIfInBounds_toArray, List.set_cons_zero, List.set_cons_succ]
  refine take_op (i := 10) (v := ?_) rfl (by kernel_rfl) (by kernel_rfl) (by kernel_rfl) (fun _ _ _ h => h) (Or.inl ⟨by rfl, ?_⟩) (by assumption) ?_
  rotate_left
  · (intro w' hSw; (try dsimp only at hSw); go_simp; (try with_reducible rfl))
  simp only [Act.put, List.setIfInBounds_toArray, List.set_cons_zero, List.set_cons_succ]
  refine take_op (i := 11) (v := ?_) rfl (by kernel_rfl) (by kernel_rfl) (by kernel_rfl) (fun _ _ _ h => h) (Or.inl ⟨by rfl, ?_⟩) (by assumption) ?_
  rotate_left
  · (intro w' hSw; (try dsimp only at hSw); go_simp; (try with_reducible rfl))
  simp only [Act.put, List.setIfInBounds_toArray, List.set_cons_zero, List.set_cons_succ]
  refine wpAnyH_done (by kernel_rfl) ?_ _
  obtain ⟨V1, hnV1⟩ : ∃ X, V.drew = X := ⟨_, rfl⟩
  have HE1 := Lib.hid HE0.out.drew
  rw [hnV1] at HE1 ⊢
  clear hnV1 hHeld HL6 HE0
  obtain ⟨⟨o0, o1, o2, o3, of3⟩, ⟨q0, q1, q2, q3, q4, q5, q6, q7, q8, q9, q10, q11, q12, q13, q14⟩, ⟨⟨r0, r1, r2⟩, rf0, rf1, rf2⟩, ⟨⟨t0, t1, t2⟩, tf0, tf1, tf2⟩⟩ := HE1.out.cells
  go_wp2
  obtain ⟨S9, hI9⟩ := HE1.out
  have hK9 : Kept (fun k => k = w.heap.size + 1) V1 (((V1.setCell ⟨w.heap.size + 1, 0, none⟩ (.slice none 0 0)).setCell ⟨w.heap.size + 1, 1, none⟩ (.slice none 0 0)).setCell ⟨w.heap.size + 1, 2, none⟩ (.bool false)) := ((kO _ _ 0 _).trans (kO _ _ 1 _) (fun _ _ h => h)).trans (kO _ _ 2 _) (fun _ _ h => h)
  have hB9 : (((V1.setCell ⟨w.heap.size + 1, 0, none⟩ (.slice none 0 0)).setCell ⟨w.heap.size + 1, 1, none⟩ (.slice none 0 0)).setCell ⟨w.heap.size + 1, 2, none⟩ (.bool false)).heap[w.heap.size + 1]? = some (.cells #[(.slice none 0 0), (.slice none 0 0), .bool false] 52 (0, 0)) := blk_set (blk_set (blk_set hI9.rb 0 _) 1 _) 2 _
  have hF9 := HQ.out _ _ (TkI.done (r := ⟨s, [], [], false⟩) (err := 0) HH.out hI9 hK9)
  obtain ⟨WF, hWF⟩ : ∃ WF, (((V1.setCell ⟨w.heap.size + 1, 0, none⟩ (.slice none 0 0)).setCell ⟨w.heap.size + 1, 1, none⟩ (.slice none 0 0)).setCell ⟨w.heap.size + 1, 2, none⟩ (.bool false)) = WF := ⟨_, rfl⟩
  rw [hWF] at hB9 hF9 ⊢
  obtain ⟨⟨z0, z1, z2⟩, _⟩ := athree hB9
  have HFF := Lib.hid hF9
  clear hWF hB9 hF9 hK9 hI9
  refine bodyPost_ret (v := .tuple #[.agg #[(.slice none 0 0), (.slice none 0 0), .bool false], .int .i64 0]) (by simp only [results, Tryd.results17]; simp [go_sem, z0, z1, z2]) rfl HFF.out
end Go.Proofs.YtfgajjfcjlejmaaDoor
