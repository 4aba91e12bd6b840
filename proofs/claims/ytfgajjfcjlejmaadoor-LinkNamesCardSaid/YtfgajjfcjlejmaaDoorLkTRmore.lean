/- Joined texts: LkTRless, LkTRmore. -/
import Derived.Test.YtfgajjfcjlejmaaDoorLkI

/-
  Take, one way through it.
-/
namespace Go.Proofs.YtfgajjfcjlejmaaDoor
set_option maxRecDepth 100000
set_option linter.unusedSimpArgs false
open Go Go.RowKit Wr
attribute [local go_sem] Oper.semAt_some

set_option maxHeartbeats 8000000 in
theorem take_r_less {w : World} {T S : Nat → Prop} {o N : Nat} {s : Lk.S} {n : Nat} {p : Pkt} {A : Option Addr} {cap : Nat} (ha : TkA w T S o N s n p A cap) (hok : okP p = true) (hf1 : p.from_ = s.peer) (hf2 : p.to_ = s.self) (_h0 : p.fe ≠ 0) (h1 : s.kn < p.fe) (h2 : p.te < s.ep) :
    Calls Tryd.prog 17 #[.pointer (some ⟨o, 0, none⟩), .int .u64 (n : Nat), pktA p A p.msg.claims.length cap] w (TakeQ w T S o N ⟨(Lk.begun { s with kn := p.fe }), [], [Lk.mk (Lk.begun { s with kn := p.fe }) 0 (Lk.bareM 9)], true⟩ 0) := by
  obtain ⟨h, hO, hT, hZ, hgz, hn, hC, hl, hfe, hsq, hmt, hg, hN⟩ := ha
  obtain ⟨P, hP⟩ : ∃ P : Ending → World → Prop, P = TakeQ w T S o N ⟨(Lk.begun { s with kn := p.fe }), [], [Lk.mk (Lk.begun { s with kn := p.fe }) 0 (Lk.bareM 9)], true⟩ 0 := ⟨_, rfl⟩
  have HQ : Hid (∀ e W, TakeQ w T S o N ⟨(Lk.begun { s with kn := p.fe }), [], [Lk.mk (Lk.begun { s with kn := p.fe }) 0 (Lk.bareM 9)], true⟩ 0 e W → P e W) := by rw [hP]; exact fun e W h => h
  rw [← hP]
  clear hP
  have HM : Hid (∀ W, Below w.heap.size w W → Calls Tryd.prog 35 #[.pointer (some ⟨o, 0, none⟩)] W fun e w' => e = .returned (.bool true) ∧ w' = W) := fun W hW => made_any (h.below hW) hO.ep1
  have HCK : Hid (∀ W, Below w.heap.size w W → Calls Tryd.prog 46 #[pktA p A p.msg.claims.length cap] W fun e w' => e = .returned (.int .i64 0) ∧ Below W.heap.size W w') := fun W hW => (checkP_any (hT.below hW) p cap (hC.at_.below hW) hl hg).mono (by rintro e w' ⟨rfl, hb⟩; rw [hok]; exact ⟨rfl, hb⟩)
  have HBN : Hid (∀ V, V = (w.alloc (.cells (pktCl p A p.msg.claims.length cap) 39)).alloc (.cells #[nilS, nilS, .bool false] 52) → (Below w.heap.size w V ∧ V.heap[w.heap.size]? = some (.cells (pktCl p A p.msg.claims.length cap) 39 (0, 0))) ∧ V.heap[w.heap.size + 1]? = some (.cells #[nilS, nilS, .bool false] 52 (0, 0))) := by
    rintro V rfl
    refine ⟨⟨((Below.refl _ w).alloc (Nat.le_refl _) _).alloc (by simp) _, ?_⟩, ?_⟩
    · rw [Below.heap_alloc _ _ _ (by simp)]; exact World.alloc_heap_new w _
    · have := World.alloc_heap_new (w.alloc (.cells (pktCl p A p.msg.claims.length cap) 39)) (.cells #[nilS, nilS, .bool false] 52)
      rw [World.size_alloc] at this
      exact this
  have HL3 : Hid (∀ W, (Below w.heap.size w W ∧ W.heap[w.heap.size]? = some (.cells (pktCl p A p.msg.claims.length cap) 39 (0, 0))) → (W.cell? ⟨o, 0, none⟩ = some (.int .i64 s.self) ∧ W.cell? ⟨o, 1, none⟩ = some (.int .i64 s.peer)) ∧ (W.cell? ⟨w.heap.size, 0, none⟩ = some (.int .i64 p.from_) ∧ W.cell? ⟨w.heap.size, 1, none⟩ = some (.int .i64 p.to_) ∧ W.cell? ⟨w.heap.size, 2, none⟩ = some (.int .u32 (p.fe : Nat)) ∧ W.cell? ⟨w.heap.size, 3, none⟩ = some (.int .u32 (p.te : Nat)) ∧ W.cell? ⟨w.heap.size, 4, none⟩ = some (.int .u32 (p.seq : Nat)) ∧ W.cell? ⟨w.heap.size, 5, none⟩ = some (.int .u32 (p.met : Nat)) ∧ W.cell? ⟨w.heap.size, 6, none⟩ = some (.int .i64 p.msg.kind) ∧ W.cell? ⟨w.heap.size, 7, none⟩ = some (.int .i64 p.msg.cell) ∧ W.cell? ⟨w.heap.size, 8, none⟩ = some (.int .u32 (p.msg.gen : Nat)) ∧ W.cell? ⟨w.heap.size, 9, none⟩ = some (.int .u64 (p.msg.stamp : Nat)) ∧ W.cell? ⟨w.heap.size, 10, none⟩ = some (.int .i64 p.msg.prio) ∧ W.cell? ⟨w.heap.size, 11, none⟩ = some (.int .i64 p.msg.hops) ∧ W.cell? ⟨w.heap.size, 12, none⟩ = some (.int .i64 p.msg.origin) ∧ W.cell? ⟨w.heap.size, 13, none⟩ = some (.int .i64 p.msg.other) ∧ W.cell? ⟨w.heap.size, 14, none⟩ = some (.slice A p.msg.claims.length cap))) := by
    intro W hW
    obtain ⟨c0, c1, _⟩ := (h.below hW.1).cells
    exact ⟨⟨c0, c1⟩, (pk_cells hW.2).1⟩
  have HSB : Hid (∀ W W', (Below w.heap.size w W ∧ W.heap[w.heap.size]? = some (.cells (pktCl p A p.msg.claims.length cap) 39 (0, 0))) → Below W.heap.size W W' → (Below w.heap.size w W' ∧ W'.heap[w.heap.size]? = some (.cells (pktCl p A p.msg.claims.length cap) 39 (0, 0)))) := fun W W' h1 h2 => ⟨h1.1.trans (h2.mono h1.1.size), (h2.block _ (blk_lt h1.2)).trans h1.2⟩
  have HSTART : Hid (∀ w1, Below w.heap.size w w1 → w1.heap[w.heap.size]? = some (.cells (pktCl p A p.msg.claims.length cap) 39 (0, 0)) → w1.heap[w.heap.size + 1]? = some (.cells #[nilS, nilS, .bool false] 52 (0, 0)) → ∃ T1 : Nat → Prop, TkH w (w1.heap.size + 1) T T1 S o w1.heap.size ∧ TkE w (w1.heap.size + 1) T1 S o N w1.heap.size p A cap s nilS nilS [] [] false (w1.alloc (.cells #[nilS, nilS, .bool false] 52))) := fun w1 a b c => take_start h hC a b c
  have e1 : (p.from_ != s.peer) = false := by simp [hf1]
  have e1b : (p.from_ == s.peer) = true := by simp [hf1]
  have e2 : (p.to_ != s.self) = false := by simp [hf2]
  have e2b : (p.to_ == s.self) = true := by simp [hf2]
  have h0 := _h0
  have z1 : ((p.fe : Int) == 0) = false := by
    have : ¬ (p.fe : Int) = 0 := by omega
    simpa using this
  have z2 : decide ((p.fe : Int) < (s.kn : Int)) = false := by simp; omega
  have z2b : decide (p.fe < s.kn) = false := by simp; omega
  have z3 : decide ((s.kn : Int) < (p.fe : Int)) = true := by simp; omega
  have z3b : decide (s.kn < p.fe) = true := by simpa using h1
  have z4 : ((p.te : Int) != (s.ep : Int)) = true := by simp; omega
  have z4b : ((p.te : Int) == (s.ep : Int)) = false := by simp; omega
  have z4c : (p.te != s.ep) = true := by simp; omega
  have z4d : (p.te == s.ep) = false := by simp; omega
  have z5 : decide ((p.te : Int) < (s.ep : Int)) = true := by simp; omega
  have z5b : decide (p.te < s.ep) = true := by simp; omega
  obtain ⟨s1, hs1⟩ : ∃ s1 : Lk.S, s1 = (Lk.begun { s with kn := p.fe }) := ⟨_, rfl⟩
  have hep : s1.ep = s.ep := by rw [hs1]; rfl
  have hO1 : Lk.Ok s1 := by rw [hs1]; exact hO.begun p.fe hfe
  rw [← hs1] at HQ
  clear h hO hT hZ hgz hn hC hl hsq hmt hg hN hok hf1 hf2 hfe h0 h1 h2 hO1
  go_enter Tryd.func17, Tryd.ntmps17
  go_wp2_with fail
  obtain ⟨hbv, hz0⟩ := HBN.out _ rfl
  refine (HM.out _ hbv.1).mono ?_
  rintro e wm ⟨rfl, hwm⟩
  rw [hwm]
  clear hwm
  go_wp2_with fail
  have hb0 := HSB.out _ _ hbv (Below.refl _ _).drew
  refine wp_region_held_drew (S := fun W => Below w.heap.size w W ∧ W.heap[w.heap.size]? = some (.cells (pktCl p A p.msg.claims.length cap) 39 (0, 0))) (by kernel_rfl) hb0 (fun hHeld => ?_)
  simp only [List.size_toArray, List.length_cons, List.length_nil, Nat.reduceAdd, Array.replicate_succ, Array.replicate_zero, List.push_toArray, List.nil_append, List.cons_append, List.append_toArray]
  refine take_op (i := 0) (v := ?_) rfl (by kernel_rfl) (by kernel_rfl) (by kernel_rfl) (fun _ _ _ h => h) (Or.inl ⟨by rfl, ?_⟩) (by assumption) ?_
  rotate_left
  · (intro w' hSw; obtain ⟨⟨o0, o1⟩, q0, q1, q2, q3, q4, q5, q6, q7, q8, q9, q10, q11, q12, q13, q14⟩ := HL3.out _ hSw; go_simp; (try with_reducible rfl))
  simp only [Act.put, List.setIfInBounds_toArray, List.set_cons_zero, List.set_cons_succ]
  refine wpAnyH_ready (rs := [1]) (by kernel_rfl) (by simp) ?_
  refine cons_op rfl (fun K hK => ?_) AllReadyH.nil
  go_simp
  refine (HCK.out _ hb0.1).mono ?_
  rintro e w1 ⟨rfl, hb1'⟩
  have hb1 := HSB.out _ _ hb0 hb1'
  have hz1 := (hb1'.block _ (blk_lt hz0)).trans hz0
  (try go_wp2_with fail)
  refine hK.out _ _ hb1 (fun hHeld => ?_)
  clear hK K
  (try simp only [Act.put, List.setIfInBounds_toArray, List.set_cons_zero, List.set_cons_succ])
  refine take_op (i := 2) (v := ?_) rfl (by kernel_rfl) (by kernel_rfl) (by kernel_rfl) (fun _ _ _ h => h) (Or.inl ⟨by rfl, ?_⟩) (by assumption) ?_
  rotate_left
  · (intro w' hSw; (try dsimp only at hSw); go_simp; (try with_reducible rfl))
  simp only [Act.put, List.setIfInBounds_toArray, List.set_cons_zero, List.set_cons_succ]
  refine take_op (i := 3) (v := ?_) rfl (by kernel_rfl) (by kernel_rfl) (by kernel_rfl) (fun _ _ _ h => h) (Or.inl ⟨by rfl, ?_⟩) (by assumption) ?_
  rotate_left
  · (intro w' hSw; (try dsimp only at hSw); go_simp; (try with_reducible rfl))
  simp only [Act.put, List.setIfInBounds_toArray, List.set_cons_zero, List.set_cons_succ]
  refine take_op (i := 4) (v := ?_) rfl (by kernel_rfl) (by kernel_rfl) (by kernel_rfl) (fun _ _ _ h => h) (Or.inl ⟨by rfl, ?_⟩) (by assumption) ?_
  rotate_left
  · (intro w' hSw; (try dsimp only at hSw); go_simp; (try with_reducible rfl))
  simp only [Act.put, List.setIfInBounds_toArray, List.set_cons_zero, List.set_cons_succ]
  refine take_op (i := 5) (v := ?_) rfl (by kernel_rfl) (by kernel_rfl) (by kernel_rfl) (fun _ _ _ h => h) (Or.inl ⟨by rfl, ?_⟩) (by assumption) ?_
  rotate_left
  · (intro w' hSw; obtain ⟨⟨o0, o1⟩, q0, q1, q2, q3, q4, q5, q6, q7, q8, q9, q10, q11, q12, q13, q14⟩ := HL3.out _ hSw; go_simp; (try with_reducible rfl))
  simp only [Act.put, List.setIfInBounds_toArray, List.set_cons_zero, List.set_cons_succ]
  refine take_op (i := 6) (v := ?_) rfl (by kernel_rfl) (by kernel_rfl) (by kernel_rfl) (fun _ _ _ h => h) (Or.inl ⟨by rfl, ?_⟩) (by assumption) ?_
  rotate_left
  · (intro w' hSw; (try dsimp only at hSw); go_simp; (try with_reducible rfl))
  simp only [Act.put, List.setIfInBounds_toArray, List.set_cons_zero, List.set_cons_succ]
  refine take_op (i := 7) (v := ?_) rfl (by kernel_rfl) (by kernel_rfl) (by kernel_rfl) (fun _ _ _ h => h) (Or.inl ⟨by rfl, ?_⟩) (by assumption) ?_
  rotate_left
  · (intro w' hSw; (try dsimp only at hSw); go_simp; (try with_reducible rfl))
  simp only [Act.put, List.setIfInBounds_toArray, List.set_cons_zero, List.set_cons_succ]
  refine take_op (i := 8) (v := ?_) rfl (by kernel_rfl) (by kernel_rfl) (by kernel_rfl) (fun _ _ _ h => h) (Or.inl ⟨by rfl, ?_⟩) (by assumption) ?_
  rotate_left
  · (intro w' hSw; (try dsimp only at hSw); go_simp; (try with_reducible rfl))
  simp only [Act.put, List.setIfInBounds_toArray, List.set_cons_zero, List.set_cons_succ]
  refine take_op (i := 9) (v := ?_) rfl (by kernel_rfl) (by kernel_rfl) (by kernel_rfl) (fun _ _ _ h => h) (Or.inl ⟨by rfl, ?_⟩) (by assumption) ?_
  rotate_left
  · (intro w' hSw; obtain ⟨⟨o0, o1⟩, q0, q1, q2, q3, q4, q5, q6, q7, q8, q9, q10, q11, q12, q13, q14⟩ := HL3.out _ hSw; go_simp; (try with_reducible rfl))
  simp only [Act.put, List.setIfInBounds_toArray, List.set_cons_zero, List.set_cons_succ]
  refine take_op (i := 10) (v := ?_) rfl (by kernel_rfl) (by kernel_rfl) (by kernel_rfl) (fun _ _ _ h => h) (Or.inl ⟨by rfl, ?_⟩) (by assumption) ?_
  rotate_left
  · (intro w' hSw; (try dsimp only at hSw); go_simp; (try with_reducible rfl))
  simp only [Act.put, List.setIfInBounds_toArray, List.set_cons_zero, List.set_cons_succ]
  refine take_op (i := 11) (v := ?_) rfl (by kernel_rfl) (by kernel_rfl) (by kernel_rfl) (fun _ _ _ h => h) (Or.inl ⟨by rfl, ?_⟩) (by assumption) ?_
  rotate_left
  · (intro w' hSw; (try dsimp only at hSw); go_simp; (try with_reducible rfl))
  simp only [Act.put, List.setIfInBounds_toArray, List.set_cons_zero, List.set_cons_succ]
  refine take_op (i := 12) (v := ?_) rfl (by kernel_rfl) (by kernel_rfl) (by kernel_rfl) (fun _ _ _ h => h) (Or.inl ⟨by rfl, ?_⟩) (by assumption) ?_
  rotate_left
  · (intro w' hSw; (try dsimp only at hSw); go_simp; (try with_reducible rfl))
  simp only [Act.put, List.setIfInBounds_toArray, List.set_cons_zero, List.set_cons_succ]
  refine take_op (i := 13) (v := ?_) rfl (by kernel_rfl) (by kernel_rfl) (by kernel_rfl) (fun _ _ _ h => h) (Or.inl ⟨by rfl, ?_⟩) (by assumption) ?_
  rotate_left
  · (intro w' hSw; (try dsimp only at hSw); go_simp; (try with_reducible rfl))
  simp only [Act.put, List.setIfInBounds_toArray, List.set_cons_zero, List.set_cons_succ]
  refine take_op (i := 14) (v := ?_) rfl (by kernel_rfl) (by kernel_rfl) (by kernel_rfl) (fun _ _ _ h => h) (Or.inl ⟨by rfl, ?_⟩) (by assumption) ?_
  rotate_left
  · (intro w' hSw; obtain ⟨⟨o0, o1⟩, q0, q1, q2, q3, q4, q5, q6, q7, q8, q9, q10, q11, q12, q13, q14⟩ := HL3.out _ hSw; go_simp; (try with_reducible rfl))
  simp only [Act.put, List.setIfInBounds_toArray, List.set_cons_zero, List.set_cons_succ]
  refine take_op (i := 15) (v := ?_) rfl (by kernel_rfl) (by kernel_rfl) (by kernel_rfl) (fun _ _ _ h => h) (Or.inl ⟨by rfl, ?_⟩) (by assumption) ?_
  rotate_left
  · (intro w' hSw; (try dsimp only at hSw); go_simp; (try with_reducible rfl))
  simp only [Act.put, List.setIfInBounds_toArray, List.set_cons_zero, List.set_cons_succ]
  refine take_op (i := 16) (v := ?_) rfl (by kernel_rfl) (by kernel_rfl) (by kernel_rfl) (fun _ _ _ h => h) (Or.inl ⟨by rfl, ?_⟩) (by assumption) ?_
  rotate_left
  · (intro w' hSw; (try dsimp only at hSw); go_simp; (try with_reducible rfl))
  simp only [Act.put, List.setIfInBounds_toArray, List.set_cons_zero, List.set_cons_succ]
  refine take_op (i := 17) (v := ?_) rfl (by kernel_rfl) (by kernel_rfl) (by kernel_rfl) (fun _ _ _ h => h) (Or.inl ⟨by rfl, ?_⟩) (by assumption) ?_
  rotate_left
  · (intro w' hSw; (try dsimp only at hSw); go_simp; (try with_reducible rfl))
  simp only [Act.put, List.setIfInBounds_toArray, List.set_cons_zero, List.set_cons_succ]
  refine take_op (i := 18) (v := ?_) rfl (by kernel_rfl) (by kernel_rfl) (by kernel_rfl) (fun _ _ _ h => h) (Or.inl ⟨by rfl, ?_⟩) (by assumption) ?_
  rotate_left
  · (intro w' hSw; obtain ⟨⟨o0, o1⟩, q0, q1, q2, q3, q4, q5, q6, q7, q8, q9, q10, q11, q12, q13, q14⟩ := HL3.out _ hSw; go_simp; (try with_reducible rfl))
  simp only [Act.put, List.setIfInBounds_toArray, List.set_cons_zero, List.set_cons_succ]
  refine take_op (i := 19) (v := ?_) rfl (by kernel_rfl) (by kernel_rfl) (by kernel_rfl) (fun _ _ _ h => h) (Or.inl ⟨by rfl, ?_⟩) (by assumption) ?_
  rotate_left
  · (intro w' hSw; (try dsimp only at hSw); go_simp; (try with_reducible rfl))
  simp only [Act.put, List.setIfInBounds_toArray, List.set_cons_zero, List.set_cons_succ]
  refine take_op (i := 20) (v := ?_) rfl (by kernel_rfl) (by kernel_rfl) (by kernel_rfl) (fun _ _ _ h => h) (Or.inl ⟨by rfl, ?_⟩) (by assumption) ?_
  rotate_left
  · (intro w' hSw; (try dsimp only at hSw); go_simp; (try with_reducible rfl))
  simp only [Act.put, List.setIfInBounds_toArray, List.set_cons_zero, List.set_cons_succ]
  refine wpAnyH_done (by kernel_rfl) ?_ _
  clear hb1' hb0 hbv hz0 HSB HL3 HBN HCK HM hHeld
  go_wp2_with fail
  obtain ⟨T1, hH, hE⟩ := HSTART.out _ hb1.1 hb1.2 hz1
  have HH := Lib.hid hH
  obtain ⟨bt, hbt⟩ : ∃ bt, w1.heap.size = bt := ⟨_, rfl⟩
  obtain ⟨V, hV⟩ : ∃ V, w1.alloc (.cells #[.slice none 0 0, .slice none 0 0, .bool false] 52) = V := ⟨_, rfl⟩
  have HE0 := Lib.hid hE
  rw [hbt] at HH
  rw [hbt, hV] at HE0
  rw [hbt, hV]
  clear hE hH hV HSTART hb1 hz1
  go_wp2_with fail
  have HL6 : Hid (∀ W', Hid (W' = V.drew) → TkC w o bt p A cap s nilS nilS false W') := fun W' e => by rw [e.out]; exact HE0.out.drew.cells
  refine wp_region_held_drew (S := fun W' => Hid (W' = V.drew)) (by kernel_rfl) (Lib.hid rfl) (fun hHeld => ?_)
  simp only [List.size_toArray, List.length_cons, List.length_nil, Nat.reduceAdd, Array.replicate_succ, Array.replicate_zero, List.push_toArray, List.nil_append, List.cons_append, List.append_toArray]
  refine take_op (i := 0) (v := ?_) rfl (by kernel_rfl) (by kernel_rfl) (by kernel_rfl) (fun _ _ _ h => h) (Or.inl ⟨by rfl, ?_⟩) (by assumption) ?_
  rotate_left
  · (intro w' hSw; (try dsimp only at hSw); go_simp; (try with_reducible rfl))
  simp only [Act.put, List.setIfInBounds_toArray, List.set_cons_zero, List.set_cons_succ]
  refine take_op (i := 1) (v := ?_) rfl (by kernel_rfl) (by kernel_rfl) (by kernel_rfl) (fun _ _ _ h => h) (Or.inl ⟨by rfl, ?_⟩) (by assumption) ?_
  rotate_left
  · (intro w' hSw; obtain ⟨⟨o0, o1, o2, o3, of3⟩, ⟨q0, q1, q2, q3, q4, q5, q6, q7, q8, q9, q10, q11, q12, q13, q14⟩, ⟨⟨r0, r1, r2⟩, rf0, rf1, rf2⟩, ⟨⟨t0, t1, t2⟩, tf0, tf1, tf2⟩⟩ := HL6.out _ hSw; go_simp; (try with_reducible rfl))
  simp only [Act.put, List.setIfInBounds_toArray, List.set_cons_zero, List.set_cons_succ]
  refine take_op (i := 2) (v := ?_) rfl (by kernel_rfl) (by kernel_rfl) (by kernel_rfl) (fun _ _ _ h => h) (Or.inl ⟨by rfl, ?_⟩) (by assumption) ?_
  rotate_left
  · (intro w' hSw; (try dsimp only at hSw); go_simp; (try with_reducible rfl))
  simp only [Act.put, List.setIfInBounds_toArray, List.set_cons_zero, List.set_cons_succ]
  refine take_op (i := 3) (v := ?_) rfl (by kernel_rfl) (by kernel_rfl) (by kernel_rfl) (fun _ _ _ h => h) (Or.inl ⟨by rfl, ?_⟩) (by assumption) ?_
  rotate_left
  · (intro w' hSw; (try dsimp only at hSw); go_simp; (try with_reducible rfl))
  simp only [Act.put, List.setIfInBounds_toArray, List.set_cons_zero, List.set_cons_succ]
  refine take_op (i := 4) (v := ?_) rfl (by kernel_rfl) (by kernel_rfl) (by kernel_rfl) (fun _ _ _ h => h) (Or.inl ⟨by rfl, ?_⟩) (by assumption) ?_
  rotate_left
  · (intro w' hSw; (try dsimp only at hSw); go_simp; (try with_reducible rfl))
  simp only [Act.put, List.setIfInBounds_toArray, List.set_cons_zero, List.set_cons_succ]
  refine take_op (i := 5) (v := ?_) rfl (by kernel_rfl) (by kernel_rfl) (by kernel_rfl) (fun _ _ _ h => h) (Or.inl ⟨by rfl, ?_⟩) (by assumption) ?_
  rotate_left
  · (intro w' hSw; obtain ⟨⟨o0, o1, o2, o3, of3⟩, ⟨q0, q1, q2, q3, q4, q5, q6, q7, q8, q9, q10, q11, q12, q13, q14⟩, ⟨⟨r0, r1, r2⟩, rf0, rf1, rf2⟩, ⟨⟨t0, t1, t2⟩, tf0, tf1, tf2⟩⟩ := HL6.out _ hSw; go_simp; (try with_reducible rfl))
  simp only [Act.put, List.setIfInBounds_toArray, List.set_cons_zero, List.set_cons_succ]
  refine take_op (i := 6) (v := ?_) rfl (by kernel_rfl) (by kernel_rfl) (by kernel_rfl) (fun _ _ _ h => h) (Or.inl ⟨by rfl, ?_⟩) (by assumption) ?_
  rotate_left
  · (intro w' hSw; (try dsimp only at hSw); go_simp; (try with_reducible rfl))
  simp only [Act.put, List.setIfInBounds_toArray, List.set_cons_zero, List.set_cons_succ]
  refine take_op (i := 7) (v := ?_) rfl (by kernel_rfl) (by kernel_rfl) (by kernel_rfl) (fun _ _ _ h => h) (Or.inl ⟨by rfl, ?_⟩) (by assumption) ?_
  rotate_left
  · (intro w' hSw; (try dsimp only at hSw); go_simp; (try with_reducible rfl))
  simp only [Act.put, List.setIfInBounds_toArray, List.set_cons_zero, List.set_cons_succ]
  refine take_op (i := 8) (v := ?_) rfl (by kernel_rfl) (by kernel_rfl) (by kernel_rfl) (fun _ _ _ h => h) (Or.inl ⟨by rfl, ?_⟩) (by assumption) ?_
  rotate_left
  · (intro w' hSw; (try dsimp only at hSw); go_simp; (try with_reducible rfl))
  simp only [Act.put, List.setIfInBounds_toArray, List.set_cons_zero, List.set_cons_succ]
  refine take_op (i := 9) (v := ?_) rfl (by kernel_rfl) (by kernel_rfl) (by kernel_rfl) (fun _ _ _ h => h) (Or.inl ⟨by rfl, ?_⟩) (by assumption) ?_
  rotate_left
  · (intro w' hSw; obtain ⟨⟨o0, o1, o2, o3, of3⟩, ⟨q0, q1, q2, q3, q4, q5, q6, q7, q8, q9, q10, q11, q12, q13, q14⟩, ⟨⟨r0, r1, r2⟩, rf0, rf1, rf2⟩, ⟨⟨t0, t1, t2⟩, tf0, tf1, tf2⟩⟩ := HL6.out _ hSw; go_simp; (try with_reducible rfl))
  simp only [Act.put, List.setIfInBounds_toArray, List.set_cons_zero, List.set_cons_succ]
  refine take_op (i := 10) (v := ?_) rfl (by kernel_rfl) (by kernel_rfl) (by kernel_rfl) (fun _ _ _ h => h) (Or.inl ⟨by rfl, ?_⟩) (by assumption) ?_
  rotate_left
  · (intro w' hSw; (try dsimp only at hSw); go_simp; (try with_reducible rfl))
  simp only [Act.put, List.setIfInBounds_toArray, List.set_cons_zero, List.set_cons_succ]
  refine take_op (i := 11) (v := ?_) rfl (by kernel_rfl) (by kernel_rfl) (by kernel_rfl) (fun _ _ _ h => h) (Or.inl ⟨by rfl, ?_⟩) (by assumption) ?_
  rotate_left
  · (intro w' hSw; (try dsimp only at hSw); go_simp; (try with_reducible rfl))
  simp only [Act.put, List.setIfInBounds_toArray, List.set_cons_zero, List.set_cons_succ]
  refine wpAnyH_done (by kernel_rfl) ?_ _
  obtain ⟨V1, hnV1⟩ : ∃ X, V.drew = X := ⟨_, rfl⟩
  have HE1 := Lib.hid HE0.out.drew
  rw [hnV1] at HE1 ⊢
  clear hnV1 hHeld HL6 HE0
  go_wp2_with fail
  have HL8 : Hid (∀ W', Hid (W' = V1.drew) → TkC w o bt p A cap s nilS nilS false W') := fun W' e => by rw [e.out]; exact HE1.out.drew.cells
  refine wp_region_held_drew (S := fun W' => Hid (W' = V1.drew)) (by kernel_rfl) (Lib.hid rfl) (fun hHeld => ?_)
  simp only [List.size_toArray, List.length_cons, List.length_nil, Nat.reduceAdd, Array.replicate_succ, Array.replicate_zero, List.push_toArray, List.nil_append, List.cons_append, List.append_toArray]
  refine take_op (i := 0) (v := ?_) rfl (by kernel_rfl) (by kernel_rfl) (by kernel_rfl) (fun _ _ _ h => h) (Or.inl ⟨by rfl, ?_⟩) (by assumption) ?_
  rotate_left
  · (intro w' hSw; (try dsimp only at hSw); go_simp; (try with_reducible rfl))
  simp only [Act.put, List.setIfInBounds_toArray, List.set_cons_zero, List.set_cons_succ]
  refine take_op (i := 1) (v := ?_) rfl (by kernel_rfl) (by kernel_rfl) (by kernel_rfl) (fun _ _ _ h => h) (Or.inl ⟨by rfl, ?_⟩) (by assumption) ?_
  rotate_left
  · (intro w' hSw; obtain ⟨⟨o0, o1, o2, o3, of3⟩, ⟨q0, q1, q2, q3, q4, q5, q6, q7, q8, q9, q10, q11, q12, q13, q14⟩, ⟨⟨r0, r1, r2⟩, rf0, rf1, rf2⟩, ⟨⟨t0, t1, t2⟩, tf0, tf1, tf2⟩⟩ := HL8.out _ hSw; go_simp; (try with_reducible rfl))
  simp only [Act.put, List.setIfInBounds_toArray, List.set_cons_zero, List.set_cons_succ]
  refine take_op (i := 2) (v := ?_) rfl (by kernel_rfl) (by kernel_rfl) (by kernel_rfl) (fun _ _ _ h => h) (Or.inl ⟨by rfl, ?_⟩) (by assumption) ?_
  rotate_left
  · (intro w' hSw; (try dsimp only at hSw); go_simp; (try with_reducible rfl))
  simp only [Act.put, List.setIfInBounds_toArray, List.set_cons_zero, List.set_cons_succ]
  refine take_op (i := 3) (v := ?_) rfl (by kernel_rfl) (by kernel_rfl) (by kernel_rfl) (fun _ _ _ h => h) (Or.inl ⟨by rfl, ?_⟩) (by assumption) ?_
  rotate_left
  · (intro w' hSw; (try dsimp only at hSw); go_simp; (try with_reducible rfl))
  simp only [Act.put, List.setIfInBounds_toArray, List.set_cons_zero, List.set_cons_succ]
  refine take_op (i := 4) (v := ?_) rfl (by kernel_rfl) (by kernel_rfl) (by kernel_rfl) (fun _ _ _ h => h) (Or.inl ⟨by rfl, ?_⟩) (by assumption) ?_
  rotate_left
  · (intro w' hSw; (try dsimp only at hSw); go_simp; (try with_reducible rfl))
  simp only [Act.put, List.setIfInBounds_toArray, List.set_cons_zero, List.set_cons_succ]
  refine take_op (i := 5) (v := ?_) rfl (by kernel_rfl) (by kernel_rfl) (by kernel_rfl) (fun _ _ _ h => h) (Or.inl ⟨by rfl, ?_⟩) (by assumption) ?_
  rotate_left
  · (intro w' hSw; obtain ⟨⟨o0, o1, o2, o3, of3⟩, ⟨q0, q1, q2, q3, q4, q5, q6, q7, q8, q9, q10, q11, q12, q13, q14⟩, ⟨⟨r0, r1, r2⟩, rf0, rf1, rf2⟩, ⟨⟨t0, t1, t2⟩, tf0, tf1, tf2⟩⟩ := HL8.out _ hSw; go_simp; (try with_reducible rfl))
  simp only [Act.put, List.setIfInBounds_toArray, List.set_cons_zero, List.set_cons_succ]
  refine take_op (i := 6) (v := ?_) rfl (by kernel_rfl) (by kernel_rfl) (by kernel_rfl) (fun _ _ _ h => h) (Or.inl ⟨by rfl, ?_⟩) (by assumption) ?_
  rotate_left
  · (intro w' hSw; (try dsimp only at hSw); go_simp; (try with_reducible rfl))
  simp only [Act.put, List.setIfInBounds_toArray, List.set_cons_zero, List.set_cons_succ]
  refine wpAnyH_done (by kernel_rfl) ?_ _
  obtain ⟨V2, hnV2⟩ : ∃ X, V1.drew = X := ⟨_, rfl⟩
  have HE2 := Lib.hid HE1.out.drew
  rw [hnV2] at HE2 ⊢
  clear hnV2 hHeld HL8 HE1
  obtain ⟨⟨o0, o1, o2, o3, of3⟩, ⟨q0, q1, q2, q3, q4, q5, q6, q7, q8, q9, q10, q11, q12, q13, q14⟩, ⟨⟨r0, r1, r2⟩, rf0, rf1, rf2⟩, ⟨⟨t0, t1, t2⟩, tf0, tf1, tf2⟩⟩ := HE2.out.cells
  go_wp2_with fail
  obtain ⟨V3, hV3⟩ : ∃ X, V2.setCell ⟨o, 3, none⟩ (.int .u32 (p.fe : Nat)) = X := ⟨_, rfl⟩
  have HE3 := Lib.hid (HE2.out.known HH.out p.fe)
  rw [hV3] at HE3 ⊢
  clear hV3 HE2 o0 o1 o2 o3 of3 q0 q1 q2 q3 q4 q5 q6 q7 q8 q9 q10 q11 q12 q13 q14 r0 r1 r2 rf0 rf1 rf2 t0 t1 t2 tf0 tf1 tf2
  refine (begun_any _).mono ?_
  rintro e w10 ⟨m, rfl, hb10, hm10, hmm10⟩
  have hE4 := (HE3.out.begun HH.out hb10 hm10 hmm10).renewed HH.out
  obtain ⟨S3, hI3⟩ := HE3.out
  obtain ⟨vv, mbv, ⟨g6, g7, g8, g9, g10, g11, g12, g13⟩, gf6, gf7, gf8, gf9, gf10, gf11, gf12, gf13⟩ := (hI3.below hb10).lk.all
  obtain ⟨⟨o0, o1, o2, o3, of3⟩, ⟨q0, q1, q2, q3, q4, q5, q6, q7, q8, q9, q10, q11, q12, q13, q14⟩, ⟨⟨r0, r1, r2⟩, rf0, rf1, rf2⟩, ⟨⟨t0, t1, t2⟩, tf0, tf1, tf2⟩⟩ := (hI3.below hb10).cells
  have HE5 := Lib.hid hE4
  clear hE4 hI3 hb10 hm10 hmm10 HE3 o0 o1 o2 o3 of3 q0 q1 q2 q3 q4 q5 q6 q7 q8 q9 q10 q11 q12 q13 q14 r0 r1 r2 rf0 rf1 rf2 t0 t1 tf0 tf1
  go_wp2_with fail
  obtain ⟨V5, hV5⟩ : ∃ X, (sesW w10 o m).setCell ⟨bt, 2, none⟩ (.bool true) = X := ⟨_, rfl⟩
  simp only [sesW] at hV5 HE5
  rw [hV5] at HE5 ⊢
  rw [← hs1] at HE5
  clear hV5 t2 tf2 g6 g7 g8 g9 g10 g11 g12 g13 gf6 gf7 gf8 gf9 gf10 gf11 gf12 gf13
  clear hs1
  rw [← hep] at z4 z4b z4c z4d z5 z5b
  clear hep
  go_wp2_with fail
  have HL12 : Hid (∀ W', Hid (W' = V5.drew) → TkC w o bt p A cap s1 nilS nilS true W') := fun W' e => by rw [e.out]; exact HE5.out.drew.cells
  refine wp_region_held_drew (S := fun W' => Hid (W' = V5.drew)) (by kernel_rfl) (Lib.hid rfl) (fun hHeld => ?_)
  simp only [List.size_toArray, List.length_cons, List.length_nil, Nat.reduceAdd, Array.replicate_succ, Array.replicate_zero, List.push_toArray, List.nil_append, List.cons_append, List.append_toArray]
  refine take_op (i := 0) (v := ?_) rfl (by kernel_rfl) (by kernel_rfl) (by kernel_rfl) (fun _ _ _ h => h) (Or.inl ⟨by rfl, ?_⟩) (by assumption) ?_
  rotate_left
  · (intro w' hSw; (try dsimp only at hSw); go_simp; (try with_reducible rfl))
  simp only [Act.put, List.setIfInBounds_toArray, List.set_cons_zero, List.set_cons_succ]
  refine take_op (i := 1) (v := ?_) rfl (by kernel_rfl) (by kernel_rfl) (by kernel_rfl) (fun _ _ _ h => h) (Or.inl ⟨by rfl, ?_⟩) (by assumption) ?_
  rotate_left
  · (intro w' hSw; obtain ⟨⟨o0, o1, o2, o3, of3⟩, ⟨q0, q1, q2, q3, q4, q5, q6, q7, q8, q9, q10, q11, q12, q13, q14⟩, ⟨⟨r0, r1, r2⟩, rf0, rf1, rf2⟩, ⟨⟨t0, t1, t2⟩, tf0, tf1, tf2⟩⟩ := HL12.out _ hSw; go_simp; (try with_reducible rfl))
  simp only [Act.put, List.setIfInBounds_toArray, List.set_cons_zero, List.set_cons_succ]
  refine take_op (i := 2) (v := ?_) rfl (by kernel_rfl) (by kernel_rfl) (by kernel_rfl) (fun _ _ _ h => h) (Or.inl ⟨by rfl, ?_⟩) (by assumption) ?_
  rotate_left
  · (intro w' hSw; (try dsimp only at hSw); go_simp; (try with_reducible rfl))
  simp only [Act.put, List.setIfInBounds_toArray, List.set_cons_zero, List.set_cons_succ]
  refine take_op (i := 3) (v := ?_) rfl (by kernel_rfl) (by kernel_rfl) (by kernel_rfl) (fun _ _ _ h => h) (Or.inl ⟨by rfl, ?_⟩) (by assumption) ?_
  rotate_left
  · (intro w' hSw; (try dsimp only at hSw); go_simp; (try with_reducible rfl))
  simp only [Act.put, List.setIfInBounds_toArray, List.set_cons_zero, List.set_cons_succ]
  refine take_op (i := 4) (v := ?_) rfl (by kernel_rfl) (by kernel_rfl) (by kernel_rfl) (fun _ _ _ h => h) (Or.inl ⟨by rfl, ?_⟩) (by assumption) ?_
  rotate_left
  · (intro w' hSw; (try dsimp only at hSw); go_simp; (try with_reducible rfl))
  simp only [Act.put, List.setIfInBounds_toArray, List.set_cons_zero, List.set_cons_succ]
  refine take_op (i := 5) (v := ?_) rfl (by kernel_rfl) (by kernel_rfl) (by kernel_rfl) (fun _ _ _ h => h) (Or.inl ⟨by rfl, ?_⟩) (by assumption) ?_
  rotate_left
  · (intro w' hSw; obtain ⟨⟨o0, o1, o2, o3, of3⟩, ⟨q0, q1, q2, q3, q4, q5, q6, q7, q8, q9, q10, q11, q12, q13, q14⟩, ⟨⟨r0, r1, r2⟩, rf0, rf1, rf2⟩, ⟨⟨t0, t1, t2⟩, tf0, tf1, tf2⟩⟩ := HL12.out _ hSw; go_simp; (try with_reducible rfl))
  simp only [Act.put, List.setIfInBounds_toArray, List.set_cons_zero, List.set_cons_succ]
  refine take_op (i := 6) (v := ?_) rfl (by kernel_rfl) (by kernel_rfl) (by kernel_rfl) (fun _ _ _ h => h) (Or.inl ⟨by rfl, ?_⟩) (by assumption) ?_
  rotate_left
  · (intro w' hSw; (try dsimp only at hSw); go_simp; (try with_reducible rfl))
  simp only [Act.put, List.setIfInBounds_toArray, List.set_cons_zero, List.set_cons_succ]
  refine wpAnyH_done (by kernel_rfl) ?_ _
  obtain ⟨V6, hnV6⟩ : ∃ X, V5.drew = X := ⟨_, rfl⟩
  have HE6 := Lib.hid HE5.out.drew
  rw [hnV6] at HE6 ⊢
  clear hnV6 hHeld HL12 HE5
  go_wp2_with fail
  have HL13 : Hid (∀ W', Hid (W' = V6.drew) → TkC w o bt p A cap s1 nilS nilS true W') := fun W' e => by rw [e.out]; exact HE6.out.drew.cells
  refine wp_region_held_drew (S := fun W' => Hid (W' = V6.drew)) (by kernel_rfl) (Lib.hid rfl) (fun hHeld => ?_)
  simp only [List.size_toArray, List.length_cons, List.length_nil, Nat.reduceAdd, Array.replicate_succ, Array.replicate_zero, List.push_toArray, List.nil_append, List.cons_append, List.append_toArray]
  refine take_op (i := 0) (v := ?_) rfl (by kernel_rfl) (by kernel_rfl) (by kernel_rfl) (fun _ _ _ h => h) (Or.inl ⟨by rfl, ?_⟩) (by assumption) ?_
  rotate_left
  · (intro w' hSw; (try dsimp only at hSw); go_simp; (try with_reducible rfl))
  simp only [Act.put, List.setIfInBounds_toArray, List.set_cons_zero, List.set_cons_succ]
  refine take_op (i := 1) (v := ?_) rfl (by kernel_rfl) (by kernel_rfl) (by kernel_rfl) (fun _ _ _ h => h) (Or.inl ⟨by rfl, ?_⟩) (by assumption) ?_
  rotate_left
  · (intro w' hSw; obtain ⟨⟨o0, o1, o2, o3, of3⟩, ⟨q0, q1, q2, q3, q4, q5, q6, q7, q8, q9, q10, q11, q12, q13, q14⟩, ⟨⟨r0, r1, r2⟩, rf0, rf1, rf2⟩, ⟨⟨t0, t1, t2⟩, tf0, tf1, tf2⟩⟩ := HL13.out _ hSw; go_simp; (try with_reducible rfl))
  simp only [Act.put, List.setIfInBounds_toArray, List.set_cons_zero, List.set_cons_succ]
  refine take_op (i := 2) (v := ?_) rfl (by kernel_rfl) (by kernel_rfl) (by kernel_rfl) (fun _ _ _ h => h) (Or.inl ⟨by rfl, ?_⟩) (by assumption) ?_
  rotate_left
  · (intro w' hSw; (try dsimp only at hSw); go_simp; (try with_reducible rfl))
  simp only [Act.put, List.setIfInBounds_toArray, List.set_cons_zero, List.set_cons_succ]
  refine take_op (i := 3) (v := ?_) rfl (by kernel_rfl) (by kernel_rfl) (by kernel_rfl) (fun _ _ _ h => h) (Or.inl ⟨by rfl, ?_⟩) (by assumption) ?_
  rotate_left
  · (intro w' hSw; (try dsimp only at hSw); go_simp; (try with_reducible rfl))
  simp only [Act.put, List.setIfInBounds_toArray, List.set_cons_zero, List.set_cons_succ]
  refine take_op (i := 4) (v := ?_) rfl (by kernel_rfl) (by kernel_rfl) (by kernel_rfl) (fun _ _ _ h => h) (Or.inl ⟨by rfl, ?_⟩) (by assumption) ?_
  rotate_left
  · (intro w' hSw; (try dsimp only at hSw); go_simp; (try with_reducible rfl))
  simp only [Act.put, List.setIfInBounds_toArray, List.set_cons_zero, List.set_cons_succ]
  refine take_op (i := 5) (v := ?_) rfl (by kernel_rfl) (by kernel_rfl) (by kernel_rfl) (fun _ _ _ h => h) (Or.inl ⟨by rfl, ?_⟩) (by assumption) ?_
  rotate_left
  · (intro w' hSw; obtain ⟨⟨o0, o1, o2, o3, of3⟩, ⟨q0, q1, q2, q3, q4, q5, q6, q7, q8, q9, q10, q11, q12, q13, q14⟩, ⟨⟨r0, r1, r2⟩, rf0, rf1, rf2⟩, ⟨⟨t0, t1, t2⟩, tf0, tf1, tf2⟩⟩ := HL13.out _ hSw; go_simp; (try with_reducible rfl))
  simp only [Act.put, List.setIfInBounds_toArray, List.set_cons_zero, List.set_cons_succ]
  refine take_op (i := 6) (v := ?_) rfl (by kernel_rfl) (by kernel_rfl) (by kernel_rfl) (fun _ _ _ h => h) (Or.inl ⟨by rfl, ?_⟩) (by assumption) ?_
  rotate_left
  · (intro w' hSw; (try dsimp only at hSw); go_simp; (try with_reducible rfl))
  simp only [Act.put, List.setIfInBounds_toArray, List.set_cons_zero, List.set_cons_succ]
  refine wpAnyH_done (by kernel_rfl) ?_ _
  obtain ⟨V7, hnV7⟩ : ∃ X, V6.drew = X := ⟨_, rfl⟩
  have HE7 := Lib.hid HE6.out.drew
  rw [hnV7] at HE7 ⊢
  clear hnV7 hHeld HL13 HE6
  go_wp2_with fail
  refine (HE7.out.bare HH.out 9).mono ?_
  rintro e w14 ⟨v14, rfl, hC14, hE8⟩
  obtain ⟨A14, n14, c14, rfl⟩ := hE8.formB
  have HE8 := Lib.hid hE8
  clear hE8 HE7
  obtain ⟨⟨o0, o1, o2, o3, of3⟩, ⟨q0, q1, q2, q3, q4, q5, q6, q7, q8, q9, q10, q11, q12, q13, q14⟩, ⟨⟨r0, r1, r2⟩, rf0, rf1, rf2⟩, ⟨⟨t0, t1, t2⟩, tf0, tf1, tf2⟩⟩ := hC14
  have hbn1 : ¬ bt = w.heap.size + 1 := by have := HH.out.b1; omega
  have hbn2 : ¬ w.heap.size + 1 = bt := by have := HH.out.b1; omega
  go_wp2
  obtain ⟨S9, hI9⟩ := HE8.out
  have hK9 : Kept (fun k => k = w.heap.size + 1) (w14.setCell ⟨bt, 1, none⟩ (.slice A14 n14 c14)) ((((w14.setCell ⟨bt, 1, none⟩ (.slice A14 n14 c14)).setCell ⟨w.heap.size + 1, 0, none⟩ (.slice none 0 0)).setCell ⟨w.heap.size + 1, 1, none⟩ (.slice A14 n14 c14)).setCell ⟨w.heap.size + 1, 2, none⟩ (.bool true)) := ((kO _ _ 0 _).trans (kO _ _ 1 _) (fun _ _ h => h)).trans (kO _ _ 2 _) (fun _ _ h => h)
  have hB9 : ((((w14.setCell ⟨bt, 1, none⟩ (.slice A14 n14 c14)).setCell ⟨w.heap.size + 1, 0, none⟩ (.slice none 0 0)).setCell ⟨w.heap.size + 1, 1, none⟩ (.slice A14 n14 c14)).setCell ⟨w.heap.size + 1, 2, none⟩ (.bool true)).heap[w.heap.size + 1]? = some (.cells #[(.slice none 0 0), (.slice A14 n14 c14), .bool true] 52 (0, 0)) := blk_set (blk_set (blk_set hI9.rb 0 _) 1 _) 2 _
  have hF9 := HQ.out _ _ (TkI.done (r := ⟨s1, [], [Lk.mk s1 0 (Lk.bareM 9)], true⟩) (err := 0) HH.out hI9 hK9)
  obtain ⟨WF, hWF⟩ : ∃ WF, ((((w14.setCell ⟨bt, 1, none⟩ (.slice A14 n14 c14)).setCell ⟨w.heap.size + 1, 0, none⟩ (.slice none 0 0)).setCell ⟨w.heap.size + 1, 1, none⟩ (.slice A14 n14 c14)).setCell ⟨w.heap.size + 1, 2, none⟩ (.bool true)) = WF := ⟨_, rfl⟩
  rw [hWF] at hB9 hF9 ⊢
  obtain ⟨⟨z0, z1, z2⟩, _⟩ := athree hB9
  have HFF := Lib.hid hF9
  clear hWF hB9 hF9 hK9 hI9
  refine bodyPost_ret (v := .tuple #[.agg #[(.slice none 0 0), (.slice A14 n14 c14), .bool true], .int .i64 0]) (by simp only [results, Tryd.results17]; simp [go_sem, z0, z1, z2]) rfl HFF.out
end Go.Proofs.YtfgajjfcjlejmaaDoor

/-
  Take, one way through it.
-/
namespace Go.Proofs.YtfgajjfcjlejmaaDoor
set_option maxRecDepth 100000
set_option linter.unusedSimpArgs false
open Go Go.RowKit Wr
attribute [local go_sem] Oper.semAt_some

set_option maxHeartbeats 8000000 in
theorem take_r_more {w : World} {T S : Nat → Prop} {o N : Nat} {s : Lk.S} {n : Nat} {p : Pkt} {A : Option Addr} {cap : Nat} (ha : TkA w T S o N s n p A cap) (hok : okP p = true) (hf1 : p.from_ = s.peer) (hf2 : p.to_ = s.self) (_h0 : p.fe ≠ 0) (h1 : s.kn < p.fe) (h2 : s.ep < p.te) :
    Calls Tryd.prog 17 #[.pointer (some ⟨o, 0, none⟩), .int .u64 (n : Nat), pktA p A p.msg.claims.length cap] w (TakeQ w T S o N ⟨(Lk.begun { s with kn := p.fe }), [], [], true⟩ 0) := by
  obtain ⟨h, hO, hT, hZ, hgz, hn, hC, hl, hfe, hsq, hmt, hg, hN⟩ := ha
  obtain ⟨P, hP⟩ : ∃ P : Ending → World → Prop, P = TakeQ w T S o N ⟨(Lk.begun { s with kn := p.fe }), [], [], true⟩ 0 := ⟨_, rfl⟩
  have HQ : Hid (∀ e W, TakeQ w T S o N ⟨(Lk.begun { s with kn := p.fe }), [], [], true⟩ 0 e W → P e W) := by rw [hP]; exact fun e W h => h
  rw [← hP]
  clear hP
  have HM : Hid (∀ W, Below w.heap.size w W → Calls Tryd.prog 35 #[.pointer (some ⟨o, 0, none⟩)] W fun e w' => e = .returned (.bool true) ∧ w' = W) := fun W hW => made_any (h.below hW) hO.ep1
  have HCK : Hid (∀ W, Below w.heap.size w W → Calls Tryd.prog 46 #[pktA p A p.msg.claims.length cap] W fun e w' => e = .returned (.int .i64 0) ∧ Below W.heap.size W w') := fun W hW => (checkP_any (hT.below hW) p cap (hC.at_.below hW) hl hg).mono (by rintro e w' ⟨rfl, hb⟩; rw [hok]; exact ⟨rfl, hb⟩)
  have HBN : Hid (∀ V, V = (w.alloc (.cells (pktCl p A p.msg.claims.length cap) 39)).alloc (.cells #[nilS, nilS, .bool false] 52) → (Below w.heap.size w V ∧ V.heap[w.heap.size]? = some (.cells (pktCl p A p.msg.claims.length cap) 39 (0, 0))) ∧ V.heap[w.heap.size + 1]? = some (.cells #[nilS, nilS, .bool false] 52 (0, 0))) := by
    rintro V rfl
    refine ⟨⟨((Below.refl _ w).alloc (Nat.le_refl _) _).alloc (by simp) _, ?_⟩, ?_⟩
    · rw [Below.heap_alloc _ _ _ (by simp)]; exact World.alloc_heap_new w _
    · have := World.alloc_heap_new (w.alloc (.cells (pktCl p A p.msg.claims.length cap) 39)) (.cells #[nilS, nilS, .bool false] 52)
      rw [World.size_alloc] at this
      exact this
  have HL3 : Hid (∀ W, (Below w.heap.size w W ∧ W.heap[w.heap.size]? = some (.cells (pktCl p A p.msg.claims.length cap) 39 (0, 0))) → (W.cell? ⟨o, 0, none⟩ = some (.int .i64 s.self) ∧ W.cell? ⟨o, 1, none⟩ = some (.int .i64 s.peer)) ∧ (W.cell? ⟨w.heap.size, 0, none⟩ = some (.int .i64 p.from_) ∧ W.cell? ⟨w.heap.size, 1, none⟩ = some (.int .i64 p.to_) ∧ W.cell? ⟨w.heap.size, 2, none⟩ = some (.int .u32 (p.fe : Nat)) ∧ W.cell? ⟨w.heap.size, 3, none⟩ = some (.int .u32 (p.te : Nat)) ∧ W.cell? ⟨w.heap.size, 4, none⟩ = some (.int .u32 (p.seq : Nat)) ∧ W.cell? ⟨w.heap.size, 5, none⟩ = some (.int .u32 (p.met : Nat)) ∧ W.cell? ⟨w.heap.size, 6, none⟩ = some (.int .i64 p.msg.kind) ∧ W.cell? ⟨w.heap.size, 7, none⟩ = some (.int .i64 p.msg.cell) ∧ W.cell? ⟨w.heap.size, 8, none⟩ = some (.int .u32 (p.msg.gen : Nat)) ∧ W.cell? ⟨w.heap.size, 9, none⟩ = some (.int .u64 (p.msg.stamp : Nat)) ∧ W.cell? ⟨w.heap.size, 10, none⟩ = some (.int .i64 p.msg.prio) ∧ W.cell? ⟨w.heap.size, 11, none⟩ = some (.int .i64 p.msg.hops) ∧ W.cell? ⟨w.heap.size, 12, none⟩ = some (.int .i64 p.msg.origin) ∧ W.cell? ⟨w.heap.size, 13, none⟩ = some (.int .i64 p.msg.other) ∧ W.cell? ⟨w.heap.size, 14, none⟩ = some (.slice A p.msg.claims.length cap))) := by
    intro W hW
    obtain ⟨c0, c1, _⟩ := (h.below hW.1).cells
    exact ⟨⟨c0, c1⟩, (pk_cells hW.2).1⟩
  have HSB : Hid (∀ W W', (Below w.heap.size w W ∧ W.heap[w.heap.size]? = some (.cells (pktCl p A p.msg.claims.length cap) 39 (0, 0))) → Below W.heap.size W W' → (Below w.heap.size w W' ∧ W'.heap[w.heap.size]? = some (.cells (pktCl p A p.msg.claims.length cap) 39 (0, 0)))) := fun W W' h1 h2 => ⟨h1.1.trans (h2.mono h1.1.size), (h2.block _ (blk_lt h1.2)).trans h1.2⟩
  have HSTART : Hid (∀ w1, Below w.heap.size w w1 → w1.heap[w.heap.size]? = some (.cells (pktCl p A p.msg.claims.length cap) 39 (0, 0)) → w1.heap[w.heap.size + 1]? = some (.cells #[nilS, nilS, .bool false] 52 (0, 0)) → ∃ T1 : Nat → Prop, TkH w (w1.heap.size + 1) T T1 S o w1.heap.size ∧ TkE w (w1.heap.size + 1) T1 S o N w1.heap.size p A cap s nilS nilS [] [] false (w1.alloc (.cells #[nilS, nilS, .bool false] 52))) := fun w1 a b c => take_start h hC a b c
  have e1 : (p.from_ != s.peer) = false := by simp [hf1]
  have e1b : (p.from_ == s.peer) = true := by simp [hf1]
  have e2 : (p.to_ != s.self) = false := by simp [hf2]
  have e2b : (p.to_ == s.self) = true := by simp [hf2]
  have h0 := _h0
  have z1 : ((p.fe : Int) == 0) = false := by
    have : ¬ (p.fe : Int) = 0 := by omega
    simpa using this
  have z2 : decide ((p.fe : Int) < (s.kn : Int)) = false := by simp; omega
  have z2b : decide (p.fe < s.kn) = false := by simp; omega
  have z3 : decide ((s.kn : Int) < (p.fe : Int)) = true := by simp; omega
  have z3b : decide (s.kn < p.fe) = true := by simpa using h1
  have z4 : ((p.te : Int) != (s.ep : Int)) = true := by simp; omega
  have z4b : ((p.te : Int) == (s.ep : Int)) = false := by simp; omega
  have z4c : (p.te != s.ep) = true := by simp; omega
  have z4d : (p.te == s.ep) = false := by simp; omega
  have z5 : decide ((p.te : Int) < (s.ep : Int)) = false := by simp; omega
  have z5b : decide (p.te < s.ep) = false := by simp; omega
  obtain ⟨s1, hs1⟩ : ∃ s1 : Lk.S, s1 = (Lk.begun { s with kn := p.fe }) := ⟨_, rfl⟩
  have hep : s1.ep = s.ep := by rw [hs1]; rfl
  have hO1 : Lk.Ok s1 := by rw [hs1]; exact hO.begun p.fe hfe
  rw [← hs1] at HQ
  clear h hO hT hZ hgz hn hC hl hsq hmt hg hN hok hf1 hf2 hfe h0 h1 h2 hO1
  go_enter Tryd.func17, Tryd.ntmps17
  go_wp2_with fail
  obtain ⟨hbv, hz0⟩ := HBN.out _ rfl
  refine (HM.out _ hbv.1).mono ?_
  rintro e wm ⟨rfl, hwm⟩
  rw [hwm]
  clear hwm
  go_wp2_with fail
  have hb0 := HSB.out _ _ hbv (Below.refl _ _).drew
  refine wp_region_held_drew (S := fun W => Below w.heap.size w W ∧ W.heap[w.heap.size]? = some (.cells (pktCl p A p.msg.claims.length cap) 39 (0, 0))) (by kernel_rfl) hb0 (fun hHeld => ?_)
  simp only [List.size_toArray, List.length_cons, List.length_nil, Nat.reduceAdd, Array.replicate_succ, Array.replicate_zero, List.push_toArray, List.nil_append, List.cons_append, List.append_toArray]
  refine take_op (i := 0) (v := ?_) rfl (by kernel_rfl) (by kernel_rfl) (by kernel_rfl) (fun _ _ _ h => h) (Or.inl ⟨by rfl, ?_⟩) (by assumption) ?_
  rotate_left
  · (intro w' hSw; obtain ⟨⟨o0, o1⟩, q0, q1, q2, q3, q4, q5, q6, q7, q8, q9, q10, q11, q12, q13, q14⟩ := HL3.out _ hSw; go_simp; (try with_reducible rfl))
  simp only [Act.put, List.setIfInBounds_toArray, List.set_cons_zero, List.set_cons_succ]
  refine wpAnyH_ready (rs := [1]) (by kernel_rfl) (by simp) ?_
  refine cons_op rfl (fun K hK => ?_) AllReadyH.nil
  go_simp
  refine (HCK.out _ hb0.1).mono ?_
  rintro e w1 ⟨rfl, hb1'⟩
  have hb1 := HSB.out _ _ hb0 hb1'
  have hz1 := (hb1'.block _ (blk_lt hz0)).trans hz0
  (try go_wp2_with fail)
  refine hK.out _ _ hb1 (fun hHeld => ?_)
  clear hK K
  (try simp only [Act.put, List.setIfInBounds_toArray, List.set_cons_zero, List.set_cons_succ])
  refine take_op (i := 2) (v := ?_) rfl (by kernel_rfl) (by kernel_rfl) (by kernel_rfl) (fun _ _ _ h => h) (Or.inl ⟨by rfl, ?_⟩) (by assumption) ?_
  rotate_left
  · (intro w' hSw; (try dsimp only at hSw); go_simp; (try with_reducible rfl))
  simp only [Act.put, List.setIfInBounds_toArray, List.set_cons_zero, List.set_cons_succ]
  refine take_op (i := 3) (v := ?_) rfl (by kernel_rfl) (by kernel_rfl) (by kernel_rfl) (fun _ _ _ h => h) (Or.inl ⟨by rfl, ?_⟩) (by assumption) ?_
  rotate_left
  · (intro w' hSw; (try dsimp only at hSw); go_simp; (try with_reducible rfl))
  simp only [Act.put, List.setIfInBounds_toArray, List.set_cons_zero, List.set_cons_succ]
  refine take_op (i := 4) (v := ?_) rfl (by kernel_rfl) (by kernel_rfl) (by kernel_rfl) (fun _ _ _ h => h) (Or.inl ⟨by rfl, ?_⟩) (by assumption) ?_
  rotate_left
  · (intro w' hSw; (try dsimp only at hSw); go_simp; (try with_reducible rfl))
  simp only [Act.put, List.setIfInBounds_toArray, List.set_cons_zero, List.set_cons_succ]
  refine take_op (i := 5) (v := ?_) rfl (by kernel_rfl) (by kernel_rfl) (by kernel_rfl) (fun _ _ _ h => h) (Or.inl ⟨by rfl, ?_⟩) (by assumption) ?_
  rotate_left
  · (intro w' hSw; obtain ⟨⟨o0, o1⟩, q0, q1, q2, q3, q4, q5, q6, q7, q8, q9, q10, q11, q12, q13, q14⟩ := HL3.out _ hSw; go_simp; (try with_reducible rfl))
  simp only [Act.put, List.setIfInBounds_toArray, List.set_cons_zero, List.set_cons_succ]
  refine take_op (i := 6) (v := ?_) rfl (by kernel_rfl) (by kernel_rfl) (by kernel_rfl) (fun _ _ _ h => h) (Or.inl ⟨by rfl, ?_⟩) (by assumption) ?_
  rotate_left
  · (intro w' hSw; (try dsimp only at hSw); go_simp; (try with_reducible rfl))
  simp only [Act.put, List.setIfInBounds_toArray, List.set_cons_zero, List.set_cons_succ]
  refine take_op (i := 7) (v := ?_) rfl (by kernel_rfl) (by kernel_rfl) (by kernel_rfl) (fun _ _ _ h => h) (Or.inl ⟨by rfl, ?_⟩) (by assumption) ?_
  rotate_left
  · (intro w' hSw; (try dsimp only at hSw); go_simp; (try with_reducible rfl))
  simp only [Act.put, List.setIfInBounds_toArray, List.set_cons_zero, List.set_cons_succ]
  refine take_op (i := 8) (v := ?_) rfl (by kernel_rfl) (by kernel_rfl) (by kernel_rfl) (fun _ _ _ h => h) (Or.inl ⟨by rfl, ?_⟩) (by assumption) ?_
  rotate_left
  · (intro w' hSw; (try dsimp only at hSw); go_simp; (try with_reducible rfl))
  simp only [Act.put, List.setIfInBounds_toArray, List.set_cons_zero, List.set_cons_succ]
  refine take_op (i := 9) (v := ?_) rfl (by kernel_rfl) (by kernel_rfl) (by kernel_rfl) (fun _ _ _ h => h) (Or.inl ⟨by rfl, ?_⟩) (by assumption) ?_
  rotate_left
  · (intro w' hSw; obtain ⟨⟨o0, o1⟩, q0, q1, q2, q3, q4, q5, q6, q7, q8, q9, q10, q11, q12, q13, q14⟩ := HL3.out _ hSw; go_simp; (try with_reducible rfl))
  simp only [Act.put, List.setIfInBounds_toArray, List.set_cons_zero, List.set_cons_succ]
  refine take_op (i := 10) (v := ?_) rfl (by kernel_rfl) (by kernel_rfl) (by kernel_rfl) (fun _ _ _ h => h) (Or.inl ⟨by rfl, ?_⟩) (by assumption) ?_
  rotate_left
  · (intro w' hSw; (try dsimp only at hSw); go_simp; (try with_reducible rfl))
  simp only [Act.put, List.setIfInBounds_toArray, List.set_cons_zero, List.set_cons_succ]
  refine take_op (i := 11) (v := ?_) rfl (by kernel_rfl) (by kernel_rfl) (by kernel_rfl) (fun _ _ _ h => h) (Or.inl ⟨by rfl, ?_⟩) (by assumption) ?_
  rotate_left
  · (intro w' hSw; (try dsimp only at hSw); go_simp; (try with_reducible rfl))
  simp only [Act.put, List.setIfInBounds_toArray, List.set_cons_zero, List.set_cons_succ]
  refine take_op (i := 12) (v := ?_) rfl (by kernel_rfl) (by kernel_rfl) (by kernel_rfl) (fun _ _ _ h => h) (Or.inl ⟨by rfl, ?_⟩) (by assumption) ?_
  rotate_left
  · (intro w' hSw; (try dsimp only at hSw); go_simp; (try with_reducible rfl))
  simp only [Act.put, List.setIfInBounds_toArray, List.set_cons_zero, List.set_cons_succ]
  refine take_op (i := 13) (v := ?_) rfl (by kernel_rfl) (by kernel_rfl) (by kernel_rfl) (fun _ _ _ h => h) (Or.inl ⟨by rfl, ?_⟩) (by assumption) ?_
  rotate_left
  · (intro w' hSw; (try dsimp only at hSw); go_simp; (try with_reducible rfl))
  simp only [Act.put, List.setIfInBounds_toArray, List.set_cons_zero, List.set_cons_succ]
  refine take_op (i := 14) (v := ?_) rfl (by kernel_rfl) (by kernel_rfl) (by kernel_rfl) (fun _ _ _ h => h) (Or.inl ⟨by rfl, ?_⟩) (by assumption) ?_
  rotate_left
  · (intro w' hSw; obtain ⟨⟨o0, o1⟩, q0, q1, q2, q3, q4, q5, q6, q7, q8, q9, q10, q11, q12, q13, q14⟩ := HL3.out _ hSw; go_simp; (try with_reducible rfl))
  simp only [Act.put, List.setIfInBounds_toArray, List.set_cons_zero, List.set_cons_succ]
  refine take_op (i := 15) (v := ?_) rfl (by kernel_rfl) (by kernel_rfl) (by kernel_rfl) (fun _ _ _ h => h) (Or.inl ⟨by rfl, ?_⟩) (by assumption) ?_
  rotate_left
  · (intro w' hSw; (try dsimp only at hSw); go_simp; (try with_reducible rfl))
  simp only [Act.put, List.setIfInBounds_toArray, List.set_cons_zero, List.set_cons_succ]
  refine take_op (i := 16) (v := ?_) rfl (by kernel_rfl) (by kernel_rfl) (by kernel_rfl) (fun _ _ _ h => h) (Or.inl ⟨by rfl, ?_⟩) (by assumption) ?_
  rotate_left
  · (intro w' hSw; (try dsimp only at hSw); go_simp; (try with_reducible rfl))
  simp only [Act.put, List.setIfInBounds_toArray, List.set_cons_zero, List.set_cons_succ]
  refine take_op (i := 17) (v := ?_) rfl (by kernel_rfl) (by kernel_rfl) (by kernel_rfl) (fun _ _ _ h => h) (Or.inl ⟨by rfl, ?_⟩) (by assumption) ?_
  rotate_left
  · (intro w' hSw; (try dsimp only at hSw); go_simp; (try with_reducible rfl))
  simp only [Act.put, List.setIfInBounds_toArray, List.set_cons_zero, List.set_cons_succ]
  refine take_op (i := 18) (v := ?_) rfl (by kernel_rfl) (by kernel_rfl) (by kernel_rfl) (fun _ _ _ h => h) (Or.inl ⟨by rfl, ?_⟩) (by assumption) ?_
  rotate_left
  · (intro w' hSw; obtain ⟨⟨o0, o1⟩, q0, q1, q2, q3, q4, q5, q6, q7, q8, q9, q10, q11, q12, q13, q14⟩ := HL3.out _ hSw; go_simp; (try with_reducible rfl))
  simp only [Act.put, List.setIfInBounds_toArray, List.set_cons_zero, List.set_cons_succ]
  refine take_op (i := 19) (v := ?_) rfl (by kernel_rfl) (by kernel_rfl) (by kernel_rfl) (fun _ _ _ h => h) (Or.inl ⟨by rfl, ?_⟩) (by assumption) ?_
  rotate_left
  · (intro w' hSw; (try dsimp only at hSw); go_simp; (try with_reducible rfl))
  simp only [Act.put, List.setIfInBounds_toArray, List.set_cons_zero, List.set_cons_succ]
  refine take_op (i := 20) (v := ?_) rfl (by kernel_rfl) (by kernel_rfl) (by kernel_rfl) (fun _ _ _ h => h) (Or.inl ⟨by rfl, ?_⟩) (by assumption) ?_
  rotate_left
  · (intro w' hSw; (try dsimp only at hSw); go_simp; (try with_reducible rfl))
  simp only [Act.put, List.setIfInBounds_toArray, List.set_cons_zero, List.set_cons_succ]
  refine wpAnyH_done (by kernel_rfl) ?_ _
  clear hb1' hb0 hbv hz0 HSB HL3 HBN HCK HM hHeld
  go_wp2_with fail
  obtain ⟨T1, hH, hE⟩ := HSTART.out _ hb1.1 hb1.2 hz1
  have HH := Lib.hid hH
  obtain ⟨bt, hbt⟩ : ∃ bt, w1.heap.size = bt := ⟨_, rfl⟩
  obtain ⟨V, hV⟩ : ∃ V, w1.alloc (.cells #[.slice none 0 0, .slice none 0 0, .bool false] 52) = V := ⟨_, rfl⟩
  have HE0 := Lib.hid hE
  rw [hbt] at HH
  rw [hbt, hV] at HE0
  rw [hbt, hV]
  clear hE hH hV HSTART hb1 hz1
  go_wp2_with fail
  have HL6 : Hid (∀ W', Hid (W' = V.drew) → TkC w o bt p A cap s nilS nilS false W') := fun W' e => by rw [e.out]; exact HE0.out.drew.cells
  refine wp_region_held_drew (S := fun W' => Hid (W' = V.drew)) (by kernel_rfl) (Lib.hid rfl) (fun hHeld => ?_)
  simp only [List.size_toArray, List.length_cons, List.length_nil, Nat.reduceAdd, Array.replicate_succ, Array.replicate_zero, List.push_toArray, List.nil_append, List.cons_append, List.append_toArray]
  refine take_op (i := 0) (v := ?_) rfl (by kernel_rfl) (by kernel_rfl) (by kernel_rfl) (fun _ _ _ h => h) (Or.inl ⟨by rfl, ?_⟩) (by assumption) ?_
  rotate_left
  · (intro w' hSw; (try dsimp only at hSw); go_simp; (try with_reducible rfl))
  simp only [Act.put, List.setIfInBounds_toArray, List.set_cons_zero, List.set_cons_succ]
  refine take_op (i := 1) (v := ?_) rfl (by kernel_rfl) (by kernel_rfl) (by kernel_rfl) (fun _ _ _ h => h) (Or.inl ⟨by rfl, ?_⟩) (by assumption) ?_
  rotate_left
  · (intro w' hSw; obtain ⟨⟨o0, o1, o2, o3, of3⟩, ⟨q0, q1, q2, q3, q4, q5, q6, q7, q8, q9, q10, q11, q12, q13, q14⟩, ⟨⟨r0, r1, r2⟩, rf0, rf1, rf2⟩, ⟨⟨t0, t1, t2⟩, tf0, tf1, tf2⟩⟩ := HL6.out _ hSw; go_simp; (try with_reducible rfl))
  simp only [Act.put, List.setIfInBounds_toArray, List.set_cons_zero, List.set_cons_succ]
  refine take_op (i := 2) (v := ?_) rfl (by kernel_rfl) (by kernel_rfl) (by kernel_rfl) (fun _ _ _ h => h) (Or.inl ⟨by rfl, ?_⟩) (by assumption) ?_
  rotate_left
  · (intro w' hSw; (try dsimp only at hSw); go_simp; (try with_reducible rfl))
  simp only [Act.put, List.setIfInBounds_toArray, List.set_cons_zero, List.set_cons_succ]
  refine take_op (i := 3) (v := ?_) rfl (by kernel_rfl) (by kernel_rfl) (by kernel_rfl) (fun _ _ _ h => h) (Or.inl ⟨by rfl, ?_⟩) (by assumption) ?_
  rotate_left
  · (intro w' hSw; (try dsimp only at hSw); go_simp; (try with_reducible rfl))
  simp only [Act.put, List.setIfInBounds_toArray, List.set_cons_zero, List.set_cons_succ]
  refine take_op (i := 4) (v := ?_) rfl (by kernel_rfl) (by kernel_rfl) (by kernel_rfl) (fun _ _ _ h => h) (Or.inl ⟨by rfl, ?_⟩) (by assumption) ?_
  rotate_left
  · (intro w' hSw; (try dsimp only at hSw); go_simp; (try with_reducible rfl))
  simp only [Act.put, List.setIfInBounds_toArray, List.set_cons_zero, List.set_cons_succ]
  refine take_op (i := 5) (v := ?_) rfl (by kernel_rfl) (by kernel_rfl) (by kernel_rfl) (fun _ _ _ h => h) (Or.inl ⟨by rfl, ?_⟩) (by assumption) ?_
  rotate_left
  · (intro w' hSw; obtain ⟨⟨o0, o1, o2, o3, of3⟩, ⟨q0, q1, q2, q3, q4, q5, q6, q7, q8, q9, q10, q11, q12, q13, q14⟩, ⟨⟨r0, r1, r2⟩, rf0, rf1, rf2⟩, ⟨⟨t0, t1, t2⟩, tf0, tf1, tf2⟩⟩ := HL6.out _ hSw; go_simp; (try with_reducible rfl))
  simp only [Act.put, List.setIfInBounds_toArray, List.set_cons_zero, List.set_cons_succ]
  refine take_op (i := 6) (v := ?_) rfl (by kernel_rfl) (by kernel_rfl) (by kernel_rfl) (fun _ _ _ h => h) (Or.inl ⟨by rfl, ?_⟩) (by assumption) ?_
  rotate_left
  · (intro w' hSw; (try dsimp only at hSw); go_simp; (try with_reducible rfl))
  simp only [Act.put, List.setIfInBounds_toArray, List.set_cons_zero, List.set_cons_succ]
  refine take_op (i := 7) (v := ?_) rfl (by kernel_rfl) (by kernel_rfl) (by kernel_rfl) (fun _ _ _ h => h) (Or.inl ⟨by rfl, ?_⟩) (by assumption) ?_
  rotate_left
  · (intro w' hSw; (try dsimp only at hSw); go_simp; (try with_reducible rfl))
  simp only [Act.put, List.setIfInBounds_toArray, List.set_cons_zero, List.set_cons_succ]
  refine take_op (i := 8) (v := ?_) rfl (by kernel_rfl) (by kernel_rfl) (by kernel_rfl) (fun _ _ _ h => h) (Or.inl ⟨by rfl, ?_⟩) (by assumption) ?_
  rotate_left
  · (intro w' hSw; (try dsimp only at hSw); go_simp; (try with_reducible rfl))
  simp only [Act.put, List.setIfInBounds_toArray, List.set_cons_zero, List.set_cons_succ]
  refine take_op (i := 9) (v := ?_) rfl (by kernel_rfl) (by kernel_rfl) (by kernel_rfl) (fun _ _ _ h => h) (Or.inl ⟨by rfl, ?_⟩) (by assumption) ?_
  rotate_left
  · (intro w' hSw; obtain ⟨⟨o0, o1, o2, o3, of3⟩, ⟨q0, q1, q2, q3, q4, q5, q6, q7, q8, q9, q10, q11, q12, q13, q14⟩, ⟨⟨r0, r1, r2⟩, rf0, rf1, rf2⟩, ⟨⟨t0, t1, t2⟩, tf0, tf1, tf2⟩⟩ := HL6.out _ hSw; go_simp; (try with_reducible rfl))
  simp only [Act.put, List.setIfInBounds_toArray, List.set_cons_zero, List.set_cons_succ]
  refine take_op (i := 10) (v := ?_) rfl (by kernel_rfl) (by kernel_rfl) (by kernel_rfl) (fun _ _ _ h => h) (Or.inl ⟨by rfl, ?_⟩) (by assumption) ?_
  rotate_left
  · (intro w' hSw; (try dsimp only at hSw); go_simp; (try with_reducible rfl))
  simp only [Act.put, List.setIfInBounds_toArray, List.set_cons_zero, List.set_cons_succ]
  refine take_op (i := 11) (v := ?_) rfl (by kernel_rfl) (by kernel_rfl) (by kernel_rfl) (fun _ _ _ h => h) (Or.inl ⟨by rfl, ?_⟩) (by assumption) ?_
  rotate_left
  · (intro w' hSw; (try dsimp only at hSw); go_simp; (try with_reducible rfl))
  simp only [Act.put, List.setIfInBounds_toArray, List.set_cons_zero, List.set_cons_succ]
  refine wpAnyH_done (by kernel_rfl) ?_ _
  obtain ⟨V1, hnV1⟩ : ∃ X, V.drew = X := ⟨_, rfl⟩
  have HE1 := Lib.hid HE0.out.drew
  rw [hnV1] at HE1 ⊢
  clear hnV1 hHeld HL6 HE0
  go_wp2_with fail
  have HL8 : Hid (∀ W', Hid (W' = V1.drew) → TkC w o bt p A cap s nilS nilS false W') := fun W' e => by rw [e.out]; exact HE1.out.drew.cells
  refine wp_region_held_drew (S := fun W' => Hid (W' = V1.drew)) (by kernel_rfl) (Lib.hid rfl) (fun hHeld => ?_)
  simp only [List.size_toArray, List.length_cons, List.length_nil, Nat.reduceAdd, Array.replicate_succ, Array.replicate_zero, List.push_toArray, List.nil_append, List.cons_append, List.append_toArray]
  refine take_op (i := 0) (v := ?_) rfl (by kernel_rfl) (by kernel_rfl) (by kernel_rfl) (fun _ _ _ h => h) (Or.inl ⟨by rfl, ?_⟩) (by assumption) ?_
  rotate_left
  · (intro w' hSw; (try dsimp only at hSw); go_simp; (try with_reducible rfl))
  simp only [Act.put, List.setIfInBounds_toArray, List.set_cons_zero, List.set_cons_succ]
  refine take_op (i := 1) (v := ?_) rfl (by kernel_rfl) (by kernel_rfl) (by kernel_rfl) (fun _ _ _ h => h) (Or.inl ⟨by rfl, ?_⟩) (by assumption) ?_
  rotate_left
  · (intro w' hSw; obtain ⟨⟨o0, o1, o2, o3, of3⟩, ⟨q0, q1, q2, q3, q4, q5, q6, q7, q8, q9, q10, q11, q12, q13, q14⟩, ⟨⟨r0, r1, r2⟩, rf0, rf1, rf2⟩, ⟨⟨t0, t1, t2⟩, tf0, tf1, tf2⟩⟩ := HL8.out _ hSw; go_simp; (try with_reducible rfl))
  simp only [Act.put, List.setIfInBounds_toArray, List.set_cons_zero, List.set_cons_succ]
  refine take_op (i := 2) (v := ?_) rfl (by kernel_rfl) (by kernel_rfl) (by kernel_rfl) (fun _ _ _ h => h) (Or.inl ⟨by rfl, ?_⟩) (by assumption) ?_
  rotate_left
  · (intro w' hSw; (try dsimp only at hSw); go_simp; (try with_reducible rfl))
  simp only [Act.put, List.setIfInBounds_toArray, List.set_cons_zero, List.set_cons_succ]
  refine take_op (i := 3) (v := ?_) rfl (by kernel_rfl) (by kernel_rfl) (by kernel_rfl) (fun _ _ _ h => h) (Or.inl ⟨by rfl, ?_⟩) (by assumption) ?_
  rotate_left
  · (intro w' hSw; (try dsimp only at hSw); go_simp; (try with_reducible rfl))
  simp only [Act.put, List.setIfInBounds_toArray, List.set_cons_zero, List.set_cons_succ]
  refine take_op (i := 4) (v := ?_) rfl (by kernel_rfl) (by kernel_rfl) (by kernel_rfl) (fun _ _ _ h => h) (Or.inl ⟨by rfl, ?_⟩) (by assumption) ?_
  rotate_left
  · (intro w' hSw; (try dsimp only at hSw); go_simp; (try with_reducible rfl))
  simp only [Act.put, List.setIfInBounds_toArray, List.set_cons_zero, List.set_cons_succ]
  refine take_op (i := 5) (v := ?_) rfl (by kernel_rfl) (by kernel_rfl) (by kernel_rfl) (fun _ _ _ h => h) (Or.inl ⟨by rfl, ?_⟩) (by assumption) ?_
  rotate_left
  · (intro w' hSw; obtain ⟨⟨o0, o1, o2, o3, of3⟩, ⟨q0, q1, q2, q3, q4, q5, q6, q7, q8, q9, q10, q11, q12, q13, q14⟩, ⟨⟨r0, r1, r2⟩, rf0, rf1, rf2⟩, ⟨⟨t0, t1, t2⟩, tf0, tf1, tf2⟩⟩ := HL8.out _ hSw; go_simp; (try with_reducible rfl))
  simp only [Act.put, List.setIfInBounds_toArray, List.set_cons_zero, List.set_cons_succ]
  refine take_op (i := 6) (v := ?_) rfl (by kernel_rfl) (by kernel_rfl) (by kernel_rfl) (fun _ _ _ h => h) (Or.inl ⟨by rfl, ?_⟩) (by assumption) ?_
  rotate_left
  · (intro w' hSw; (try dsimp only at hSw); go_simp; (try with_reducible rfl))
  simp only [Act.put, List.setIfInBounds_toArray, List.set_cons_zero, List.set_cons_succ]
  refine wpAnyH_done (by kernel_rfl) ?_ _
  obtain ⟨V2, hnV2⟩ : ∃ X, V1.drew = X := ⟨_, rfl⟩
  have HE2 := Lib.hid HE1.out.drew
  rw [hnV2] at HE2 ⊢
  clear hnV2 hHeld HL8 HE1
  obtain ⟨⟨o0, o1, o2, o3, of3⟩, ⟨q0, q1, q2, q3, q4, q5, q6, q7, q8, q9, q10, q11, q12, q13, q14⟩, ⟨⟨r0, r1, r2⟩, rf0, rf1, rf2⟩, ⟨⟨t0, t1, t2⟩, tf0, tf1, tf2⟩⟩ := HE2.out.cells
  go_wp2_with fail
  obtain ⟨V3, hV3⟩ : ∃ X, V2.setCell ⟨o, 3, none⟩ (.int .u32 (p.fe : Nat)) = X := ⟨_, rfl⟩
  have HE3 := Lib.hid (HE2.out.known HH.out p.fe)
  rw [hV3] at HE3 ⊢
  clear hV3 HE2 o0 o1 o2 o3 of3 q0 q1 q2 q3 q4 q5 q6 q7 q8 q9 q10 q11 q12 q13 q14 r0 r1 r2 rf0 rf1 rf2 t0 t1 t2 tf0 tf1 tf2
  refine (begun_any _).mono ?_
  rintro e w10 ⟨m, rfl, hb10, hm10, hmm10⟩
  have hE4 := (HE3.out.begun HH.out hb10 hm10 hmm10).renewed HH.out
  obtain ⟨S3, hI3⟩ := HE3.out
  obtain ⟨vv, mbv, ⟨g6, g7, g8, g9, g10, g11, g12, g13⟩, gf6, gf7, gf8, gf9, gf10, gf11, gf12, gf13⟩ := (hI3.below hb10).lk.all
  obtain ⟨⟨o0, o1, o2, o3, of3⟩, ⟨q0, q1, q2, q3, q4, q5, q6, q7, q8, q9, q10, q11, q12, q13, q14⟩, ⟨⟨r0, r1, r2⟩, rf0, rf1, rf2⟩, ⟨⟨t0, t1, t2⟩, tf0, tf1, tf2⟩⟩ := (hI3.below hb10).cells
  have HE5 := Lib.hid hE4
  clear hE4 hI3 hb10 hm10 hmm10 HE3 o0 o1 o2 o3 of3 q0 q1 q2 q3 q4 q5 q6 q7 q8 q9 q10 q11 q12 q13 q14 r0 r1 r2 rf0 rf1 rf2 t0 t1 tf0 tf1
  go_wp2_with fail
  obtain ⟨V5, hV5⟩ : ∃ X, (sesW w10 o m).setCell ⟨bt, 2, none⟩ (.bool true) = X := ⟨_, rfl⟩
  simp only [sesW] at hV5 HE5
  rw [hV5] at HE5 ⊢
  rw [← hs1] at HE5
  clear hV5 t2 tf2 g6 g7 g8 g9 g10 g11 g12 g13 gf6 gf7 gf8 gf9 gf10 gf11 gf12 gf13
  clear hs1
  rw [← hep] at z4 z4b z4c z4d z5 z5b
  clear hep
  go_wp2_with fail
  have HL12 : Hid (∀ W', Hid (W' = V5.drew) → TkC w o bt p A cap s1 nilS nilS true W') := fun W' e => by rw [e.out]; exact HE5.out.drew.cells
  refine wp_region_held_drew (S := fun W' => Hid (W' = V5.drew)) (by kernel_rfl) (Lib.hid rfl) (fun hHeld => ?_)
  simp only [List.size_toArray, List.length_cons, List.length_nil, Nat.reduceAdd, Array.replicate_succ, Array.replicate_zero, List.push_toArray, List.nil_append, List.cons_append, List.append_toArray]
  refine take_op (i := 0) (v := ?_) rfl (by kernel_rfl) (by kernel_rfl) (by kernel_rfl) (fun _ _ _ h => h) (Or.inl ⟨by rfl, ?_⟩) (by assumption) ?_
  rotate_left
  · (intro w' hSw; (try dsimp only at hSw); go_simp; (try with_reducible rfl))
  simp only [Act.put, List.setIfInBounds_toArray, List.set_cons_zero, List.set_cons_succ]
  refine take_op (i := 1) (v := ?_) rfl (by kernel_rfl) (by kernel_rfl) (by kernel_rfl) (fun _ _ _ h => h) (Or.inl ⟨by rfl, ?_⟩) (by assumption) ?_
  rotate_left
  · (intro w' hSw; obtain ⟨⟨o0, o1, o2, o3, of3⟩, ⟨q0, q1, q2, q3, q4, q5, q6, q7, q8, q9, q10, q11, q12, q13, q14⟩, ⟨⟨r0, r1, r2⟩, rf0, rf1, rf2⟩, ⟨⟨t0, t1, t2⟩, tf0, tf1, tf2⟩⟩ := HL12.out _ hSw; go_simp; (try with_reducible rfl))
  simp only [Act.put, List.setIfInBounds_toArray, List.set_cons_zero, List.set_cons_succ]
  refine take_op (i := 2) (v := ?_) rfl (by kernel_rfl) (by kernel_rfl) (by kernel_rfl) (fun _ _ _ h => h) (Or.inl ⟨by rfl, ?_⟩) (by assumption) ?_
  rotate_left
  · (intro w' hSw; (try dsimp only at hSw); go_simp; (try with_reducible rfl))
  simp only [Act.put, List.setIfInBounds_toArray, List.set_cons_zero, List.set_cons_succ]
  refine take_op (i := 3) (v := ?_) rfl (by kernel_rfl) (by kernel_rfl) (by kernel_rfl) (fun _ _ _ h => h) (Or.inl ⟨by rfl, ?_⟩) (by assumption) ?_
  rotate_left
  · (intro w' hSw; (try dsimp only at hSw); go_simp; (try with_reducible rfl))
  simp only [Act.put, List.setIfInBounds_toArray, List.set_cons_zero, List.set_cons_succ]
  refine take_op (i := 4) (v := ?_) rfl (by kernel_rfl) (by kernel_rfl) (by kernel_rfl) (fun _ _ _ h => h) (Or.inl ⟨by rfl, ?_⟩) (by assumption) ?_
  rotate_left
  · (intro w' hSw; (try dsimp only at hSw); go_simp; (try with_reducible rfl))
  simp only [Act.put, List.setIfInBounds_toArray, List.set_cons_zero, List.set_cons_succ]
  refine take_op (i := 5) (v := ?_) rfl (by kernel_rfl) (by kernel_rfl) (by kernel_rfl) (fun _ _ _ h => h) (Or.inl ⟨by rfl, ?_⟩) (by assumption) ?_
  rotate_left
  · (intro w' hSw; obtain ⟨⟨o0, o1, o2, o3, of3⟩, ⟨q0, q1, q2, q3, q4, q5, q6, q7, q8, q9, q10, q11, q12, q13, q14⟩, ⟨⟨r0, r1, r2⟩, rf0, rf1, rf2⟩, ⟨⟨t0, t1, t2⟩, tf0, tf1, tf2⟩⟩ := HL12.out _ hSw; go_simp; (try with_reducible rfl))
  simp only [Act.put, List.setIfInBounds_toArray, List.set_cons_zero, List.set_cons_succ]
  refine take_op (i := 6) (v := ?_) rfl (by kernel_rfl) (by kernel_rfl) (by kernel_rfl) (fun _ _ _ h => h) (Or.inl ⟨by rfl, ?_⟩) (by assumption) ?_
  rotate_left
  · (intro w' hSw; (try dsimp only at hSw); go_simp; (try with_reducible rfl))
  simp only [Act.put, List.setIfInBounds_toArray, List.set_cons_zero, List.set_cons_succ]
  refine wpAnyH_done (by kernel_rfl) ?_ _
  obtain ⟨V6, hnV6⟩ : ∃ X, V5.drew = X := ⟨_, rfl⟩
  have HE6 := Lib.hid HE5.out.drew
  rw [hnV6] at HE6 ⊢
  clear hnV6 hHeld HL12 HE5
  go_wp2_with fail
  have HL13 : Hid (∀ W', Hid (W' = V6.drew) → TkC w o bt p A cap s1 nilS nilS true W') := fun W' e => by rw [e.out]; exact HE6.out.drew.cells
  refine wp_region_held_drew (S := fun W' => Hid (W' = V6.drew)) (by kernel_rfl) (Lib.hid rfl) (fun hHeld => ?_)
  simp only [List.size_toArray, List.length_cons, List.length_nil, Nat.reduceAdd, Array.replicate_succ, Array.replicate_zero, List.push_toArray, List.nil_append, List.cons_append, List.append_toArray]
  refine take_op (i := 0) (v := ?_) rfl (by kernel_rfl) (by kernel_rfl) (by kernel_rfl) (fun _ _ _ h => h) (Or.inl ⟨by rfl, ?_⟩) (by assumption) ?_
  rotate_left
  · (intro w' hSw; (try dsimp only at hSw); go_simp; (try with_reducible rfl))
  simp only [Act.put, List.setIfInBounds_toArray, List.set_cons_zero, List.set_cons_succ]
  refine take_op (i := 1) (v := ?_) rfl (by kernel_rfl) (by kernel_rfl) (by kernel_rfl) (fun _ _ _ h => h) (Or.inl ⟨by rfl, ?_⟩) (by assumption) ?_
  rotate_left
  · (intro w' hSw; obtain ⟨⟨o0, o1, o2, o3, of3⟩, ⟨q0, q1, q2, q3, q4, q5, q6, q7, q8, q9, q10, q11, q12, q13, q14⟩, ⟨⟨r0, r1, r2⟩, rf0, rf1, rf2⟩, ⟨⟨t0, t1, t2⟩, tf0, tf1, tf2⟩⟩ := HL13.out _ hSw; go_simp; (try with_reducible rfl))
  simp only [Act.put, List.setIfInBounds_toArray, List.set_cons_zero, List.set_cons_succ]
  refine take_op (i := 2) (v := ?_) rfl (by kernel_rfl) (by kernel_rfl) (by kernel_rfl) (fun _ _ _ h => h) (Or.inl ⟨by rfl, ?_⟩) (by assumption) ?_
  rotate_left
  · (intro w' hSw; (try dsimp only at hSw); go_simp; (try with_reducible rfl))
  simp only [Act.put, List.setIfInBounds_toArray, List.set_cons_zero, List.set_cons_succ]
  refine take_op (i := 3) (v := ?_) rfl (by kernel_rfl) (by kernel_rfl) (by kernel_rfl) (fun _ _ _ h => h) (Or.inl ⟨by rfl, ?_⟩) (by assumption) ?_
  rotate_left
  · (intro w' hSw; (try dsimp only at hSw); go_simp; (try with_reducible rfl))
  simp only [Act.put, List.setIfInBounds_toArray, List.set_cons_zero, List.set_cons_succ]
  refine take_op (i := 4) (v := ?_) rfl (by kernel_rfl) (by kernel_rfl) (by kernel_rfl) (fun _ _ _ h => h) (Or.inl ⟨by rfl, ?_⟩) (by assumption) ?_
  rotate_left
  · (intro w' hSw; (try dsimp only at hSw); go_simp; (try with_reducible rfl))
  simp only [Act.put, List.setIfInBounds_toArray, List.set_cons_zero, List.set_cons_succ]
  refine take_op (i := 5) (v := ?_) rfl (by kernel_rfl) (by kernel_rfl) (by kernel_rfl) (fun _ _ _ h => h) (Or.inl ⟨by rfl, ?_⟩) (by assumption) ?_
  rotate_left
  · (intro w' hSw; obtain ⟨⟨o0, o1, o2, o3, of3⟩, ⟨q0, q1, q2, q3, q4, q5, q6, q7, q8, q9, q10, q11, q12, q13, q14⟩, ⟨⟨r0, r1, r2⟩, rf0, rf1, rf2⟩, ⟨⟨t0, t1, t2⟩, tf0, tf1, tf2⟩⟩ := HL13.out _ hSw; go_simp; (try with_reducible rfl))
  simp only [Act.put, List.setIfInBounds_toArray, List.set_cons_zero, List.set_cons_succ]
  refine take_op (i := 6) (v := ?_) rfl (by kernel_rfl) (by kernel_rfl) (by kernel_rfl) (fun _ _ _ h => h) (Or.inl ⟨by rfl, ?_⟩) (by assumption) ?_
  rotate_left
  · (intro w' hSw; (try dsimp only at hSw); go_simp; (try with_reducible rfl))
  simp only [Act.put, List.setIfInBounds_toArray, List.set_cons_zero, List.set_cons_succ]
  refine wpAnyH_done (by kernel_rfl) ?_ _
  obtain ⟨V7, hnV7⟩ : ∃ X, V6.drew = X := ⟨_, rfl⟩
  have HE7 := Lib.hid HE6.out.drew
  rw [hnV7] at HE7 ⊢
  clear hnV7 hHeld HL13 HE6
  obtain ⟨⟨o0, o1, o2, o3, of3⟩, ⟨q0, q1, q2, q3, q4, q5, q6, q7, q8, q9, q10, q11, q12, q13, q14⟩, ⟨⟨r0, r1, r2⟩, rf0, rf1, rf2⟩, ⟨⟨t0, t1, t2⟩, tf0, tf1, tf2⟩⟩ := HE7.out.cells
  go_wp2
  obtain ⟨S9, hI9⟩ := HE7.out
  have hK9 : Kept (fun k => k = w.heap.size + 1) V7 (((V7.setCell ⟨w.heap.size + 1, 0, none⟩ (.slice none 0 0)).setCell ⟨w.heap.size + 1, 1, none⟩ (.slice none 0 0)).setCell ⟨w.heap.size + 1, 2, none⟩ (.bool true)) := ((kO _ _ 0 _).trans (kO _ _ 1 _) (fun _ _ h => h)).trans (kO _ _ 2 _) (fun _ _ h => h)
  have hB9 : (((V7.setCell ⟨w.heap.size + 1, 0, none⟩ (.slice none 0 0)).setCell ⟨w.heap.size + 1, 1, none⟩ (.slice none 0 0)).setCell ⟨w.heap.size + 1, 2, none⟩ (.bool true)).heap[w.heap.size + 1]? = some (.cells #[(.slice none 0 0), (.slice none 0 0), .bool true] 52 (0, 0)) := blk_set (blk_set (blk_set hI9.rb 0 _) 1 _) 2 _
  have hF9 := HQ.out _ _ (TkI.done (r := ⟨s1, [], [], true⟩) (err := 0) HH.out hI9 hK9)
  obtain ⟨WF, hWF⟩ : ∃ WF, (((V7.setCell ⟨w.heap.size + 1, 0, none⟩ (.slice none 0 0)).setCell ⟨w.heap.size + 1, 1, none⟩ (.slice none 0 0)).setCell ⟨w.heap.size + 1, 2, none⟩ (.bool true)) = WF := ⟨_, rfl⟩
  rw [hWF] at hB9 hF9 ⊢
  obtain ⟨⟨z0, z1, z2⟩, _⟩ := athree hB9
  have HFF := Lib.hid hF9
  clear hWF hB9 hF9 hK9 hI9
  refine bodyPost_ret (v := .tuple #[.agg #[(.slice none 0 0), (.slice none 0 0), .bool true], .int .i64 0]) (by simp only [results, Tryd.results17]; simp [go_sem, z0, z1, z2]) rfl HFF.out
end Go.Proofs.YtfgajjfcjlejmaaDoor
