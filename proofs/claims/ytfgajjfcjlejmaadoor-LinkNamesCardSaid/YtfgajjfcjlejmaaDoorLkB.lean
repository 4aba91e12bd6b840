/-
  A link lets go of the messages that were acknowledged.
-/
import Derived.Test.YtfgajjfcjlejmaaDoorLkA
namespace Go.Proofs.YtfgajjfcjlejmaaDoor
set_option maxRecDepth 100000
set_option linter.unusedSimpArgs false
open Go Go.RowKit Wr
attribute [local go_sem] Oper.semAt_some

theorem cutS_f (s : Lk.S) (met : Nat) : (Lk.cutS s met).b = s.b ∧ (Lk.cutS s met).c = s.c ∧ (Lk.cutS s met).on = s.on ∧ (Lk.cutS s met).at_ = s.at_ ∧ (Lk.cutS s met).tr = s.tr := by
  unfold Lk.cutS; split <;> exact ⟨rfl, rfl, rfl, rfl, rfl⟩
/-- The list's beginning is let go of. -/
theorem cut_any {V : World} {T S : Nat → Prop} {o N : Nat} {s : Lk.S} (h : LnkAt V T S o N s) {d : Nat} (hd0 : 0 < d) (hd : d ≤ s.opn.length) (hl : s.opn.length ≤ 16) :
    ∃ g capg, (∀ W, Below V.heap.size V W → W.cell? ⟨o, 7, none⟩ = some (.slice (some ⟨g, 0, none⟩) s.opn.length capg)) ∧ ∀ W, Below V.heap.size V W → Calls Tryd.prog 70 #[.slice (some ⟨g, 0, none⟩) s.opn.length capg, .int .i64 0, .int .i64 (d : Nat)] W fun e w' => e = .returned (.slice (some ⟨g, 0, none⟩) (s.opn.length - d) capg) ∧ (w'.cell? ⟨o, 7, none⟩ = some (.slice (some ⟨g, 0, none⟩) s.opn.length capg) ∧ w'.frozen? ⟨o, 7, none⟩ = false) ∧ StepL V T S o N { s with opn := s.opn.drop d } (w'.setCell ⟨o, 7, none⟩ (.slice (some ⟨g, 0, none⟩) (s.opn.length - d) capg)) := by
  obtain ⟨⟨v, E, mb, h1, h2, h3, h4, h5, h6, h7⟩, hso, hst, hlt⟩ := h
  have hlen : E.length = s.opn.length := by rw [← h1]; simp
  rw [← hlen] at hd hl ⊢
  obtain ⟨g, capg, rfl⟩ : ∃ g capg, v = .slice (some ⟨g, 0, none⟩) E.length capg := by
    rcases h3.row.2 with ⟨_, h0⟩ | ⟨g, cap, cur, e, _⟩
    · omega
    · exact ⟨g, cap, e⟩
  have hv := h7 g rfl
  refine ⟨g, capg, fun W hW => by rw [blk_cell ((hW.block o (hlt _ (hst _ hso))).trans h2)]; rfl, fun W hW => (delete0_any (owns_below h3.row hW (Nat.le_refl _)) hd0 hd (by omega)).mono ?_⟩
  rintro e w' ⟨rfl, hk, hr⟩
  have hkw : Kept (fun k => k = g) V w' := (Kept.of_below (X := fun k => k = g) hW (Nat.le_refl _)).trans hk (fun _ _ h => h)
  have ho9 : w'.heap[o]? = _ := (hkw.block o (hlt _ (hst _ hso)) (fun e => hv.2.1 e.symm)).trans h2
  have hset := kO w' o 7 (.slice (some ⟨g, 0, none⟩) (E.length - d) capg)
  have hk1 : Kept S V (w'.setCell ⟨o, 7, none⟩ (.slice (some ⟨g, 0, none⟩) (E.length - d) capg)) := (hkw.mono (fun k _ e => by rw [e]; exact hv.1)).trans (hset.mono (fun k _ e => by rw [e]; exact hso)) (fun _ _ h => h)
  have hX : ∀ k, S k → (T k ∨ S k) := fun k h => .inr h
  have hT' : ∀ k, k < V.heap.size → (T k ∨ S k) → T k := fun k _ h => h.elim id (hst k)
  refine ⟨rfl, ⟨by rw [blk_cell ho9]; rfl, blk_free ho9 7⟩, hk1, S, ⟨⟨.slice (some ⟨g, 0, none⟩) (E.length - d) capg, E.drop d, mb, ?_, ?_, ⟨?_, ?_⟩, ?_, h5, h6, ?_⟩, hso, fun k h => .inr h, ?_⟩, fun _ h => h, fun _ h => .inl h⟩
  · rw [List.map_drop, h1]
  · exact blk_set ho9 7 _
  · rw [List.length_drop]
    exact hset.row hr (fun g' hg' => by simp [Value.ownBlock] at hg'; rw [← hg']; exact hv.2.1)
  · intro e he
    exact ((h3.cl e (List.mem_of_mem_drop he)).more hT').kept hk1 hX
  · exact ((h4.more hT').kept hkw (fun k e => by rw [e]; exact .inr hv.1) (fun e => hv.2.2 e.symm)).kept hset (fun k e => by rw [e]; exact .inr hso) h6
  · intro g' hg'
    simp [Value.ownBlock] at hg'
    subst hg'
    exact hv
  · intro k h
    simp only [World.size_setCell]
    have := hkw.size
    have := hlt k (h.elim id (hst k))
    omega

set_option maxHeartbeats 4000000 in
theorem ack_some_end {w : World} {T S : Nat → Prop} {o N : Nat} {s : Lk.S} (h : LnkAt w T S o N s) (hO : Lk.Ok s) {n : Nat} (_hn : n ≤ topT) {met : Nat} (_hm : met ≤ 4294967295) (hsm : Lk.some_ s met = true) (he : (Lk.cutS s met).opn = []) :
    Calls Tryd.prog 47 #[.pointer (some ⟨o, 0, none⟩), .int .u64 (n : Nat), .int .u32 (met : Nat)] w fun e w' => (∃ v, e = .returned v) ∧ StepL w T S o N (Lk.stop (Lk.cutS s met)) w' := by
  obtain ⟨s2, hs2⟩ : ∃ s2, s2 = Lk.cutS s met := ⟨_, rfl⟩
  obtain ⟨s3, hs3⟩ : ∃ s3, s3 = Lk.stop (Lk.cutS s met) := ⟨_, rfl⟩
  rw [← hs3]
  obtain ⟨P, hP⟩ : ∃ P : Ending → World → Prop, P = fun e w' => (∃ v, e = .returned v) ∧ StepL w T S o N s3 w' := ⟨_, rfl⟩
  have HQ : Hid (∀ w', StepL w T S o N s3 w' → P (.returned (.tuple #[])) w') := by rw [hP]; exact fun w' h => ⟨⟨_, rfl⟩, h⟩
  rw [← hP]
  clear hP
  have hrl : okR s.b s.c = true := hO.rl
  have hol := hO.ol
  have hos := hO.os
  have hst := hO.st
  obtain ⟨f1, f2, f3, f4, f5⟩ := cutS_f s met
  rw [← hs2] at f1 f2 f3 f4 f5
  have hlen2 : s2.opn.length = 0 ↔ s2.opn = [] := by simp
  rw [← hs2] at he
  have HSTA : Hid (∀ W, Calls Tryd.prog 36 #[ruV s.b s.c, .int .u64 (n : Nat)] W fun e w => e = .returned (alV true (beh n s.b) 0) ∧ Below W.heap.size W w) := fun W => start_any W hrl _hn
  have HAR : Hid (∀ W, StepL w T S o N s2 W → (W.cell? ⟨o, 4, none⟩ = some (.int .u64 (s.b : Nat)) ∧ W.cell? ⟨o, 5, none⟩ = some (.int .u64 (s.c : Nat)) ∧ ∃ Al cl, W.cell? ⟨o, 7, none⟩ = some (.slice Al s2.opn.length cl) ∧ W.cell? ⟨o, 11, none⟩ = some (.bool s.on) ∧ W.cell? ⟨o, 12, none⟩ = some (.int .u64 (s.at_ : Nat)) ∧ W.cell? ⟨o, 13, none⟩ = some (.int .i64 s.tr) ∧ W.frozen? ⟨o, 11, none⟩ = false ∧ W.frozen? ⟨o, 12, none⟩ = false ∧ W.frozen? ⟨o, 13, none⟩ = false) ∧ StepL w T S o N s3 (((W.setCell ⟨o, 11, none⟩ (.bool false)).setCell ⟨o, 12, none⟩ (.int .u64 0)).setCell ⟨o, 13, none⟩ (.int .i64 0))) := by
    intro W hW
    obtain ⟨_, S', hL, _⟩ := id hW
    obtain ⟨_, _, _, _, c4, c5, _, c11, c12, c13⟩ := hL.cells
    obtain ⟨Al, cl, c7, _⟩ := hL.lst
    rw [f1] at c4
    rw [f2] at c5
    rw [f3] at c11
    rw [f4] at c12
    rw [f5] at c13
    refine ⟨⟨c4, c5, Al, cl, c7, c11, c12, c13, hL.free 11, hL.free 12, hL.free 13⟩, ?_⟩
    refine hW.trans (fun S1 h1 => ?_)
    have := StepL.al h1 false 0 0
    rw [hs3, ← hs2]
    skip
    exact this
  have hsm' : Lk.ackd s < met ∧ met ≤ s.sent := by unfold Lk.some_ at hsm; simpa using hsm
  obtain ⟨d, hd⟩ : ∃ d, d = met - Lk.ackd s := ⟨_, rfl⟩
  have hcut : s2 = { s with opn := s.opn.drop d } := by rw [hs2, hd]; unfold Lk.cutS; rw [hsm]; rfl
  have hak : Lk.ackd s = s.sent - s.opn.length := rfl
  have hd0 : 0 < d := by omega
  have hdl : d ≤ s.opn.length := by omega
  have e1 : decide ((Lk.ackd s : Int) < (met : Int)) = true := by simp; omega
  have e1' : decide (Lk.ackd s < met) = true := by simp; omega
  have e2 : decide ((met : Int) ≤ (s.sent : Int)) = true := by simp; omega
  have e2' : decide (met ≤ s.sent) = true := by simp; omega
  have w1 : IntKind.u32.wrap ((met : Int) - (Lk.ackd s : Int)) = (d : Int) := by rw [u32_in (by omega) (by omega)]; omega
  have w2 : IntKind.i64.wrap (d : Int) = (d : Int) := IntWalk.i64_in _ (by omega)
  obtain ⟨nd, hnd⟩ : ∃ nd, nd = s.opn.length - d := ⟨_, rfl⟩
  have hnd2 : s2.opn.length = nd := by rw [hcut, hnd]; simp
  have HC0 : Hid (∀ k, (w.drewN k).cell? ⟨o, 6, none⟩ = some (.int .u32 (s.sent : Nat))) := fun k => by
    obtain ⟨_, _, _, _, _, _, c6, _⟩ := (h.drewN k).cells
    exact c6
  have HA0 := Lib.hid (ackd_any h hO)
  have HAKX : Hid (∀ V W, LnkAt V T S o N s → Below V.heap.size V W → Calls Tryd.prog 55 #[.pointer (some ⟨o, 6, none⟩)] W fun e w' => e = .returned (.int .u32 (Lk.ackd s : Nat)) ∧ Below V.heap.size V w') := fun V W hV hW => (ackd_any (hV.below hW) hO).mono (by
    rintro e w' ⟨rfl, k, rfl⟩
    exact ⟨rfl, hW.os, hW.tape, hW.output, hW.size, hW.block⟩)
  have HLN : Hid (∀ k, LnkAt (w.drewN k) T S o N s ∧ Below w.heap.size w (w.drewN k)) := fun k => ⟨h.drewN k, rfl, rfl, rfl, Nat.le_refl _, fun _ _ => rfl⟩
  have HLD0 : Hid (∀ V, LnkAt V T S o N s → ∃ g capg, (∀ W, Below V.heap.size V W → W.cell? ⟨o, 7, none⟩ = some (.slice (some ⟨g, 0, none⟩) s.opn.length capg)) ∧ ∀ W, Below V.heap.size V W → Calls Tryd.prog 70 #[.slice (some ⟨g, 0, none⟩) s.opn.length capg, .int .i64 0, .int .i64 (d : Nat)] W fun e w' => e = .returned (.slice (some ⟨g, 0, none⟩) nd capg) ∧ (w'.cell? ⟨o, 7, none⟩ = some (.slice (some ⟨g, 0, none⟩) s.opn.length capg) ∧ w'.frozen? ⟨o, 7, none⟩ = false) ∧ StepL V T S o N s2 (w'.setCell ⟨o, 7, none⟩ (.slice (some ⟨g, 0, none⟩) nd capg))) := by
    intro V hV
    obtain ⟨g, capg, hc, hh⟩ := cut_any hV hd0 hdl hol
    refine ⟨g, capg, hc, fun W hW => (hh W hW).mono ?_⟩
    rintro e w' ⟨rfl, a1, a2⟩
    rw [← hnd] at a2 ⊢
    rw [hcut]
    exact ⟨rfl, a1, a2⟩
  have HPRE : Hid (∀ k W, StepL (w.drewN k) T S o N s2 W → StepL w T S o N s2 W) := fun k W hW => StepL.pre (w1 := w.drewN k) ⟨rfl, rfl, rfl, Nat.le_refl _, fun _ _ => rfl⟩ hW
  have hn0 : nd = 0 := by rw [← hnd2]; exact hlen2.2 he
  have en : ((nd : Int) == 0) = true := by rw [hn0]; rfl
  rw [hnd2] at HAR
  clear h hO _hm hsm he hs2 hs3 hrl hol hos hst f1 f2 f3 f4 f5 hlen2 hsm' hcut hak hd0 hdl hnd hd hnd2 hn0
  generalize Lk.ackd s = qa at *
  generalize s.opn.length = OL at *
  generalize s.sent = SE at *
  
  go_enter Tryd.func47, Tryd.ntmps47
  go_wp2_with fail
  refine HA0.out.mono ?_
  rintro e w1 ⟨rfl, k, hw1⟩
  have c6 := HC0.out k
  obtain ⟨hLn, hbn⟩ := HLN.out k
  obtain ⟨g, capg, hld, hde⟩ := HLD0.out _ hLn
  have HLD := Lib.hid hld
  have HDE := Lib.hid hde
  have HAK := Lib.hid (fun W hW => HAKX.out _ W hLn hW)
  have HPR := Lib.hid (HPRE.out k)
  rw [← hw1] at c6 hbn HLD HDE HAK HPR
  clear hw1 hld hde hLn HLD0 HAKX HLN HC0 HA0 HPRE
  go_wp2_with fail
  have hb0 : Below w1.heap.size w1 w1.drew := (Below.refl _ w1).drew
  refine wp_region_held_drew (S := fun _ => True) (by kernel_rfl) trivial (fun hHeld => ?_)
  simp only [List.size_toArray, List.length_cons, List.length_nil, Nat.reduceAdd, Array.replicate_succ, Array.replicate_zero, List.push_toArray, List.nil_append, List.cons_append, List.append_toArray]
  refine take_op (i := 0) (v := ?_) rfl (by kernel_rfl) (by kernel_rfl) (by kernel_rfl) (fun _ _ _ h => h) (Or.inl ⟨by rfl, ?_⟩) (by assumption) ?_
  rotate_left
  · (intro w' hSw; (try dsimp only at hSw); go_simp; (try with_reducible rfl))
  simp only [Act.put, List.setIfInBounds_toArray, List.set_cons_zero, List.set_cons_succ]
  refine take_op (i := 1) (v := ?_) rfl (by kernel_rfl) (by kernel_rfl) (by kernel_rfl) (fun _ _ _ h => h) (Or.inl ⟨by rfl, ?_⟩) (by assumption) ?_
  rotate_left
  · (intro w' hSw; (try dsimp only at hSw); go_simp; (try with_reducible rfl))
  simp only [Act.put, List.setIfInBounds_toArray, List.set_cons_zero, List.set_cons_succ]
  refine take_op (i := 2) (v := ?_) rfl (by kernel_rfl) (by kernel_rfl) (by kernel_rfl) (fun _ _ _ h => h) (Or.inl ⟨by rfl, ?_⟩) (by assumption) ?_
  rotate_left
  · (intro w' hSw; (try dsimp only at hSw); go_simp; (try with_reducible rfl))
  simp only [Act.put, List.setIfInBounds_toArray, List.set_cons_zero, List.set_cons_succ]
  refine take_op (i := 3) (v := ?_) rfl (by kernel_rfl) (by kernel_rfl) (by kernel_rfl) (fun _ _ _ h => h) (Or.inl ⟨by rfl, ?_⟩) (by assumption) ?_
  rotate_left
  · (intro w' hSw; (try dsimp only at hSw); go_simp; (try with_reducible rfl))
  simp only [Act.put, List.setIfInBounds_toArray, List.set_cons_zero, List.set_cons_succ]
  refine take_op (i := 4) (v := ?_) rfl (by kernel_rfl) (by kernel_rfl) (by kernel_rfl) (fun _ _ _ h => h) (Or.inl ⟨by rfl, ?_⟩) (by assumption) ?_
  rotate_left
  · (intro w' hSw; (try dsimp only at hSw); go_simp; (try with_reducible rfl))
  simp only [Act.put, List.setIfInBounds_toArray, List.set_cons_zero, List.set_cons_succ]
  refine take_op (i := 6) (v := ?_) rfl (by kernel_rfl) (by kernel_rfl) (by kernel_rfl) (fun _ _ _ h => h) (Or.inl ⟨by rfl, ?_⟩) (by assumption) ?_
  rotate_left
  · (intro w' hSw; (try dsimp only at hSw); go_simp; (try with_reducible rfl))
  simp only [Act.put, List.setIfInBounds_toArray, List.set_cons_zero, List.set_cons_succ]
  refine take_op (i := 7) (v := ?_) rfl (by kernel_rfl) (by kernel_rfl) (by kernel_rfl) (fun _ _ _ h => h) (Or.inl ⟨by rfl, ?_⟩) (by assumption) ?_
  rotate_left
  · (intro w' hSw; (try dsimp only at hSw); go_simp; (try with_reducible rfl))
  simp only [Act.put, List.setIfInBounds_toArray, List.set_cons_zero, List.set_cons_succ]
  refine take_op (i := 8) (v := ?_) rfl (by kernel_rfl) (by kernel_rfl) (by kernel_rfl) (fun _ _ _ h => h) (Or.inl ⟨by rfl, ?_⟩) (by assumption) ?_
  rotate_left
  · (intro w' hSw; (try dsimp only at hSw); go_simp; (try with_reducible rfl))
  simp only [Act.put, List.setIfInBounds_toArray, List.set_cons_zero, List.set_cons_succ]
  refine take_op (i := 9) (v := ?_) rfl (by kernel_rfl) (by kernel_rfl) (by kernel_rfl) (fun _ _ _ h => h) (Or.inl ⟨by rfl, ?_⟩) (by assumption) ?_
  rotate_left
  · (intro w' hSw; (try dsimp only at hSw); go_simp; (try with_reducible rfl))
  simp only [Act.put, List.setIfInBounds_toArray, List.set_cons_zero, List.set_cons_succ]
  refine wpAnyH_ready (rs := [5, 10]) (by kernel_rfl) (by simp) ?_
  refine cons_op rfl (fun K hK => ?_) (cons_op rfl (fun K hK => ?_) AllReadyH.nil)
  · skip
    have ld7 := HLD.out _ hb0
    go_simp
    refine hK.out _ _ trivial (fun hHeld => ?_)
    clear hK K
    (try simp only [Act.put, List.setIfInBounds_toArray, List.set_cons_zero, List.set_cons_succ])
    refine wpAnyH_ready (rs := [10]) (by kernel_rfl) (by simp) ?_
    refine cons_op rfl (fun K hK => ?_) AllReadyH.nil
    go_simp
    refine (HAK.out _ hb0).mono ?_
    rintro e w10 ⟨rfl, hb10⟩
    (try go_wp2_with fail)
    refine hK.out _ _ trivial (fun hHeld => ?_)
    clear hK K
    (try simp only [Act.put, List.setIfInBounds_toArray, List.set_cons_zero, List.set_cons_succ])
    refine take_op (i := 11) (v := ?_) rfl (by kernel_rfl) (by kernel_rfl) (by kernel_rfl) (fun _ _ _ h => h) (Or.inl ⟨by rfl, ?_⟩) (by assumption) ?_
    rotate_left
    · (intro w' hSw; (try dsimp only at hSw); go_simp; (try with_reducible rfl))
    simp only [Act.put, List.setIfInBounds_toArray, List.set_cons_zero, List.set_cons_succ]
    refine take_op (i := 12) (v := ?_) rfl (by kernel_rfl) (by kernel_rfl) (by kernel_rfl) (fun _ _ _ h => h) (Or.inl ⟨by rfl, ?_⟩) (by assumption) ?_
    rotate_left
    · (intro w' hSw; (try dsimp only at hSw); go_simp; (try with_reducible rfl))
    simp only [Act.put, List.setIfInBounds_toArray, List.set_cons_zero, List.set_cons_succ]
    refine wpAnyH_ready (rs := [13]) (by kernel_rfl) (by simp) ?_
    refine cons_op rfl (fun K hK => ?_) AllReadyH.nil
    go_simp
    refine (HDE.out _ hb10).mono ?_
    rintro e w13 ⟨rfl, ⟨ld13, lf13⟩, hst13⟩
    (try go_wp2_with fail)
    refine hK.out _ _ trivial (fun hHeld => ?_)
    clear hK K
    (try simp only [Act.put, List.setIfInBounds_toArray, List.set_cons_zero, List.set_cons_succ])
    refine take_op (i := 14) (v := ?_) rfl (by kernel_rfl) (by kernel_rfl) (by kernel_rfl) (fun _ _ _ h => h) (Or.inl ⟨by rfl, ?_⟩) (by assumption) ?_
    rotate_left
    · (intro w' hSw; (try dsimp only at hSw); go_simp; (try with_reducible rfl))
    simp only [Act.put, List.setIfInBounds_toArray, List.set_cons_zero, List.set_cons_succ]
    refine take_op (i := 15) (v := ?_) rfl (by kernel_rfl) (by kernel_rfl) (by kernel_rfl) (fun _ _ _ h => h) (Or.inl ⟨by rfl, ?_⟩) (by assumption) ?_
    rotate_left
    · (intro w' hSw; (try dsimp only at hSw); go_simp; (try with_reducible rfl))
    simp only [Act.put, List.setIfInBounds_toArray, List.set_cons_zero, List.set_cons_succ]
    refine take_op (i := 16) (v := ?_) rfl (by kernel_rfl) (by kernel_rfl) (by kernel_rfl) (fun _ _ _ h => h) (Or.inl ⟨by rfl, ?_⟩) (by assumption) ?_
    rotate_left
    · (intro w' hSw; (try dsimp only at hSw); go_simp; (try with_reducible rfl))
    simp only [Act.put, List.setIfInBounds_toArray, List.set_cons_zero, List.set_cons_succ]
    refine wpAnyH_ready (rs := [17]) (by kernel_rfl) (by simp) ?_
    refine cons_op rfl (fun K hK => ?_) AllReadyH.nil
    go_simp
    refine hK.out _ _ trivial (fun hHeld => ?_)
    clear hK K
    (try simp only [Act.put, List.setIfInBounds_toArray, List.set_cons_zero, List.set_cons_succ])
    refine wpAnyH_done (by kernel_rfl) ?_ _
    obtain ⟨WA, hWA⟩ : ∃ WA, (w13.setCell ⟨o, 7, none⟩ (.slice (some ⟨g, 0, none⟩) nd capg)) = WA := ⟨_, rfl⟩
    have HSA := Lib.hid hst13
    rw [hWA] at HSA ⊢
    clear hWA hst13 ld13 lf13 hb10 hb0
    have HSA := Lib.hid (HPR.out _ HSA.out)
    clear c6
    obtain ⟨⟨c4, c5, Al, cl, c7, d11, d12, d13, e11, e12, e13⟩, hal⟩ := HAR.out _ HSA.out
    go_wp2
    obtain ⟨WB, hWB⟩ : ∃ WB, (((WA.setCell ⟨o, 11, none⟩ (.bool false)).setCell ⟨o, 12, none⟩ (.int .u64 0)).setCell ⟨o, 13, none⟩ (.int .i64 0)) = WB := ⟨_, rfl⟩
    have HSB := Lib.hid hal
    rw [hWB] at HSB ⊢
    first | exact HQ.out _ HSB.out | exact bodyPost_end (results_none rfl _ _ _) rfl (HQ.out _ HSB.out)
  · skip
    go_simp
    refine (HAK.out _ hb0).mono ?_
    rintro e w10 ⟨rfl, hb10⟩
    (try go_wp2_with fail)
    refine hK.out _ _ trivial (fun hHeld => ?_)
    clear hK K
    (try simp only [Act.put, List.setIfInBounds_toArray, List.set_cons_zero, List.set_cons_succ])
    refine take_op (i := 11) (v := ?_) rfl (by kernel_rfl) (by kernel_rfl) (by kernel_rfl) (fun _ _ _ h => h) (Or.inl ⟨by rfl, ?_⟩) (by assumption) ?_
    rotate_left
    · (intro w' hSw; (try dsimp only at hSw); go_simp; (try with_reducible rfl))
    simp only [Act.put, List.setIfInBounds_toArray, List.set_cons_zero, List.set_cons_succ]
    refine take_op (i := 12) (v := ?_) rfl (by kernel_rfl) (by kernel_rfl) (by kernel_rfl) (fun _ _ _ h => h) (Or.inl ⟨by rfl, ?_⟩) (by assumption) ?_
    rotate_left
    · (intro w' hSw; (try dsimp only at hSw); go_simp; (try with_reducible rfl))
    simp only [Act.put, List.setIfInBounds_toArray, List.set_cons_zero, List.set_cons_succ]
    refine wpAnyH_ready (rs := [5]) (by kernel_rfl) (by simp) ?_
    refine cons_op rfl (fun K hK => ?_) AllReadyH.nil
    have ld7 := HLD.out _ hb10
    go_simp
    refine hK.out _ _ trivial (fun hHeld => ?_)
    clear hK K
    (try simp only [Act.put, List.setIfInBounds_toArray, List.set_cons_zero, List.set_cons_succ])
    refine wpAnyH_ready (rs := [13]) (by kernel_rfl) (by simp) ?_
    refine cons_op rfl (fun K hK => ?_) AllReadyH.nil
    go_simp
    refine (HDE.out _ hb10).mono ?_
    rintro e w13 ⟨rfl, ⟨ld13, lf13⟩, hst13⟩
    (try go_wp2_with fail)
    refine hK.out _ _ trivial (fun hHeld => ?_)
    clear hK K
    (try simp only [Act.put, List.setIfInBounds_toArray, List.set_cons_zero, List.set_cons_succ])
    refine take_op (i := 14) (v := ?_) rfl (by kernel_rfl) (by kernel_rfl) (by kernel_rfl) (fun _ _ _ h => h) (Or.inl ⟨by rfl, ?_⟩) (by assumption) ?_
    rotate_left
    · (intro w' hSw; (try dsimp only at hSw); go_simp; (try with_reducible rfl))
    simp only [Act.put, List.setIfInBounds_toArray, List.set_cons_zero, List.set_cons_succ]
    refine take_op (i := 15) (v := ?_) rfl (by kernel_rfl) (by kernel_rfl) (by kernel_rfl) (fun _ _ _ h => h) (Or.inl ⟨by rfl, ?_⟩) (by assumption) ?_
    rotate_left
    · (intro w' hSw; (try dsimp only at hSw); go_simp; (try with_reducible rfl))
    simp only [Act.put, List.setIfInBounds_toArray, List.set_cons_zero, List.set_cons_succ]
    refine take_op (i := 16) (v := ?_) rfl (by kernel_rfl) (by kernel_rfl) (by kernel_rfl) (fun _ _ _ h => h) (Or.inl ⟨by rfl, ?_⟩) (by assumption) ?_
    rotate_left
    · (intro w' hSw; (try dsimp only at hSw); go_simp; (try with_reducible rfl))
    simp only [Act.put, List.setIfInBounds_toArray, List.set_cons_zero, List.set_cons_succ]
    refine wpAnyH_ready (rs := [17]) (by kernel_rfl) (by simp) ?_
    refine cons_op rfl (fun K hK => ?_) AllReadyH.nil
    go_simp
    refine hK.out _ _ trivial (fun hHeld => ?_)
    clear hK K
    (try simp only [Act.put, List.setIfInBounds_toArray, List.set_cons_zero, List.set_cons_succ])
    refine wpAnyH_done (by kernel_rfl) ?_ _
    obtain ⟨WA, hWA⟩ : ∃ WA, (w13.setCell ⟨o, 7, none⟩ (.slice (some ⟨g, 0, none⟩) nd capg)) = WA := ⟨_, rfl⟩
    have HSA := Lib.hid hst13
    rw [hWA] at HSA ⊢
    clear hWA hst13 ld13 lf13 hb10 hb0
    have HSA := Lib.hid (HPR.out _ HSA.out)
    clear c6
    obtain ⟨⟨c4, c5, Al, cl, c7, d11, d12, d13, e11, e12, e13⟩, hal⟩ := HAR.out _ HSA.out
    go_wp2
    obtain ⟨WB, hWB⟩ : ∃ WB, (((WA.setCell ⟨o, 11, none⟩ (.bool false)).setCell ⟨o, 12, none⟩ (.int .u64 0)).setCell ⟨o, 13, none⟩ (.int .i64 0)) = WB := ⟨_, rfl⟩
    have HSB := Lib.hid hal
    rw [hWB] at HSB ⊢
    first | exact HQ.out _ HSB.out | exact bodyPost_end (results_none rfl _ _ _) rfl (HQ.out _ HSB.out)

set_option maxHeartbeats 4000000 in
theorem ack_some_on {w : World} {T S : Nat → Prop} {o N : Nat} {s : Lk.S} (h : LnkAt w T S o N s) (hO : Lk.Ok s) {n : Nat} (hn : n ≤ topT) {met : Nat} (_hm : met ≤ 4294967295) (hsm : Lk.some_ s met = true) (he : (Lk.cutS s met).opn ≠ []) :
    Calls Tryd.prog 47 #[.pointer (some ⟨o, 0, none⟩), .int .u64 (n : Nat), .int .u32 (met : Nat)] w fun e w' => (∃ v, e = .returned v) ∧ StepL w T S o N (Lk.start (Lk.cutS s met) n) w' := by
  obtain ⟨s2, hs2⟩ : ∃ s2, s2 = Lk.cutS s met := ⟨_, rfl⟩
  obtain ⟨s3, hs3⟩ : ∃ s3, s3 = Lk.start (Lk.cutS s met) n := ⟨_, rfl⟩
  rw [← hs3]
  obtain ⟨P, hP⟩ : ∃ P : Ending → World → Prop, P = fun e w' => (∃ v, e = .returned v) ∧ StepL w T S o N s3 w' := ⟨_, rfl⟩
  have HQ : Hid (∀ w', StepL w T S o N s3 w' → P (.returned (.tuple #[])) w') := by rw [hP]; exact fun w' h => ⟨⟨_, rfl⟩, h⟩
  rw [← hP]
  clear hP
  have hrl : okR s.b s.c = true := hO.rl
  have hol := hO.ol
  have hos := hO.os
  have hst := hO.st
  obtain ⟨f1, f2, f3, f4, f5⟩ := cutS_f s met
  rw [← hs2] at f1 f2 f3 f4 f5
  have hlen2 : s2.opn.length = 0 ↔ s2.opn = [] := by simp
  rw [← hs2] at he
  have HSTA : Hid (∀ W, Calls Tryd.prog 36 #[ruV s.b s.c, .int .u64 (n : Nat)] W fun e w => e = .returned (alV true (beh n s.b) 0) ∧ Below W.heap.size W w) := fun W => start_any W hrl hn
  have HAR : Hid (∀ W, StepL w T S o N s2 W → (W.cell? ⟨o, 4, none⟩ = some (.int .u64 (s.b : Nat)) ∧ W.cell? ⟨o, 5, none⟩ = some (.int .u64 (s.c : Nat)) ∧ ∃ Al cl, W.cell? ⟨o, 7, none⟩ = some (.slice Al s2.opn.length cl) ∧ W.cell? ⟨o, 11, none⟩ = some (.bool s.on) ∧ W.cell? ⟨o, 12, none⟩ = some (.int .u64 (s.at_ : Nat)) ∧ W.cell? ⟨o, 13, none⟩ = some (.int .i64 s.tr) ∧ W.frozen? ⟨o, 11, none⟩ = false ∧ W.frozen? ⟨o, 12, none⟩ = false ∧ W.frozen? ⟨o, 13, none⟩ = false) ∧ StepL w T S o N s3 (((W.setCell ⟨o, 11, none⟩ (.bool true)).setCell ⟨o, 12, none⟩ (.int .u64 (beh n s.b : Nat))).setCell ⟨o, 13, none⟩ (.int .i64 0))) := by
    intro W hW
    obtain ⟨_, S', hL, _⟩ := id hW
    obtain ⟨_, _, _, _, c4, c5, _, c11, c12, c13⟩ := hL.cells
    obtain ⟨Al, cl, c7, _⟩ := hL.lst
    rw [f1] at c4
    rw [f2] at c5
    rw [f3] at c11
    rw [f4] at c12
    rw [f5] at c13
    refine ⟨⟨c4, c5, Al, cl, c7, c11, c12, c13, hL.free 11, hL.free 12, hL.free 13⟩, ?_⟩
    refine hW.trans (fun S1 h1 => ?_)
    have := StepL.al h1 true (beh n s.b) 0
    rw [hs3, ← hs2]
    have hbb : Lk.start s2 n = { s2 with on := true, at_ := beh n s.b, tr := 0 } := by rw [← f1]; rfl
    rw [hbb]
    exact this
  have hsm' : Lk.ackd s < met ∧ met ≤ s.sent := by unfold Lk.some_ at hsm; simpa using hsm
  obtain ⟨d, hd⟩ : ∃ d, d = met - Lk.ackd s := ⟨_, rfl⟩
  have hcut : s2 = { s with opn := s.opn.drop d } := by rw [hs2, hd]; unfold Lk.cutS; rw [hsm]; rfl
  have hak : Lk.ackd s = s.sent - s.opn.length := rfl
  have hd0 : 0 < d := by omega
  have hdl : d ≤ s.opn.length := by omega
  have e1 : decide ((Lk.ackd s : Int) < (met : Int)) = true := by simp; omega
  have e1' : decide (Lk.ackd s < met) = true := by simp; omega
  have e2 : decide ((met : Int) ≤ (s.sent : Int)) = true := by simp; omega
  have e2' : decide (met ≤ s.sent) = true := by simp; omega
  have w1 : IntKind.u32.wrap ((met : Int) - (Lk.ackd s : Int)) = (d : Int) := by rw [u32_in (by omega) (by omega)]; omega
  have w2 : IntKind.i64.wrap (d : Int) = (d : Int) := IntWalk.i64_in _ (by omega)
  obtain ⟨nd, hnd⟩ : ∃ nd, nd = s.opn.length - d := ⟨_, rfl⟩
  have hnd2 : s2.opn.length = nd := by rw [hcut, hnd]; simp
  have HC0 : Hid (∀ k, (w.drewN k).cell? ⟨o, 6, none⟩ = some (.int .u32 (s.sent : Nat))) := fun k => by
    obtain ⟨_, _, _, _, _, _, c6, _⟩ := (h.drewN k).cells
    exact c6
  have HA0 := Lib.hid (ackd_any h hO)
  have HAKX : Hid (∀ V W, LnkAt V T S o N s → Below V.heap.size V W → Calls Tryd.prog 55 #[.pointer (some ⟨o, 6, none⟩)] W fun e w' => e = .returned (.int .u32 (Lk.ackd s : Nat)) ∧ Below V.heap.size V w') := fun V W hV hW => (ackd_any (hV.below hW) hO).mono (by
    rintro e w' ⟨rfl, k, rfl⟩
    exact ⟨rfl, hW.os, hW.tape, hW.output, hW.size, hW.block⟩)
  have HLN : Hid (∀ k, LnkAt (w.drewN k) T S o N s ∧ Below w.heap.size w (w.drewN k)) := fun k => ⟨h.drewN k, rfl, rfl, rfl, Nat.le_refl _, fun _ _ => rfl⟩
  have HLD0 : Hid (∀ V, LnkAt V T S o N s → ∃ g capg, (∀ W, Below V.heap.size V W → W.cell? ⟨o, 7, none⟩ = some (.slice (some ⟨g, 0, none⟩) s.opn.length capg)) ∧ ∀ W, Below V.heap.size V W → Calls Tryd.prog 70 #[.slice (some ⟨g, 0, none⟩) s.opn.length capg, .int .i64 0, .int .i64 (d : Nat)] W fun e w' => e = .returned (.slice (some ⟨g, 0, none⟩) nd capg) ∧ (w'.cell? ⟨o, 7, none⟩ = some (.slice (some ⟨g, 0, none⟩) s.opn.length capg) ∧ w'.frozen? ⟨o, 7, none⟩ = false) ∧ StepL V T S o N s2 (w'.setCell ⟨o, 7, none⟩ (.slice (some ⟨g, 0, none⟩) nd capg))) := by
    intro V hV
    obtain ⟨g, capg, hc, hh⟩ := cut_any hV hd0 hdl hol
    refine ⟨g, capg, hc, fun W hW => (hh W hW).mono ?_⟩
    rintro e w' ⟨rfl, a1, a2⟩
    rw [← hnd] at a2 ⊢
    rw [hcut]
    exact ⟨rfl, a1, a2⟩
  have HPRE : Hid (∀ k W, StepL (w.drewN k) T S o N s2 W → StepL w T S o N s2 W) := fun k W hW => StepL.pre (w1 := w.drewN k) ⟨rfl, rfl, rfl, Nat.le_refl _, fun _ _ => rfl⟩ hW
  have hn0 : nd ≠ 0 := by rw [← hnd2]; exact fun e => he (hlen2.1 e)
  have en : ((nd : Int) == 0) = false := by
    have : ¬ (nd : Int) = 0 := by omega
    simpa using this
  rw [hnd2] at HAR
  clear h hO _hm hsm he hs2 hs3 hrl hol hos hst f1 f2 f3 f4 f5 hlen2 hsm' hcut hak hd0 hdl hnd hd hnd2 hn0
  generalize Lk.ackd s = qa at *
  generalize s.opn.length = OL at *
  generalize s.sent = SE at *
  generalize beh n s.b = qb at *
  go_enter Tryd.func47, Tryd.ntmps47
  go_wp2_with fail
  refine HA0.out.mono ?_
  rintro e w1 ⟨rfl, k, hw1⟩
  have c6 := HC0.out k
  obtain ⟨hLn, hbn⟩ := HLN.out k
  obtain ⟨g, capg, hld, hde⟩ := HLD0.out _ hLn
  have HLD := Lib.hid hld
  have HDE := Lib.hid hde
  have HAK := Lib.hid (fun W hW => HAKX.out _ W hLn hW)
  have HPR := Lib.hid (HPRE.out k)
  rw [← hw1] at c6 hbn HLD HDE HAK HPR
  clear hw1 hld hde hLn HLD0 HAKX HLN HC0 HA0 HPRE
  go_wp2_with fail
  have hb0 : Below w1.heap.size w1 w1.drew := (Below.refl _ w1).drew
  refine wp_region_held_drew (S := fun _ => True) (by kernel_rfl) trivial (fun hHeld => ?_)
  simp only [List.size_toArray, List.length_cons, List.length_nil, Nat.reduceAdd, Array.replicate_succ, Array.replicate_zero, List.push_toArray, List.nil_append, List.cons_append, List.append_toArray]
  refine take_op (i := 0) (v := ?_) rfl (by kernel_rfl) (by kernel_rfl) (by kernel_rfl) (fun _ _ _ h => h) (Or.inl ⟨by rfl, ?_⟩) (by assumption) ?_
  rotate_left
  · (intro w' hSw; (try dsimp only at hSw); go_simp; (try with_reducible rfl))
  simp only [Act.put, List.setIfInBounds_toArray, List.set_cons_zero, List.set_cons_succ]
  refine take_op (i := 1) (v := ?_) rfl (by kernel_rfl) (by kernel_rfl) (by kernel_rfl) (fun _ _ _ h => h) (Or.inl ⟨by rfl, ?_⟩) (by assumption) ?_
  rotate_left
  · (intro w' hSw; (try dsimp only at hSw); go_simp; (try with_reducible rfl))
  simp only [Act.put, List.setIfInBounds_toArray, List.set_cons_zero, List.set_cons_succ]
  refine take_op (i := 2) (v := ?_) rfl (by kernel_rfl) (by kernel_rfl) (by kernel_rfl) (fun _ _ _ h => h) (Or.inl ⟨by rfl, ?_⟩) (by assumption) ?_
  rotate_left
  · (intro w' hSw; (try dsimp only at hSw); go_simp; (try with_reducible rfl))
  simp only [Act.put, List.setIfInBounds_toArray, List.set_cons_zero, List.set_cons_succ]
  refine take_op (i := 3) (v := ?_) rfl (by kernel_rfl) (by kernel_rfl) (by kernel_rfl) (fun _ _ _ h => h) (Or.inl ⟨by rfl, ?_⟩) (by assumption) ?_
  rotate_left
  · (intro w' hSw; (try dsimp only at hSw); go_simp; (try with_reducible rfl))
  simp only [Act.put, List.setIfInBounds_toArray, List.set_cons_zero, List.set_cons_succ]
  refine take_op (i := 4) (v := ?_) rfl (by kernel_rfl) (by kernel_rfl) (by kernel_rfl) (fun _ _ _ h => h) (Or.inl ⟨by rfl, ?_⟩) (by assumption) ?_
  rotate_left
  · (intro w' hSw; (try dsimp only at hSw); go_simp; (try with_reducible rfl))
  simp only [Act.put, List.setIfInBounds_toArray, List.set_cons_zero, List.set_cons_succ]
  refine take_op (i := 6) (v := ?_) rfl (by kernel_rfl) (by kernel_rfl) (by kernel_rfl) (fun _ _ _ h => h) (Or.inl ⟨by rfl, ?_⟩) (by assumption) ?_
  rotate_left
  · (intro w' hSw; (try dsimp only at hSw); go_simp; (try with_reducible rfl))
  simp only [Act.put, List.setIfInBounds_toArray, List.set_cons_zero, List.set_cons_succ]
  refine take_op (i := 7) (v := ?_) rfl (by kernel_rfl) (by kernel_rfl) (by kernel_rfl) (fun _ _ _ h => h) (Or.inl ⟨by rfl, ?_⟩) (by assumption) ?_
  rotate_left
  · (intro w' hSw; (try dsimp only at hSw); go_simp; (try with_reducible rfl))
  simp only [Act.put, List.setIfInBounds_toArray, List.set_cons_zero, List.set_cons_succ]
  refine take_op (i := 8) (v := ?_) rfl (by kernel_rfl) (by kernel_rfl) (by kernel_rfl) (fun _ _ _ h => h) (Or.inl ⟨by rfl, ?_⟩) (by assumption) ?_
  rotate_left
  · (intro w' hSw; (try dsimp only at hSw); go_simp; (try with_reducible rfl))
  simp only [Act.put, List.setIfInBounds_toArray, List.set_cons_zero, List.set_cons_succ]
  refine take_op (i := 9) (v := ?_) rfl (by kernel_rfl) (by kernel_rfl) (by kernel_rfl) (fun _ _ _ h => h) (Or.inl ⟨by rfl, ?_⟩) (by assumption) ?_
  rotate_left
  · (intro w' hSw; (try dsimp only at hSw); go_simp; (try with_reducible rfl))
  simp only [Act.put, List.setIfInBounds_toArray, List.set_cons_zero, List.set_cons_succ]
  refine wpAnyH_ready (rs := [5, 10]) (by kernel_rfl) (by simp) ?_
  refine cons_op rfl (fun K hK => ?_) (cons_op rfl (fun K hK => ?_) AllReadyH.nil)
  · skip
    have ld7 := HLD.out _ hb0
    go_simp
    refine hK.out _ _ trivial (fun hHeld => ?_)
    clear hK K
    (try simp only [Act.put, List.setIfInBounds_toArray, List.set_cons_zero, List.set_cons_succ])
    refine wpAnyH_ready (rs := [10]) (by kernel_rfl) (by simp) ?_
    refine cons_op rfl (fun K hK => ?_) AllReadyH.nil
    go_simp
    refine (HAK.out _ hb0).mono ?_
    rintro e w10 ⟨rfl, hb10⟩
    (try go_wp2_with fail)
    refine hK.out _ _ trivial (fun hHeld => ?_)
    clear hK K
    (try simp only [Act.put, List.setIfInBounds_toArray, List.set_cons_zero, List.set_cons_succ])
    refine take_op (i := 11) (v := ?_) rfl (by kernel_rfl) (by kernel_rfl) (by kernel_rfl) (fun _ _ _ h => h) (Or.inl ⟨by rfl, ?_⟩) (by assumption) ?_
    rotate_left
    · (intro w' hSw; (try dsimp only at hSw); go_simp; (try with_reducible rfl))
    simp only [Act.put, List.setIfInBounds_toArray, List.set_cons_zero, List.set_cons_succ]
    refine take_op (i := 12) (v := ?_) rfl (by kernel_rfl) (by kernel_rfl) (by kernel_rfl) (fun _ _ _ h => h) (Or.inl ⟨by rfl, ?_⟩) (by assumption) ?_
    rotate_left
    · (intro w' hSw; (try dsimp only at hSw); go_simp; (try with_reducible rfl))
    simp only [Act.put, List.setIfInBounds_toArray, List.set_cons_zero, List.set_cons_succ]
    refine wpAnyH_ready (rs := [13]) (by kernel_rfl) (by simp) ?_
    refine cons_op rfl (fun K hK => ?_) AllReadyH.nil
    go_simp
    refine (HDE.out _ hb10).mono ?_
    rintro e w13 ⟨rfl, ⟨ld13, lf13⟩, hst13⟩
    (try go_wp2_with fail)
    refine hK.out _ _ trivial (fun hHeld => ?_)
    clear hK K
    (try simp only [Act.put, List.setIfInBounds_toArray, List.set_cons_zero, List.set_cons_succ])
    refine take_op (i := 14) (v := ?_) rfl (by kernel_rfl) (by kernel_rfl) (by kernel_rfl) (fun _ _ _ h => h) (Or.inl ⟨by rfl, ?_⟩) (by assumption) ?_
    rotate_left
    · (intro w' hSw; (try dsimp only at hSw); go_simp; (try with_reducible rfl))
    simp only [Act.put, List.setIfInBounds_toArray, List.set_cons_zero, List.set_cons_succ]
    refine take_op (i := 15) (v := ?_) rfl (by kernel_rfl) (by kernel_rfl) (by kernel_rfl) (fun _ _ _ h => h) (Or.inl ⟨by rfl, ?_⟩) (by assumption) ?_
    rotate_left
    · (intro w' hSw; (try dsimp only at hSw); go_simp; (try with_reducible rfl))
    simp only [Act.put, List.setIfInBounds_toArray, List.set_cons_zero, List.set_cons_succ]
    refine take_op (i := 16) (v := ?_) rfl (by kernel_rfl) (by kernel_rfl) (by kernel_rfl) (fun _ _ _ h => h) (Or.inl ⟨by rfl, ?_⟩) (by assumption) ?_
    rotate_left
    · (intro w' hSw; (try dsimp only at hSw); go_simp; (try with_reducible rfl))
    simp only [Act.put, List.setIfInBounds_toArray, List.set_cons_zero, List.set_cons_succ]
    refine wpAnyH_ready (rs := [17]) (by kernel_rfl) (by simp) ?_
    refine cons_op rfl (fun K hK => ?_) AllReadyH.nil
    go_simp
    refine hK.out _ _ trivial (fun hHeld => ?_)
    clear hK K
    (try simp only [Act.put, List.setIfInBounds_toArray, List.set_cons_zero, List.set_cons_succ])
    refine wpAnyH_done (by kernel_rfl) ?_ _
    obtain ⟨WA, hWA⟩ : ∃ WA, (w13.setCell ⟨o, 7, none⟩ (.slice (some ⟨g, 0, none⟩) nd capg)) = WA := ⟨_, rfl⟩
    have HSA := Lib.hid hst13
    rw [hWA] at HSA ⊢
    clear hWA hst13 ld13 lf13 hb10 hb0
    have HSA := Lib.hid (HPR.out _ HSA.out)
    clear c6
    obtain ⟨⟨c4, c5, Al, cl, c7, d11, d12, d13, e11, e12, e13⟩, hal⟩ := HAR.out _ HSA.out
    clear hal
    go_wp2_with fail
    refine (HSTA.out _).mono ?_
    rintro e w11 ⟨rfl, hb11⟩
    clear c4 c5 c7 d11 d12 d13 e11 e12 e13
    have HSB := Lib.hid (HSA.out.post hb11)
    clear hb11 HSA
    obtain ⟨⟨_, _, _, _, _, d11, d12, d13, e11, e12, e13⟩, hal⟩ := HAR.out _ HSB.out
    go_wp2
    obtain ⟨WB, hWB⟩ : ∃ WB, (((w11.setCell ⟨o, 11, none⟩ (.bool true)).setCell ⟨o, 12, none⟩ (.int .u64 (qb : Nat))).setCell ⟨o, 13, none⟩ (.int .i64 0)) = WB := ⟨_, rfl⟩
    have HSC := Lib.hid hal
    rw [hWB] at HSC ⊢
    first | exact HQ.out _ HSC.out | exact bodyPost_end (results_none rfl _ _ _) rfl (HQ.out _ HSC.out)
  · skip
    go_simp
    refine (HAK.out _ hb0).mono ?_
    rintro e w10 ⟨rfl, hb10⟩
    (try go_wp2_with fail)
    refine hK.out _ _ trivial (fun hHeld => ?_)
    clear hK K
    (try simp only [Act.put, List.setIfInBounds_toArray, List.set_cons_zero, List.set_cons_succ])
    refine take_op (i := 11) (v := ?_) rfl (by kernel_rfl) (by kernel_rfl) (by kernel_rfl) (fun _ _ _ h => h) (Or.inl ⟨by rfl, ?_⟩) (by assumption) ?_
    rotate_left
    · (intro w' hSw; (try dsimp only at hSw); go_simp; (try with_reducible rfl))
    simp only [Act.put, List.setIfInBounds_toArray, List.set_cons_zero, List.set_cons_succ]
    refine take_op (i := 12) (v := ?_) rfl (by kernel_rfl) (by kernel_rfl) (by kernel_rfl) (fun _ _ _ h => h) (Or.inl ⟨by rfl, ?_⟩) (by assumption) ?_
    rotate_left
    · (intro w' hSw; (try dsimp only at hSw); go_simp; (try with_reducible rfl))
    simp only [Act.put, List.setIfInBounds_toArray, List.set_cons_zero, List.set_cons_succ]
    refine wpAnyH_ready (rs := [5]) (by kernel_rfl) (by simp) ?_
    refine cons_op rfl (fun K hK => ?_) AllReadyH.nil
    have ld7 := HLD.out _ hb10
    go_simp
    refine hK.out _ _ trivial (fun hHeld => ?_)
    clear hK K
    (try simp only [Act.put, List.setIfInBounds_toArray, List.set_cons_zero, List.set_cons_succ])
    refine wpAnyH_ready (rs := [13]) (by kernel_rfl) (by simp) ?_
    refine cons_op rfl (fun K hK => ?_) AllReadyH.nil
    go_simp
    refine (HDE.out _ hb10).mono ?_
    rintro e w13 ⟨rfl, ⟨ld13, lf13⟩, hst13⟩
    (try go_wp2_with fail)
    refine hK.out _ _ trivial (fun hHeld => ?_)
    clear hK K
    (try simp only [Act.put, List.setIfInBounds_toArray, List.set_cons_zero, List.set_cons_succ])
    refine take_op (i := 14) (v := ?_) rfl (by kernel_rfl) (by kernel_rfl) (by kernel_rfl) (fun _ _ _ h => h) (Or.inl ⟨by rfl, ?_⟩) (by assumption) ?_
    rotate_left
    · (intro w' hSw; (try dsimp only at hSw); go_simp; (try with_reducible rfl))
    simp only [Act.put, List.setIfInBounds_toArray, List.set_cons_zero, List.set_cons_succ]
    refine take_op (i := 15) (v := ?_) rfl (by kernel_rfl) (by kernel_rfl) (by kernel_rfl) (fun _ _ _ h => h) (Or.inl ⟨by rfl, ?_⟩) (by assumption) ?_
    rotate_left
    · (intro w' hSw; (try dsimp only at hSw); go_simp; (try with_reducible rfl))
    simp only [Act.put, List.setIfInBounds_toArray, List.set_cons_zero, List.set_cons_succ]
    refine take_op (i := 16) (v := ?_) rfl (by kernel_rfl) (by kernel_rfl) (by kernel_rfl) (fun _ _ _ h => h) (Or.inl ⟨by rfl, ?_⟩) (by assumption) ?_
    rotate_left
    · (intro w' hSw; (try dsimp only at hSw); go_simp; (try with_reducible rfl))
    simp only [Act.put, List.setIfInBounds_toArray, List.set_cons_zero, List.set_cons_succ]
    refine wpAnyH_ready (rs := [17]) (by kernel_rfl) (by simp) ?_
    refine cons_op rfl (fun K hK => ?_) AllReadyH.nil
    go_simp
    refine hK.out _ _ trivial (fun hHeld => ?_)
    clear hK K
    (try simp only [Act.put, List.setIfInBounds_toArray, List.set_cons_zero, List.set_cons_succ])
    refine wpAnyH_done (by kernel_rfl) ?_ _
    obtain ⟨WA, hWA⟩ : ∃ WA, (w13.setCell ⟨o, 7, none⟩ (.slice (some ⟨g, 0, none⟩) nd capg)) = WA := ⟨_, rfl⟩
    have HSA := Lib.hid hst13
    rw [hWA] at HSA ⊢
    clear hWA hst13 ld13 lf13 hb10 hb0
    have HSA := Lib.hid (HPR.out _ HSA.out)
    clear c6
    obtain ⟨⟨c4, c5, Al, cl, c7, d11, d12, d13, e11, e12, e13⟩, hal⟩ := HAR.out _ HSA.out
    clear hal
    go_wp2_with fail
    refine (HSTA.out _).mono ?_
    rintro e w11 ⟨rfl, hb11⟩
    clear c4 c5 c7 d11 d12 d13 e11 e12 e13
    have HSB := Lib.hid (HSA.out.post hb11)
    clear hb11 HSA
    obtain ⟨⟨_, _, _, _, _, d11, d12, d13, e11, e12, e13⟩, hal⟩ := HAR.out _ HSB.out
    go_wp2
    obtain ⟨WB, hWB⟩ : ∃ WB, (((w11.setCell ⟨o, 11, none⟩ (.bool true)).setCell ⟨o, 12, none⟩ (.int .u64 (qb : Nat))).setCell ⟨o, 13, none⟩ (.int .i64 0)) = WB := ⟨_, rfl⟩
    have HSC := Lib.hid hal
    rw [hWB] at HSC ⊢
    first | exact HQ.out _ HSC.out | exact bodyPost_end (results_none rfl _ _ _) rfl (HQ.out _ HSC.out)

set_option maxHeartbeats 4000000 in
theorem ack_no_end {w : World} {T S : Nat → Prop} {o N : Nat} {s : Lk.S} (h : LnkAt w T S o N s) (hO : Lk.Ok s) {n : Nat} (_hn : n ≤ topT) {met : Nat} (_hm : met ≤ 4294967295) (hsm : Lk.some_ s met = false) (he : (Lk.cutS s met).opn = []) :
    Calls Tryd.prog 47 #[.pointer (some ⟨o, 0, none⟩), .int .u64 (n : Nat), .int .u32 (met : Nat)] w fun e w' => (∃ v, e = .returned v) ∧ StepL w T S o N (Lk.stop (Lk.cutS s met)) w' := by
  obtain ⟨s2, hs2⟩ : ∃ s2, s2 = Lk.cutS s met := ⟨_, rfl⟩
  obtain ⟨s3, hs3⟩ : ∃ s3, s3 = Lk.stop (Lk.cutS s met) := ⟨_, rfl⟩
  rw [← hs3]
  obtain ⟨P, hP⟩ : ∃ P : Ending → World → Prop, P = fun e w' => (∃ v, e = .returned v) ∧ StepL w T S o N s3 w' := ⟨_, rfl⟩
  have HQ : Hid (∀ w', StepL w T S o N s3 w' → P (.returned (.tuple #[])) w') := by rw [hP]; exact fun w' h => ⟨⟨_, rfl⟩, h⟩
  rw [← hP]
  clear hP
  have hrl : okR s.b s.c = true := hO.rl
  have hol := hO.ol
  have hos := hO.os
  have hst := hO.st
  obtain ⟨f1, f2, f3, f4, f5⟩ := cutS_f s met
  rw [← hs2] at f1 f2 f3 f4 f5
  have hlen2 : s2.opn.length = 0 ↔ s2.opn = [] := by simp
  rw [← hs2] at he
  have HSTA : Hid (∀ W, Calls Tryd.prog 36 #[ruV s.b s.c, .int .u64 (n : Nat)] W fun e w => e = .returned (alV true (beh n s.b) 0) ∧ Below W.heap.size W w) := fun W => start_any W hrl _hn
  have HAR : Hid (∀ W, StepL w T S o N s2 W → (W.cell? ⟨o, 4, none⟩ = some (.int .u64 (s.b : Nat)) ∧ W.cell? ⟨o, 5, none⟩ = some (.int .u64 (s.c : Nat)) ∧ ∃ Al cl, W.cell? ⟨o, 7, none⟩ = some (.slice Al s2.opn.length cl) ∧ W.cell? ⟨o, 11, none⟩ = some (.bool s.on) ∧ W.cell? ⟨o, 12, none⟩ = some (.int .u64 (s.at_ : Nat)) ∧ W.cell? ⟨o, 13, none⟩ = some (.int .i64 s.tr) ∧ W.frozen? ⟨o, 11, none⟩ = false ∧ W.frozen? ⟨o, 12, none⟩ = false ∧ W.frozen? ⟨o, 13, none⟩ = false) ∧ StepL w T S o N s3 (((W.setCell ⟨o, 11, none⟩ (.bool false)).setCell ⟨o, 12, none⟩ (.int .u64 0)).setCell ⟨o, 13, none⟩ (.int .i64 0))) := by
    intro W hW
    obtain ⟨_, S', hL, _⟩ := id hW
    obtain ⟨_, _, _, _, c4, c5, _, c11, c12, c13⟩ := hL.cells
    obtain ⟨Al, cl, c7, _⟩ := hL.lst
    rw [f1] at c4
    rw [f2] at c5
    rw [f3] at c11
    rw [f4] at c12
    rw [f5] at c13
    refine ⟨⟨c4, c5, Al, cl, c7, c11, c12, c13, hL.free 11, hL.free 12, hL.free 13⟩, ?_⟩
    refine hW.trans (fun S1 h1 => ?_)
    have := StepL.al h1 false 0 0
    rw [hs3, ← hs2]
    skip
    exact this
  have hcut : s2 = s := by rw [hs2]; unfold Lk.cutS; rw [hsm]; rfl
  have hol2 : s2.opn.length = s.opn.length := by rw [hcut]
  have HC0 : Hid (∀ k, (w.drewN k).cell? ⟨o, 6, none⟩ = some (.int .u32 (s.sent : Nat))) := fun k => by
    obtain ⟨_, _, _, _, _, _, c6, _⟩ := (h.drewN k).cells
    exact c6
  have HA0 := Lib.hid (ackd_any h hO)
  have HSA0 : Hid (∀ k, StepL w T S o N s2 (w.drewN k)) := fun k => by rw [hcut]; exact StepL.still h ⟨rfl, rfl, rfl, Nat.le_refl _, fun _ _ => rfl⟩
  have hn0 : s2.opn.length = 0 := hlen2.2 he
  have en : ((s2.opn.length : Int) == 0) = true := by rw [hn0]; rfl
  by_cases hq : Lk.ackd s < met
  · have hq2 : ¬ met ≤ s.sent := by unfold Lk.some_ at hsm; simpa [hq] using hsm
    have e1 : decide ((Lk.ackd s : Int) < (met : Int)) = true := by simp; omega
    have e1' : decide (Lk.ackd s < met) = true := by simp; omega
    have e2 : decide ((met : Int) ≤ (s.sent : Int)) = false := by simp; omega
    have e2' : decide (met ≤ s.sent) = false := by simp; omega
    clear h hO _hm hsm he hs2 hs3 hrl hol hos hst f1 f2 f3 f4 f5 hlen2 hcut hq hq2 hol2 hn0
    generalize Lk.ackd s = qa at *
    generalize s2.opn.length = nd at *
    generalize s.sent = SE at *
    go_enter Tryd.func47, Tryd.ntmps47
    go_wp2_with fail
    refine HA0.out.mono ?_
    rintro e WA ⟨rfl, k, hw1⟩
    have c6 := HC0.out k
    have HSA := Lib.hid (HSA0.out k)
    rw [← hw1] at c6 HSA
    clear hw1 HC0 HA0 HSA0
    obtain ⟨⟨c4, c5, Al, cl, c7, d11, d12, d13, e11, e12, e13⟩, hal⟩ := HAR.out _ HSA.out
    go_wp2
    obtain ⟨WB, hWB⟩ : ∃ WB, (((WA.setCell ⟨o, 11, none⟩ (.bool false)).setCell ⟨o, 12, none⟩ (.int .u64 0)).setCell ⟨o, 13, none⟩ (.int .i64 0)) = WB := ⟨_, rfl⟩
    have HSB := Lib.hid hal
    rw [hWB] at HSB ⊢
    first | exact HQ.out _ HSB.out | exact bodyPost_end (results_none rfl _ _ _) rfl (HQ.out _ HSB.out)
  · have e1 : decide ((Lk.ackd s : Int) < (met : Int)) = false := by simp; omega
    have e1' : decide (Lk.ackd s < met) = false := by simp; omega
    clear h hO _hm hsm he hs2 hs3 hrl hol hos hst f1 f2 f3 f4 f5 hlen2 hcut hq hol2 hn0
    generalize Lk.ackd s = qa at *
    generalize s2.opn.length = nd at *
    generalize s.sent = SE at *
    go_enter Tryd.func47, Tryd.ntmps47
    go_wp2_with fail
    refine HA0.out.mono ?_
    rintro e WA ⟨rfl, k, hw1⟩
    have c6 := HC0.out k
    have HSA := Lib.hid (HSA0.out k)
    rw [← hw1] at c6 HSA
    clear hw1 HC0 HA0 HSA0
    obtain ⟨⟨c4, c5, Al, cl, c7, d11, d12, d13, e11, e12, e13⟩, hal⟩ := HAR.out _ HSA.out
    go_wp2
    obtain ⟨WB, hWB⟩ : ∃ WB, (((WA.setCell ⟨o, 11, none⟩ (.bool false)).setCell ⟨o, 12, none⟩ (.int .u64 0)).setCell ⟨o, 13, none⟩ (.int .i64 0)) = WB := ⟨_, rfl⟩
    have HSB := Lib.hid hal
    rw [hWB] at HSB ⊢
    first | exact HQ.out _ HSB.out | exact bodyPost_end (results_none rfl _ _ _) rfl (HQ.out _ HSB.out)

set_option maxHeartbeats 4000000 in
theorem ack_no_on {w : World} {T S : Nat → Prop} {o N : Nat} {s : Lk.S} (h : LnkAt w T S o N s) (hO : Lk.Ok s) {n : Nat} (_hn : n ≤ topT) {met : Nat} (_hm : met ≤ 4294967295) (hsm : Lk.some_ s met = false) (he : (Lk.cutS s met).opn ≠ []) :
    Calls Tryd.prog 47 #[.pointer (some ⟨o, 0, none⟩), .int .u64 (n : Nat), .int .u32 (met : Nat)] w fun e w' => (∃ v, e = .returned v) ∧ StepL w T S o N (Lk.cutS s met) w' := by
  obtain ⟨s2, hs2⟩ : ∃ s2, s2 = Lk.cutS s met := ⟨_, rfl⟩
  obtain ⟨s3, hs3⟩ : ∃ s3, s3 = Lk.cutS s met := ⟨_, rfl⟩
  rw [← hs3]
  obtain ⟨P, hP⟩ : ∃ P : Ending → World → Prop, P = fun e w' => (∃ v, e = .returned v) ∧ StepL w T S o N s3 w' := ⟨_, rfl⟩
  have HQ : Hid (∀ w', StepL w T S o N s3 w' → P (.returned (.tuple #[])) w') := by rw [hP]; exact fun w' h => ⟨⟨_, rfl⟩, h⟩
  rw [← hP]
  clear hP
  have hrl : okR s.b s.c = true := hO.rl
  have hol := hO.ol
  have hos := hO.os
  have hst := hO.st
  obtain ⟨f1, f2, f3, f4, f5⟩ := cutS_f s met
  rw [← hs2] at f1 f2 f3 f4 f5
  have hlen2 : s2.opn.length = 0 ↔ s2.opn = [] := by simp
  rw [← hs2] at he
  have HSTA : Hid (∀ W, Calls Tryd.prog 36 #[ruV s.b s.c, .int .u64 (n : Nat)] W fun e w => e = .returned (alV true (beh n s.b) 0) ∧ Below W.heap.size W w) := fun W => start_any W hrl _hn
  have HAR : Hid (∀ W, StepL w T S o N s2 W → (W.cell? ⟨o, 4, none⟩ = some (.int .u64 (s.b : Nat)) ∧ W.cell? ⟨o, 5, none⟩ = some (.int .u64 (s.c : Nat)) ∧ ∃ Al cl, W.cell? ⟨o, 7, none⟩ = some (.slice Al s2.opn.length cl) ∧ W.cell? ⟨o, 11, none⟩ = some (.bool s.on) ∧ W.cell? ⟨o, 12, none⟩ = some (.int .u64 (s.at_ : Nat)) ∧ W.cell? ⟨o, 13, none⟩ = some (.int .i64 s.tr) ∧ W.frozen? ⟨o, 11, none⟩ = false ∧ W.frozen? ⟨o, 12, none⟩ = false ∧ W.frozen? ⟨o, 13, none⟩ = false) ∧ StepL w T S o N s3 W) := by
    intro W hW
    obtain ⟨_, S', hL, _⟩ := id hW
    obtain ⟨_, _, _, _, c4, c5, _, c11, c12, c13⟩ := hL.cells
    obtain ⟨Al, cl, c7, _⟩ := hL.lst
    rw [f1] at c4
    rw [f2] at c5
    rw [f3] at c11
    rw [f4] at c12
    rw [f5] at c13
    refine ⟨⟨c4, c5, Al, cl, c7, c11, c12, c13, hL.free 11, hL.free 12, hL.free 13⟩, ?_⟩
    rw [hs3, ← hs2]; exact hW
  have hcut : s2 = s := by rw [hs2]; unfold Lk.cutS; rw [hsm]; rfl
  have hol2 : s2.opn.length = s.opn.length := by rw [hcut]
  have HC0 : Hid (∀ k, (w.drewN k).cell? ⟨o, 6, none⟩ = some (.int .u32 (s.sent : Nat))) := fun k => by
    obtain ⟨_, _, _, _, _, _, c6, _⟩ := (h.drewN k).cells
    exact c6
  have HA0 := Lib.hid (ackd_any h hO)
  have HSA0 : Hid (∀ k, StepL w T S o N s2 (w.drewN k)) := fun k => by rw [hcut]; exact StepL.still h ⟨rfl, rfl, rfl, Nat.le_refl _, fun _ _ => rfl⟩
  have hn0 : s2.opn.length ≠ 0 := fun e => he (hlen2.1 e)
  have en : ((s2.opn.length : Int) == 0) = false := by
    have : ¬ (s2.opn.length : Int) = 0 := by omega
    simpa using this
  by_cases hq : Lk.ackd s < met
  · have hq2 : ¬ met ≤ s.sent := by unfold Lk.some_ at hsm; simpa [hq] using hsm
    have e1 : decide ((Lk.ackd s : Int) < (met : Int)) = true := by simp; omega
    have e1' : decide (Lk.ackd s < met) = true := by simp; omega
    have e2 : decide ((met : Int) ≤ (s.sent : Int)) = false := by simp; omega
    have e2' : decide (met ≤ s.sent) = false := by simp; omega
    clear h hO _hm hsm he hs2 hs3 hrl hol hos hst f1 f2 f3 f4 f5 hlen2 hcut hq hq2 hol2 hn0
    generalize Lk.ackd s = qa at *
    generalize s2.opn.length = nd at *
    generalize s.sent = SE at *
    go_enter Tryd.func47, Tryd.ntmps47
    go_wp2_with fail
    refine HA0.out.mono ?_
    rintro e WA ⟨rfl, k, hw1⟩
    have c6 := HC0.out k
    have HSA := Lib.hid (HSA0.out k)
    rw [← hw1] at c6 HSA
    clear hw1 HC0 HA0 HSA0
    obtain ⟨⟨c4, c5, Al, cl, c7, d11, d12, d13, e11, e12, e13⟩, hal⟩ := HAR.out _ HSA.out
    have HSB := Lib.hid hal
    go_wp2
    first | exact HQ.out _ HSB.out | exact bodyPost_end (results_none rfl _ _ _) rfl (HQ.out _ HSB.out)
  · have e1 : decide ((Lk.ackd s : Int) < (met : Int)) = false := by simp; omega
    have e1' : decide (Lk.ackd s < met) = false := by simp; omega
    clear h hO _hm hsm he hs2 hs3 hrl hol hos hst f1 f2 f3 f4 f5 hlen2 hcut hq hol2 hn0
    generalize Lk.ackd s = qa at *
    generalize s2.opn.length = nd at *
    generalize s.sent = SE at *
    go_enter Tryd.func47, Tryd.ntmps47
    go_wp2_with fail
    refine HA0.out.mono ?_
    rintro e WA ⟨rfl, k, hw1⟩
    have c6 := HC0.out k
    have HSA := Lib.hid (HSA0.out k)
    rw [← hw1] at c6 HSA
    clear hw1 HC0 HA0 HSA0
    obtain ⟨⟨c4, c5, Al, cl, c7, d11, d12, d13, e11, e12, e13⟩, hal⟩ := HAR.out _ HSA.out
    have HSB := Lib.hid hal
    go_wp2
    first | exact HQ.out _ HSB.out | exact bodyPost_end (results_none rfl _ _ _) rfl (HQ.out _ HSB.out)

/-- Of the messages those up to a number are let go of. -/
theorem ack_any {w : World} {T S : Nat → Prop} {o N : Nat} {s : Lk.S} (h : LnkAt w T S o N s) (hO : Lk.Ok s) {n : Nat} (hn : n ≤ topT) {met : Nat} (hm : met ≤ 4294967295) :
    Calls Tryd.prog 47 #[.pointer (some ⟨o, 0, none⟩), .int .u64 (n : Nat), .int .u32 (met : Nat)] w fun e w' => (∃ v, e = .returned v) ∧ StepL w T S o N (Lk.ackS s n met) w' := by
  unfold Lk.ackS
  by_cases he : (Lk.cutS s met).opn = []
  · rw [if_pos he]
    cases hs : Lk.some_ s met
    · exact ack_no_end h hO hn hm hs he
    · exact ack_some_end h hO hn hm hs he
  · rw [if_neg he]
    cases hs : Lk.some_ s met
    · rw [if_neg (by simp)]; exact ack_no_on h hO hn hm hs he
    · rw [if_pos rfl]; exact ack_some_on h hO hn hm hs he
end Go.Proofs.YtfgajjfcjlejmaaDoor
