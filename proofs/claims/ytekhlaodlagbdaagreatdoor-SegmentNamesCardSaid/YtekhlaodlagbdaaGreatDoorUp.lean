/-
  Several maps in memory: one's tables lie above whatever stood when they were made.
-/
import Derived.Test.YtekhlaodlagbdaaGreatDoorMeth
namespace Go.Proofs.YtekhlaodlagbdaaGreatDoor
set_option maxRecDepth 100000
set_option linter.unusedSimpArgs false
open Go.RowKit

/-- The tables of the map at b, if there are any, lie at F or above. -/
def Up (F b : Nat) (w : World) : Prop :=
  ∀ f, (f = 6 ∨ f = 7) → ∀ q n c, w.cell? ⟨b, f, none⟩ = some (.slice (some q) n c) → F ≤ q.block ∧ ∀ j, j < n → ∀ v, w.cell? ⟨q.block, j, none⟩ = some v → ∀ r, v.ownBlock = some r → F ≤ r

theorem up_of {F B b gn gb N : Nat} {av : List Nat} {L : Nat → List Nat} {T : Nat → Value} {w : World} (hT : Mem B gn gb N av L T w) (h6 : w.cell? ⟨b, 6, none⟩ = some (.slice (some ⟨gn, 0, none⟩) N N)) (h7 : w.cell? ⟨b, 7, none⟩ = some (.slice (some ⟨gb, 0, none⟩) N N))
    (hB : F ≤ B) (hn : F ≤ gn) (hb : F ≤ gb) : Up F b w := by
  rintro f (rfl | rfl) q n c hc
  · rw [h6] at hc
    simp only [Option.some.injEq, Value.slice.injEq] at hc
    obtain ⟨rfl, rfl, _⟩ := hc
    refine ⟨hn, fun j hj v hv r hr => ?_⟩
    have h1 := hT.cell j (by omega)
    rw [loc_lo hj] at h1
    obtain rfl := Option.some.inj (h1.symm.trans hv)
    exact Nat.le_trans hB ((hT.own j (by omega)).lt r hr).1
  · rw [h7] at hc
    simp only [Option.some.injEq, Value.slice.injEq] at hc
    obtain ⟨rfl, rfl, _⟩ := hc
    refine ⟨hb, fun j hj v hv r hr => ?_⟩
    have h1 := hT.cell (N + j) (by omega)
    rw [loc_hi] at h1
    obtain rfl := Option.some.inj (h1.symm.trans hv)
    exact Nat.le_trans hB ((hT.own (N + j) (by omega)).lt r hr).1

/-- A map that has been read and asked nothing yet. -/
theorem up_ready {F b g cap R C : Nat} {ms : List UInt8} {w : World} (h : w.heap[b]? = some (.cells (cellsE R C (.slice (some ⟨g, 0, none⟩) ms.length cap) 0 0 (.slice none 0 0) (.slice none 0 0) 0) 64 (0, 0))) : Up F b w := by
  rintro f (rfl | rfl) q n c hc <;> (rw [blk_cell h] at hc; simp [cellsE] at hc)

/-- Another map's block turns: this map stands. -/
theorem EM.beside {F b b' g cap R C : Nat} {ms : List UInt8} {w w' : World} (h : EM b g cap R C ms w) (hu : Up F b w) (hg : w.grownBy w' (some b')) (hF : b' < F) (h1 : b ≠ b') (h2 : g ≠ b') (h3 : 0 ≠ b') :
    EM b g cap R C ms w' ∧ Up F b w' := by
  have hbk : ∀ k, k < w.heap.size → k ≠ b' → w'.heap[k]? = w.heap[k]? := fun k hk hne => hg.block k hk (fun e => hne (by injection e))
  have hblt : b < w.heap.size := World.block_lt_of_cell? w ⟨b, 0, none⟩ h.c0
  have hcb : ∀ j, w'.cell? ⟨b, j, none⟩ = w.cell? ⟨b, j, none⟩ := fun j => World.cell?_of_block (a := ⟨b, j, none⟩) (hbk b hblt h1)
  refine ⟨?_, ?_⟩
  · exact
      { ways := fun j u hj => hg.cell (h.ways j u hj) (fun e => h3 (by injection e))
        wb := h.wb
        gb := h.gb
        hC := h.hC
        hC2 := h.hC2
        hR := h.hR
        hN := h.hN
        mark := fun u hu => hg.cell (h.mark u hu) (fun e => h2 (by injection e))
        c0 := (hcb 0).trans h.c0
        c1 := (hcb 1).trans h.c1
        c2 := (hcb 2).trans h.c2
        st := by
          rcases h.st with hr | hd
          · exact .inl ((hbk b hblt h1).trans hr)
          · right
            obtain ⟨B, gn, gb, T, hT, h6, h7⟩ := hd.tables
            obtain ⟨u6, v6⟩ := hu 6 (.inl rfl) _ _ _ h6
            obtain ⟨u7, v7⟩ := hu 7 (.inr rfl) _ _ _ h7
            dsimp only at u6 u7 v6 v7
            refine ⟨(hcb 3).trans hd.c3, (hcb 8).trans hd.cnt, B, gn, gb, T, hT.kept hg (by intro e; injection e with e; omega) (by intro e; injection e with e; omega) (fun j hj => ?_), (hcb 6).trans h6, (hcb 7).trans h7⟩
            right
            intro e
            rcases Nat.lt_or_ge j ms.length with hj' | hj'
            · have hc := hT.cell j hj
              rw [loc_lo hj'] at hc
              have := v6 j hj' _ hc b' e
              omega
            · have hc := hT.cell j hj
              have e2 : loc gn gb ms.length j = ⟨gb, j - ms.length, none⟩ := by unfold loc; rw [if_neg (by omega)]
              rw [e2] at hc
              have := v7 (j - ms.length) (by omega) _ hc b' e
              omega }
  · intro f hf q n c hc
    rw [hcb f] at hc
    obtain ⟨k1, k2⟩ := hu f hf q n c hc
    refine ⟨k1, fun j hj v hv r hr => ?_⟩
    rcases Nat.lt_or_ge q.block w.heap.size with hq | hq
    · have := World.cell?_of_block (a := ⟨q.block, j, none⟩) (hbk q.block hq (by omega))
      rw [this] at hv
      exact k2 j hj v hv r hr
    · rcases h.st with hr' | hd
      · rcases hf with rfl | rfl <;> (rw [blk_cell hr'] at hc; simp [cellsE] at hc)
      · obtain ⟨B, gn, gb, T, hT, h6, h7⟩ := hd.tables
        rcases hf with rfl | rfl
        · rw [h6] at hc
          simp only [Option.some.injEq, Value.slice.injEq] at hc
          obtain ⟨rfl, _⟩ := hc
          have := hT.lt _ hT.hgn
          simp at hq; omega
        · rw [h7] at hc
          simp only [Option.some.injEq, Value.slice.injEq] at hc
          obtain ⟨rfl, _⟩ := hc
          have := hT.lt _ hT.hgb
          simp at hq; omega

set_option maxHeartbeats 1600000 in
theorem do_anyU {b g cap R C : Nat} {ms : List UInt8} {w : World} (h : EM b g cap R C ms w) :
    Calls Tryz.prog 73 #[.pointer (some ⟨b, 3, none⟩), .func (.func 74) #[.pointer (some ⟨b, 0, none⟩)] #[]] w fun e w' => e = .returned (.tuple #[]) ∧ EM b g cap R C ms w' ∧ Done b R C ms w' ∧ w.grownBy w' (some b) ∧ (Done b R C ms w → w' = w) ∧ (∀ F, F ≤ w.heap.size → Up F b w → Up F b w') := by
  rcases h.st with hb | hd
  · have e0 : w.cell? ⟨b, 3, none⟩ = some (.int .u32 0) := by rw [blk_cell hb]; rfl
    have e1 : w.cell? ⟨b, 4, none⟩ = some (.int .i32 0) := by rw [blk_cell hb]; rfl
    have hg1 := grown_set w b 4 (.int .i32 1)
    have hb1 : (w.setCell ⟨b, 4, none⟩ (.int .i32 1)).heap[b]? = some (.cells (cellsE R C (.slice (some ⟨g, 0, none⟩) ms.length cap) 0 1 (.slice none 0 0) (.slice none 0 0) 0) 64 (0, 0)) := by
      rw [blk_set hb]; rfl
    have hf := find_any b g cap R C ms (w.setCell ⟨b, 4, none⟩ (.int .i32 1)) h.hC h.hC2 h.hR h.hN (fun j u hj => hg1.cell (h.ways j u hj) (fun e => h.wb (by injection e))) h.wb h.gb (fun u hu => hg1.cell (h.mark u hu) (fun e => h.gb (by injection e))) hb1
    refine (do_first b (fun W => Found b R C ms (w.setCell ⟨b, 4, none⟩ (.int .i32 1)) W) w e0 e1 (blk_free hb 4) (hf.mono ?_)).mono ?_
    · rintro e W ⟨he, hF⟩
      exact ⟨he, hF, hF.low 3 (by omega) _ (by rw [blk_cell hb1]; rfl), hF.free 3, hF.low 4 (by omega) _ (by rw [blk_cell hb1]; rfl), hF.free 4⟩
    · rintro e w' ⟨W, hF, rfl, rfl⟩
      have k1 := grown_set W.drew b 3 (.int .u32 1)
      have k2 := grown_set (W.drew.setCell ⟨b, 3, none⟩ (.int .u32 1)) b 4 (.int .i32 0)
      have kW : W.grownBy ((W.drew.setCell ⟨b, 3, none⟩ (.int .u32 1)).setCell ⟨b, 4, none⟩ (.int .i32 0)) (some b) := grown_trans (grown_trans (World.drew_grown W _) k1) k2
      have hg : w.grownBy ((W.drew.setCell ⟨b, 3, none⟩ (.int .u32 1)).setCell ⟨b, 4, none⟩ (.int .i32 0)) (some b) := grown_trans (grown_trans hg1 hF.grown) kW
      have hc : ∀ j, j ≠ 3 → j ≠ 4 → ∀ v, W.cell? ⟨b, j, none⟩ = some v → ((W.drew.setCell ⟨b, 3, none⟩ (.int .u32 1)).setCell ⟨b, 4, none⟩ (.int .i32 0)).cell? ⟨b, j, none⟩ = some v := by
        intro j h3 h4 v hv
        rw [World.cell?_setCell_other _ ⟨b, 4, none⟩ ⟨b, j, none⟩ _ (by intro e; apply h4; cases e; rfl), World.cell?_setCell_other _ ⟨b, 3, none⟩ ⟨b, j, none⟩ _ (by intro e; apply h3; cases e; rfl), World.cell?_drew]
        exact hv
      have hd : Done b R C ms ((W.drew.setCell ⟨b, 3, none⟩ (.int .u32 1)).setCell ⟨b, 4, none⟩ (.int .i32 0)) := by
        obtain ⟨gn, gb, T, hT, h6, h7, l1, l2⟩ := hF.tables
        have hbw : b < w.heap.size := blk_lt hb
        have hs : (w.setCell ⟨b, 4, none⟩ (.int .i32 1)).heap.size = w.heap.size := by simp
        refine ⟨?_, hc 8 (by omega) (by omega) _ hF.cnt, _, gn, gb, T, hT.kept kW ?_ ?_ ?_, hc 6 (by omega) (by omega) _ h6, hc 7 (by omega) (by omega) _ h7⟩
        · rw [World.cell?_setCell_other _ ⟨b, 4, none⟩ ⟨b, 3, none⟩ _ (by simp)]
          exact World.cell?_setCell_same _ _ _ ((World.cell?_drew _ _).trans (hF.low 3 (by omega) _ (by rw [blk_cell hb1]; rfl)))
        · intro e; injection e with e; omega
        · intro e; injection e with e; omega
        · intro j hj
          right
          intro e
          have := ((hT.own j hj).lt b e).1
          omega
      have hF' := hF
      refine ⟨rfl, h.turned hg (hc 0 (by omega) (by omega) _ (hF.low 0 (by omega) _ (by rw [blk_cell hb1]; rfl))) (hc 1 (by omega) (by omega) _ (hF.low 1 (by omega) _ (by rw [blk_cell hb1]; rfl))) (hc 2 (by omega) (by omega) _ (hF.low 2 (by omega) _ (by rw [blk_cell hb1]; rfl))) hd, hd, hg, fun h' => (by have := h'.c3; rw [e0] at this; cases this), fun F hF _ => ?_⟩
      obtain ⟨gn, gb, T, hT, h6, h7, l1, l2⟩ := hF'.tables
      have hs : (w.setCell ⟨b, 4, none⟩ (.int .i32 1)).heap.size = w.heap.size := by simp
      have hbw : b < w.heap.size := blk_lt hb
      have hT' := hT.kept kW (by intro e; injection e with e; omega) (by intro e; injection e with e; omega) (fun j hj => .inr fun e => by have := ((hT.own j hj).lt b e).1; omega)
      exact up_of hT' (hc 6 (by omega) (by omega) _ h6) (hc 7 (by omega) (by omega) _ h7) (by omega) (by omega) (by omega)
  · refine (do_done b _ w hd.c3).mono ?_
    rintro e w' ⟨rfl, rfl⟩
    exact ⟨rfl, h, hd, ⟨rfl, rfl, rfl, Nat.le_refl _, fun _ _ _ => rfl⟩, fun _ => rfl, fun _ _ hu => hu⟩

/-- What Next and Back leave: a list of new memory. -/
def TabPostU (b g cap R C : Nat) (ms : List UInt8) (w : World) (i : Int) (l : List Nat) (e : Ending) (w' : World) : Prop :=
  ∃ v w1, e = .returned v ∧ EM b g cap R C ms w1 ∧ w.grownBy w1 (some b) ∧ (Done b R C ms w → w1 = w) ∧ (0 ≤ i ∧ i < (ms.length : Int) → Done b R C ms w1) ∧ (∀ F, F ≤ w.heap.size → Up F b w → Up F b w1) ∧ w'.ownsRow w1.heap.size 3 1 v l.length (l.map natV) ∧ Below w1.heap.size w1 w'


set_option maxHeartbeats 800000 in
theorem next_anyU {b g cap R C : Nat} {ms : List UInt8} {w : World} (i : Int) (h : EM b g cap R C ms w) :
    Calls Tryz.prog 49 #[.pointer (some ⟨b, 0, none⟩), .int .i64 i] w (TabPostU b g cap R C ms w i (nextZ R C ms i)) := by
  have hc2 := h.c2
  have hlen := h.len
  by_cases hi : 0 ≤ i ∧ i < (ms.length : Int)
  · obtain ⟨k, rfl⟩ := Int.eq_ofNat_of_zero_le hi.1
    have hk : k < ms.length := by omega
    have hl : nextZ R C ms (k : Int) = outs R C ms k := by unfold nextZ; rw [if_pos hi]; rfl
    rw [hl]
    have ho := outs_len R C ms k
    have hb : (decide (0 ≤ (k : Int)) && decide ((k : Int) < (ms.length : Int))) = true := by simp [hk]
    have HD : Hid (Calls Tryz.prog 73 #[.pointer (some ⟨b, 3, none⟩), .func (.func 74) #[.pointer (some ⟨b, 0, none⟩)] #[]] w fun e w' => e = .returned (.tuple #[]) ∧ EM b g cap R C ms w' ∧ Done b R C ms w' ∧ w.grownBy w' (some b) ∧ (Done b R C ms w → w' = w) ∧ (∀ F, F ≤ w.heap.size → Up F b w → Up F b w')) := do_anyU h
    have HN : Hid (∀ w', Done b R C ms w' → ∃ B gn v, w'.cell? ⟨b, 6, none⟩ = some (.slice (some ⟨gn, 0, none⟩) ms.length ms.length) ∧ w'.cell? ⟨gn, k, none⟩ = some v ∧ w'.ownsRow B 3 1 v (outs R C ms k).length ((outs R C ms k).map natV)) := fun w' hd => hd.next h.hC hk
    have hki : (k : Int) < (ms.length : Int) := by omega
    have hk0 : 0 ≤ (k : Int) := by omega
    have hone := nat_one (outs R C ms k)
    clear h hl hi
    go_enter Tryz.func49, Tryz.ntmps49
    go_wp2_with (first
      | (go_at_call 72; refine (has_any _ _ _ _ _ _ hc2).mono ?_; rintro e w' ⟨rfl, rfl⟩; rw [hb])
      | (go_at_call 73; (with_reducible refine HD.out.mono ?_); rintro e w1 ⟨rfl, hE, hDn, hg, hsm, hup⟩; have HU : Hid (∀ F, F ≤ w.heap.size → Up F b w → Up F b w1) := hup; clear hup; have HS : Hid (Done b R C ms w → w1 = w) := hsm; have HDn : Hid (Done b R C ms w1) := hDn; clear hsm; obtain ⟨B, gn, v, c6, ck, hown⟩ := HN.out w1 hDn; have HE : Hid (EM b g cap R C ms w1) := hE; have HG : Hid (w.grownBy w1 (some b)) := hg; clear hE hDn hg)
      | (go_at_call 61; (with_reducible refine (clone_any hown (by omega) hone).mono ?_); rintro e w2 ⟨v', rfl, hown2, hb2⟩))
    go_ret
    exact ⟨v', w1, rfl, HE.out, HG.out, HS.out, fun _ => HDn.out, HU.out, hown2, hb2⟩
  · have hl : nextZ R C ms i = [] := by unfold nextZ; rw [if_neg hi]
    rw [hl]
    have hb : (decide (0 ≤ i) && decide (i < (ms.length : Int))) = false := by
      rw [Bool.eq_false_iff]; intro e; apply hi; simpa using e
    have HE : Hid (EM b g cap R C ms w) := h
    have HI : Hid (¬ (0 ≤ i ∧ i < (ms.length : Int))) := hi
    clear h hl hi
    go_enter Tryz.func49, Tryz.ntmps49
    go_wp2_with (go_at_call 72; refine (has_any _ _ _ _ _ _ hc2).mono ?_; rintro e w' ⟨rfl, rfl⟩; rw [hb])
    go_ret
    exact ⟨_, w, rfl, HE.out, ⟨rfl, rfl, rfl, Nat.le_refl _, fun _ _ _ => rfl⟩, fun _ => rfl, fun h => (HI.out h).elim, fun _ _ hu => hu, World.ownsRow_nil _ _ _ _, Below.refl _ _⟩

set_option maxHeartbeats 800000 in
theorem back_anyU {b g cap R C : Nat} {ms : List UInt8} {w : World} (i : Int) (h : EM b g cap R C ms w) :
    Calls Tryz.prog 112 #[.pointer (some ⟨b, 0, none⟩), .int .i64 i] w (TabPostU b g cap R C ms w i (backZ R C ms i)) := by
  have hc2 := h.c2
  have hlen := h.len
  by_cases hi : 0 ≤ i ∧ i < (ms.length : Int)
  · obtain ⟨k, rfl⟩ := Int.eq_ofNat_of_zero_le hi.1
    have hk : k < ms.length := by omega
    have hl : backZ R C ms (k : Int) = ins R C ms k := by unfold backZ; rw [if_pos hi]; rfl
    rw [hl]
    have ho := ins_len R C ms k
    have hb : (decide (0 ≤ (k : Int)) && decide ((k : Int) < (ms.length : Int))) = true := by simp [hk]
    have HD : Hid (Calls Tryz.prog 73 #[.pointer (some ⟨b, 3, none⟩), .func (.func 74) #[.pointer (some ⟨b, 0, none⟩)] #[]] w fun e w' => e = .returned (.tuple #[]) ∧ EM b g cap R C ms w' ∧ Done b R C ms w' ∧ w.grownBy w' (some b) ∧ (Done b R C ms w → w' = w) ∧ (∀ F, F ≤ w.heap.size → Up F b w → Up F b w')) := do_anyU h
    have HN : Hid (∀ w', Done b R C ms w' → ∃ B gn v, w'.cell? ⟨b, 7, none⟩ = some (.slice (some ⟨gn, 0, none⟩) ms.length ms.length) ∧ w'.cell? ⟨gn, k, none⟩ = some v ∧ w'.ownsRow B 3 1 v (ins R C ms k).length ((ins R C ms k).map natV)) := fun w' hd => hd.back h.hC hk
    have hki : (k : Int) < (ms.length : Int) := by omega
    have hk0 : 0 ≤ (k : Int) := by omega
    have hone := nat_one (ins R C ms k)
    clear h hl hi
    go_enter Tryz.func112, Tryz.ntmps112
    go_wp2_with (first
      | (go_at_call 72; refine (has_any _ _ _ _ _ _ hc2).mono ?_; rintro e w' ⟨rfl, rfl⟩; rw [hb])
      | (go_at_call 73; (with_reducible refine HD.out.mono ?_); rintro e w1 ⟨rfl, hE, hDn, hg, hsm, hup⟩; have HU : Hid (∀ F, F ≤ w.heap.size → Up F b w → Up F b w1) := hup; clear hup; have HS : Hid (Done b R C ms w → w1 = w) := hsm; have HDn : Hid (Done b R C ms w1) := hDn; clear hsm; obtain ⟨B, gn, v, c6, ck, hown⟩ := HN.out w1 hDn; have HE : Hid (EM b g cap R C ms w1) := hE; have HG : Hid (w.grownBy w1 (some b)) := hg; clear hE hDn hg)
      | (go_at_call 61; (with_reducible refine (clone_any hown (by omega) hone).mono ?_); rintro e w2 ⟨v', rfl, hown2, hb2⟩))
    go_ret
    exact ⟨v', w1, rfl, HE.out, HG.out, HS.out, fun _ => HDn.out, HU.out, hown2, hb2⟩
  · have hl : backZ R C ms i = [] := by unfold backZ; rw [if_neg hi]
    rw [hl]
    have hb : (decide (0 ≤ i) && decide (i < (ms.length : Int))) = false := by
      rw [Bool.eq_false_iff]; intro e; apply hi; simpa using e
    have HE : Hid (EM b g cap R C ms w) := h
    have HI : Hid (¬ (0 ≤ i ∧ i < (ms.length : Int))) := hi
    clear h hl hi
    go_enter Tryz.func112, Tryz.ntmps112
    go_wp2_with (go_at_call 72; refine (has_any _ _ _ _ _ _ hc2).mono ?_; rintro e w' ⟨rfl, rfl⟩; rw [hb])
    go_ret
    exact ⟨_, w, rfl, HE.out, ⟨rfl, rfl, rfl, Nat.le_refl _, fun _ _ _ => rfl⟩, fun _ => rfl, fun h => (HI.out h).elim, fun _ _ hu => hu, World.ownsRow_nil _ _ _ _, Below.refl _ _⟩

set_option maxHeartbeats 800000 in
theorem medge_anyU {b g cap R C : Nat} {ms : List UInt8} {w : World} (i x : Int) (h : EM b g cap R C ms w) :
    Calls Tryz.prog 35 #[.pointer (some ⟨b, 0, none⟩), .int .i64 i, .int .i64 x] w fun e w' => e = .returned (.bool ((nextZ R C ms i).any (fun u => (u : Int) == x))) ∧ EM b g cap R C ms w' ∧ w.grownBy w' (some b) ∧ (∀ F, F ≤ w.heap.size → Up F b w → Up F b w') := by
  have hc2 := h.c2
  have hlen := h.len
  by_cases hi : 0 ≤ i ∧ i < (ms.length : Int)
  · obtain ⟨k, rfl⟩ := Int.eq_ofNat_of_zero_le hi.1
    have hk : k < ms.length := by omega
    have hl : nextZ R C ms (k : Int) = outs R C ms k := by unfold nextZ; rw [if_pos hi]; rfl
    rw [hl]
    have ho := outs_len R C ms k
    have hb : (decide (0 ≤ (k : Int)) && decide ((k : Int) < (ms.length : Int))) = true := by simp [hk]
    have HD : Hid (Calls Tryz.prog 73 #[.pointer (some ⟨b, 3, none⟩), .func (.func 74) #[.pointer (some ⟨b, 0, none⟩)] #[]] w fun e w' => e = .returned (.tuple #[]) ∧ EM b g cap R C ms w' ∧ Done b R C ms w' ∧ w.grownBy w' (some b) ∧ (Done b R C ms w → w' = w) ∧ (∀ F, F ≤ w.heap.size → Up F b w → Up F b w')) := do_anyU h
    have HN : Hid (∀ w', Done b R C ms w' → ∃ B gn v, w'.cell? ⟨b, 6, none⟩ = some (.slice (some ⟨gn, 0, none⟩) ms.length ms.length) ∧ w'.cell? ⟨gn, k, none⟩ = some v ∧ w'.ownsRow B 3 1 v (outs R C ms k).length ((outs R C ms k).map natV)) := fun w' hd => hd.next h.hC hk
    have HC : Hid (∀ w' B v, w'.ownsRow B 3 1 v (outs R C ms k).length ((outs R C ms k).map natV) → Calls Tryz.prog 75 #[v, .int .i64 x] w' fun e w'' => e = .returned (.bool ((outs R C ms k).any (fun u => (u : Int) == x))) ∧ w' = w'') := fun w' B v ho' => contains_any ho' x (by omega)
    have hki : (k : Int) < (ms.length : Int) := by omega
    have hk0 : 0 ≤ (k : Int) := by omega
    clear h hl hi
    generalize (outs R C ms k).any (fun u => (u : Int) == x) = r at HC ⊢
    go_enter Tryz.func35, Tryz.ntmps35
    go_wp2_with (first
      | (go_at_call 72; refine (has_any _ _ _ _ _ _ hc2).mono ?_; rintro e w' ⟨rfl, rfl⟩; rw [hb])
      | (go_at_call 73; (with_reducible refine HD.out.mono ?_); rintro e w1 ⟨rfl, hE, hDn, hg, hsm, hup⟩; have HU : Hid (∀ F, F ≤ w.heap.size → Up F b w → Up F b w1) := hup; clear hup; have HS : Hid (Done b R C ms w → w1 = w) := hsm; have HDn : Hid (Done b R C ms w1) := hDn; clear hsm; obtain ⟨B, gn, v, c6, ck, hown⟩ := HN.out w1 hDn; have HE : Hid (EM b g cap R C ms w1) := hE; have HG : Hid (w.grownBy w1 (some b)) := hg; clear hE hDn hg)
      | (go_at_call 75; (with_reducible refine (HC.out _ _ _ hown).mono ?_); rintro e w2 ⟨rfl, rfl⟩))
    go_ret
    exact ⟨rfl, HE.out, HG.out, HU.out⟩
  · have hl : nextZ R C ms i = [] := by unfold nextZ; rw [if_neg hi]
    rw [hl]
    have hb : (decide (0 ≤ i) && decide (i < (ms.length : Int))) = false := by
      rw [Bool.eq_false_iff]; intro e; apply hi; simpa using e
    have HE : Hid (EM b g cap R C ms w) := h
    clear h hl hi
    go_enter Tryz.func35, Tryz.ntmps35
    go_wp2_with (go_at_call 72; refine (has_any _ _ _ _ _ _ hc2).mono ?_; rintro e w' ⟨rfl, rfl⟩; rw [hb])
    go_ret
    exact ⟨rfl, HE.out, ⟨rfl, rfl, rfl, Nat.le_refl _, fun _ _ _ => rfl⟩, fun _ _ hu => hu⟩

set_option maxHeartbeats 800000 in
theorem edges_anyU {b g cap R C : Nat} {ms : List UInt8} {w : World} (h : EM b g cap R C ms w) :
    Calls Tryz.prog 37 #[.pointer (some ⟨b, 0, none⟩)] w fun e w' => e = .returned (.int .i64 (eds R C ms ms.length : Int)) ∧ EM b g cap R C ms w' ∧ w.grownBy w' (some b) ∧ (∀ F, F ≤ w.heap.size → Up F b w → Up F b w') := by
  have HD : Hid (Calls Tryz.prog 73 #[.pointer (some ⟨b, 3, none⟩), .func (.func 74) #[.pointer (some ⟨b, 0, none⟩)] #[]] w fun e w' => e = .returned (.tuple #[]) ∧ EM b g cap R C ms w' ∧ Done b R C ms w' ∧ w.grownBy w' (some b) ∧ (Done b R C ms w → w' = w) ∧ (∀ F, F ≤ w.heap.size → Up F b w → Up F b w')) := do_anyU h
  clear h
  go_enter Tryz.func37, Tryz.ntmps37
  go_wp2_with (go_at_call 73; (with_reducible refine HD.out.mono ?_); rintro e w1 ⟨rfl, hE, hDn, hg, hsm, hup⟩; have HU : Hid (∀ F, F ≤ w.heap.size → Up F b w → Up F b w1) := hup; clear hup; have HS : Hid (Done b R C ms w → w1 = w) := hsm; clear hsm; have c8 := hDn.cnt; have HE : Hid (EM b g cap R C ms w1) := hE; have HG : Hid (w.grownBy w1 (some b)) := hg; clear hE hDn hg)
  go_ret
  exact ⟨rfl, HE.out, HG.out, HU.out⟩
end Go.Proofs.YtekhlaodlagbdaaGreatDoor
