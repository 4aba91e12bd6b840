/-
  Who waits is told, and taken out (where the cell can be granted: one at most).
-/
import Derived.Test.YtlmbbnkdiokabaaDoorLg7
import Derived.Test.YtlmbbnkdiokabaaDoorTk
import Derived.RangeFuncNested
import Derived.RangeFuncBound
import Derived.RangeFuncCalls
import Derived.RangeFuncLeaves
import Derived.OwnWalkIn
import Derived.TacticsInMore
import Derived.LoopNIn
import Derived.LoopIn
namespace Go.Proofs.YtlmbbnkdiokabaaDoor
set_option maxRecDepth 100000
set_option linter.unusedSimpArgs false
open Go Go.RowKit Sp Lg
attribute [local go_sem] Oper.semAt_some

theorem blk_wt {w : World} {k : Nat} {a1 a2 a3 b1 b2 b3 : Value} {t : TypeId} (h : w.heap[k]? = some (.cells #[a1, a2, a3] t (0, 0))) :
    (((w.setCell ⟨k, 0, none⟩ b1).setCell ⟨k, 1, none⟩ b2).setCell ⟨k, 2, none⟩ b3).heap[k]? = some (.cells #[b1, b2, b3] t (0, 0)) := blk_rec h
/-- What the iterator is asked of the world at its beginning. -/
def TkW (bl bc b mq : Nat) (c : Int) (p : Option Addr) (y : Wt) (is : Bool) (V : World) : Prop :=
  V.cell? ⟨bl, 0, none⟩ = some (.pointer (some ⟨b, 0, none⟩)) ∧ V.cell? ⟨bc, 0, none⟩ = some (.int .i64 c) ∧ V.cell? ⟨b, 4, none⟩ = some (.map (some mq)) ∧
  (Instr.lookup 85 (.map (some mq)) (.int .i64 c) false).run Tryd.prog V = .ok (.pointer p) V ∧
  Calls Tryd.prog 64 #[.pointer p] V fun e w' => e = .returned (.tuple #[.agg #[.int .i64 y.r, .int .u64 y.s, .int .i64 y.p], .bool is]) ∧ Below V.heap.size V w'
theorem TkW.first {bl bc b mq : Nat} {c : Int} {p : Option Addr} {y : Wt} {is : Bool} {V : World} (h : TkW bl bc b mq c p y is V) : Calls Tryd.prog 64 #[.pointer p] V fun e w' => e = .returned (.tuple #[.agg #[.int .i64 y.r, .int .u64 y.s, .int .i64 y.p], .bool is]) ∧ Below V.heap.size V w' := h.2.2.2.2
set_option maxHeartbeats 4000000 in
theorem taken_one (n l bl bc b mq : Nat) (c : Int) (hn : 1 ≤ n) {W : World} {p : Option Addr} {y : Wt} {is : Bool} {J : World → Prop} {Jx : World → Prop}
    (h1 : ∀ V, Below W.heap.size W V → TkW bl bc b mq c p y is V)
    (h2 : is = true → ∀ V, Below W.heap.size W V → Calls Tryd.prog 65 #[.pointer (some ⟨b, 0, none⟩), .int .i64 c, .int .i64 y.r] V fun e V' => e = .returned (.tuple #[]) ∧ (∀ (k : Nat) (cur : Array Value), V.heap[k]? = some (Obj.cells cur 71 (0, 0)) → V'.heap[k]? = some (Obj.cells cur 71 (0, 0))) ∧ J V')
    (h3 : ∀ V, J V → YieldAt Fence.wide (n - 1) Tryd.prog l #[.agg #[.int .i64 y.r, .int .u64 y.s, .int .i64 y.p]] V fun e V' => e = .returned (.bool false) ∧ Jx V') :
    CallsIn Fence.wide n Tryd.prog 79 #[.func (.yield l) #[] #[], .pointer (some ⟨bl, 0, none⟩), .pointer (some ⟨bc, 0, none⟩)] W fun e W' => (∃ v, e = .returned v) ∧ ((is = false ∧ Below W.heap.size W W') ∨ (is = true ∧ Jx W')) := by
  have H1 := Lib.hid h1
  have H2 := Lib.hid h2
  have H3 := Lib.hid h3
  clear h1 h2 h3
  obtain ⟨R, hR⟩ : ∃ R : Ending → World → Prop, R = fun e W' => (∃ v, e = .returned v) ∧ ((is = false ∧ Below W.heap.size W W') ∨ (is = true ∧ Jx W')) := ⟨_, rfl⟩
  have HR1 : Hid (∀ W', is = false → Below W.heap.size W W' → R (.returned (.tuple #[])) W') := by rw [hR]; exact fun W' h1 h2 => ⟨⟨_, rfl⟩, .inl ⟨h1, h2⟩⟩
  have HR2 : Hid (∀ W', is = true → Jx W' → R (.returned (.tuple #[])) W') := by rw [hR]; exact fun W' h1 h2 => ⟨⟨_, rfl⟩, .inr ⟨h1, h2⟩⟩
  rw [← hR]
  clear hR
  obtain ⟨y0, y1, y2⟩ := y
  dsimp only at *
  have hb : Below W.heap.size W W.drew := (Below.refl _ W).drew
  have HSt : ∀ (V : World) (tw : Nat) (v0 v1 v2 : Value), Below W.heap.size W V → W.heap.size ≤ tw → Below W.heap.size W (((V.setCell ⟨tw, 0, none⟩ v0).setCell ⟨tw, 1, none⟩ v1).setCell ⟨tw, 2, none⟩ v2) := by
    intro V tw v0 v1 v2 h1 h2
    exact h1.trans (((((Kept.refl (fun k => k = tw) V).setCell (p := ⟨tw, 0, none⟩) (.inl rfl) v0).setCell (p := ⟨tw, 1, none⟩) (.inl rfl) v1).setCell (p := ⟨tw, 2, none⟩) (.inl rfl) v2).below (fun k e => by rw [e]; exact h2) h1.size)
  refine callsIn_of_wp Tryd.func79 rfl trivial ?_ rfl
  simp only [Tryd.ntmps79, List.size_toArray, List.length_cons, List.length_nil, Nat.reduceAdd, Nat.reduceSub, Array.replicate_succ, Array.replicate_zero, List.push_toArray, List.append_toArray, List.nil_append, List.cons_append]
  gi_wp2
  refine wpIn_wide.2 ?_
  refine wp_region_held_drew (S := fun V => Below W.heap.size W V) (by kernel_rfl) hb (fun hHeld => ?_)
  simp only [List.size_toArray, List.length_cons, List.length_nil, Nat.reduceAdd, Array.replicate_succ, Array.replicate_zero, List.push_toArray, List.nil_append, List.cons_append, List.append_toArray]
  refine take_op (i := 0) (v := ?_) rfl (by kernel_rfl) (by kernel_rfl) (by kernel_rfl) (fun _ _ _ h => h) (Or.inl ⟨by rfl, ?_⟩) (by assumption) ?_
  rotate_left
  · (intro w' hSw; obtain ⟨hS1, hS2, hS3, hS4, _⟩ := H1.out w' hSw; go_simp; (try with_reducible rfl))
  simp only [Act.put, List.setIfInBounds_toArray, List.set_cons_zero, List.set_cons_succ]
  refine take_op (i := 1) (v := ?_) rfl (by kernel_rfl) (by kernel_rfl) (by kernel_rfl) (fun _ _ _ h => h) (Or.inl ⟨by rfl, ?_⟩) (by assumption) ?_
  rotate_left
  · (intro w' hSw; go_simp; (try with_reducible rfl))
  simp only [Act.put, List.setIfInBounds_toArray, List.set_cons_zero, List.set_cons_succ]
  refine take_op (i := 2) (v := ?_) rfl (by kernel_rfl) (by kernel_rfl) (by kernel_rfl) (fun _ _ _ h => h) (Or.inl ⟨by rfl, ?_⟩) (by assumption) ?_
  rotate_left
  · (intro w' hSw; go_simp; (try with_reducible rfl))
  simp only [Act.put, List.setIfInBounds_toArray, List.set_cons_zero, List.set_cons_succ]
  refine take_op (i := 3) (v := ?_) rfl (by kernel_rfl) (by kernel_rfl) (by kernel_rfl) (fun _ _ _ h => h) (Or.inl ⟨by rfl, ?_⟩) (by assumption) ?_
  rotate_left
  · (intro w' hSw; obtain ⟨hS1, hS2, hS3, hS4, _⟩ := H1.out w' hSw; go_simp; (try with_reducible rfl))
  simp only [Act.put, List.setIfInBounds_toArray, List.set_cons_zero, List.set_cons_succ]
  refine take_op (i := 4) (v := ?_) rfl (by kernel_rfl) (by kernel_rfl) (by kernel_rfl) (fun _ _ _ h => h) (Or.inl ⟨by rfl, ?_⟩) (by assumption) ?_
  rotate_left
  · (intro w' hSw; obtain ⟨hS1, hS2, hS3, hS4, _⟩ := H1.out w' hSw; go_simp; (try with_reducible rfl))
  simp only [Act.put, List.setIfInBounds_toArray, List.set_cons_zero, List.set_cons_succ]
  refine take_op (i := 5) (v := ?_) rfl (by kernel_rfl) (by kernel_rfl) (by kernel_rfl) (fun _ _ _ h => h) (Or.inl ⟨by rfl, ?_⟩) (by assumption) ?_
  rotate_left
  · (intro w' hSw; obtain ⟨hS1, hS2, hS3, hS4, _⟩ := H1.out w' hSw; go_simp; (try with_reducible rfl))
  simp only [Act.put, List.setIfInBounds_toArray, List.set_cons_zero, List.set_cons_succ]
  refine wpAnyH_ready (rs := [6, 10]) (by kernel_rfl) (by simp) ?_
  refine cons_op rfl (fun K hK => ?_) (cons_op rfl (fun K hK => ?_) AllReadyH.nil)
  · go_simp
    with_reducible refine (TkW.first (H1.out _ hb)).mono ?_
    rintro e w6 ⟨rfl, hu6⟩
    have hb6 := hb.trans (hu6.mono hb.size)
    (try go_wp2_with fail)
    refine hK.out _ _ hb6 (fun hHeld => ?_)
    clear hK K
    (try simp only [Act.put, List.setIfInBounds_toArray, List.set_cons_zero, List.set_cons_succ])
    refine take_op (i := 7) (v := ?_) rfl (by kernel_rfl) (by kernel_rfl) (by kernel_rfl) (fun _ _ _ h => h) (Or.inl ⟨by rfl, ?_⟩) (by assumption) ?_
    rotate_left
    · (intro w' hSw; go_simp; (try with_reducible rfl))
    simp only [Act.put, List.setIfInBounds_toArray, List.set_cons_zero, List.set_cons_succ]
    refine take_op (i := 8) (v := ?_) rfl (by kernel_rfl) (by kernel_rfl) (by kernel_rfl) (fun _ _ _ h => h) (Or.inl ⟨by rfl, ?_⟩) (by assumption) ?_
    rotate_left
    · (intro w' hSw; go_simp; (try with_reducible rfl))
    simp only [Act.put, List.setIfInBounds_toArray, List.set_cons_zero, List.set_cons_succ]
    refine take_op (i := 9) (v := ?_) rfl (by kernel_rfl) (by kernel_rfl) (by kernel_rfl) (fun _ _ _ h => h) (Or.inl ⟨by rfl, ?_⟩) (by assumption) ?_
    rotate_left
    · (intro w' hSw; go_simp; (try with_reducible rfl))
    simp only [Act.put, List.setIfInBounds_toArray, List.set_cons_zero, List.set_cons_succ]
    refine wpAnyH_ready (rs := [10]) (by kernel_rfl) (by simp) ?_
    refine cons_op rfl (fun K hK => ?_) AllReadyH.nil
    · go_simp
      refine hK.out _ _ (hb6.trans ((alloc_below _ _).mono hb6.size)) (fun hHeld => ?_)
      clear hK K
      (try simp only [Act.put, List.setIfInBounds_toArray, List.set_cons_zero, List.set_cons_succ])
      have hz10 := World.alloc_heap_new w6 (.cells #[.int .i64 0, .int .u64 0, .int .i64 0] 71)
      have hb10 := hb6.trans ((alloc_below w6 (.cells #[.int .i64 0, .int .u64 0, .int .i64 0] 71)).mono hb6.size)
      refine wpAnyH_ready (rs := [11]) (by kernel_rfl) (by simp) ?_
      refine cons_op rfl (fun K hK => ?_) AllReadyH.nil
      · skip
        go_simp
        refine hK.out _ _ (hb6.trans ((alloc_below _ _).mono hb6.size)) (fun hHeld => ?_)
        clear hK K
        (try simp only [Act.put, List.setIfInBounds_toArray, List.set_cons_zero, List.set_cons_succ])
        refine take_op (i := 12) (v := ?_) rfl (by kernel_rfl) (by kernel_rfl) (by kernel_rfl) (fun _ _ _ h => h) (Or.inl ⟨by rfl, ?_⟩) (by assumption) ?_
        rotate_left
        · (intro w' hSw; go_simp; (try with_reducible rfl))
        simp only [Act.put, List.setIfInBounds_toArray, List.set_cons_zero, List.set_cons_succ]
        refine wpAnyH_done (by kernel_rfl) ?_ _
        have hbV : Below W.heap.size W (w6.alloc (.cells #[.int .i64 y0, .int .u64 y1, .int .i64 y2] 71)) := hb6.trans ((alloc_below _ _).mono hb6.size)
        have hzV : (w6.alloc (.cells #[.int .i64 y0, .int .u64 y1, .int .i64 y2] 71)).heap[w6.heap.size]? = some (.cells #[.int .i64 y0, .int .u64 y1, .int .i64 y2] 71 (0, 0)) := World.alloc_heap_new w6 _
        generalize (w6.alloc (.cells #[.int .i64 y0, .int .u64 y1, .int .i64 y2] 71)) = V at *
        generalize w6.heap.size = tw at *
        clear hb HSt hHeld
        obtain ⟨k1, k2, _, _, _⟩ := H1.out V hbV
        have l0 : V.cell? ⟨tw, 0, none⟩ = some (.int .i64 y0) := by rw [blk_cell hzV]; rfl
        cases is with
        | false =>
          have HF := Lib.hid (HR1.out V rfl hbV)
          gi_wp2
          gi_loopw [4, 5] (fun t i wr => t = .pointer (some ⟨tw, 0, none⟩) ∧ i = .bool false ∧ wr = V) (fun _ _ _ => 0)
          case atStart => exact ⟨rfl, rfl, rfl⟩
          case round =>
            obtain ⟨rfl, rfl, rfl⟩ := hrel
            gi_wp2
            exact bodyPost_end (results_none rfl _ _ _) rfl HF.out
        | true =>
          have HC : Hid (Calls Tryd.prog 65 #[.pointer (some ⟨b, 0, none⟩), .int .i64 c, .int .i64 y0] V fun e V' => e = .returned (.tuple #[]) ∧ (V'.cell? ⟨tw, 0, none⟩ = some (.int .i64 y0) ∧ V'.cell? ⟨tw, 1, none⟩ = some (.int .u64 y1) ∧ V'.cell? ⟨tw, 2, none⟩ = some (.int .i64 y2)) ∧ J V') := by
            refine (H2.out rfl V hbV).mono ?_
            rintro e V' ⟨rfl, h4, h5⟩
            have h6 := h4 tw _ hzV
            exact ⟨rfl, ⟨by rw [blk_cell h6]; rfl, by rw [blk_cell h6]; rfl, by rw [blk_cell h6]; rfl⟩, h5⟩
          gi_wp2
          gi_loopw [4, 5] (fun t i wr => t = .pointer (some ⟨tw, 0, none⟩) ∧ i = .bool true ∧ wr = V) (fun _ _ _ => 0)
          case atStart => exact ⟨rfl, rfl, rfl⟩
          case round =>
            obtain ⟨rfl, rfl, rfl⟩ := hrel
            gi_wp2_with fail
            refine ⟨trivial, (callsIn_wide.2 HC.out).mono ?_⟩
            rintro e V' ⟨rfl, ⟨m0, m1, m2⟩, hJ⟩
            obtain ⟨fn, tmps, assign, body, hy, hYR⟩ := H3.out V' hJ
            have HYR := Lib.hid hYR
            clear hJ hYR HC H1 H2 H3 HR1
            gi_wp2
            refine HYR.out.mono ?_
            rintro e V2 ⟨rfl, hx⟩
            have HF := Lib.hid (HR2.out V2 (by simp) hx)
            clear hx HYR
            gi_wp2
            exact bodyPost_ret (results_none rfl _ _ _) rfl HF.out
  · go_simp
    refine hK.out _ _ ((alloc_below _ _).drew) (fun hHeld => ?_)
    clear hK K
    (try simp only [Act.put, List.setIfInBounds_toArray, List.set_cons_zero, List.set_cons_succ])
    have hz10 : (W.alloc (.cells #[.int .i64 0, .int .u64 0, .int .i64 0] 71)).drew.heap[W.heap.size]? = some (.cells #[.int .i64 0, .int .u64 0, .int .i64 0] 71 (0, 0)) := World.alloc_heap_new W _
    have hb10 : Below W.heap.size W (W.alloc (.cells #[.int .i64 0, .int .u64 0, .int .i64 0] 71)).drew := (alloc_below W _).drew
    refine wpAnyH_ready (rs := [6]) (by kernel_rfl) (by simp) ?_
    refine cons_op rfl (fun K hK => ?_) AllReadyH.nil
    · go_simp
      with_reducible refine (TkW.first (H1.out _ hb10)).mono ?_
      rintro e w6 ⟨rfl, hu6⟩
      have hb6 := hb10.trans (hu6.mono hb10.size)
      have hz6 := (hu6.block _ (blk_lt hz10)).trans hz10
      (try go_wp2_with fail)
      refine hK.out _ _ hb6 (fun hHeld => ?_)
      clear hK K
      (try simp only [Act.put, List.setIfInBounds_toArray, List.set_cons_zero, List.set_cons_succ])
      refine take_op (i := 7) (v := ?_) rfl (by kernel_rfl) (by kernel_rfl) (by kernel_rfl) (fun _ _ _ h => h) (Or.inl ⟨by rfl, ?_⟩) (by assumption) ?_
      rotate_left
      · (intro w' hSw; go_simp; (try with_reducible rfl))
      simp only [Act.put, List.setIfInBounds_toArray, List.set_cons_zero, List.set_cons_succ]
      refine take_op (i := 8) (v := ?_) rfl (by kernel_rfl) (by kernel_rfl) (by kernel_rfl) (fun _ _ _ h => h) (Or.inl ⟨by rfl, ?_⟩) (by assumption) ?_
      rotate_left
      · (intro w' hSw; go_simp; (try with_reducible rfl))
      simp only [Act.put, List.setIfInBounds_toArray, List.set_cons_zero, List.set_cons_succ]
      refine take_op (i := 9) (v := ?_) rfl (by kernel_rfl) (by kernel_rfl) (by kernel_rfl) (fun _ _ _ h => h) (Or.inl ⟨by rfl, ?_⟩) (by assumption) ?_
      rotate_left
      · (intro w' hSw; go_simp; (try with_reducible rfl))
      simp only [Act.put, List.setIfInBounds_toArray, List.set_cons_zero, List.set_cons_succ]
      refine wpAnyH_ready (rs := [11]) (by kernel_rfl) (by simp) ?_
      refine cons_op rfl (fun K hK => ?_) AllReadyH.nil
      · have lz0 := blk_cell hz6 0
        have lz1 := blk_cell hz6 1
        have lz2 := blk_cell hz6 2
        have fz := blk_free hz6
        simp only [List.getElem?_toArray, List.getElem?_cons_zero, List.getElem?_cons_succ] at lz0 lz1 lz2
        go_simp
        refine hK.out _ _ (HSt _ _ _ _ _ hb6 (Nat.le_refl _)) (fun hHeld => ?_)
        clear hK K
        (try simp only [Act.put, List.setIfInBounds_toArray, List.set_cons_zero, List.set_cons_succ])
        refine take_op (i := 12) (v := ?_) rfl (by kernel_rfl) (by kernel_rfl) (by kernel_rfl) (fun _ _ _ h => h) (Or.inl ⟨by rfl, ?_⟩) (by assumption) ?_
        rotate_left
        · (intro w' hSw; go_simp; (try with_reducible rfl))
        simp only [Act.put, List.setIfInBounds_toArray, List.set_cons_zero, List.set_cons_succ]
        refine wpAnyH_done (by kernel_rfl) ?_ _
        have hbV : Below W.heap.size W (((w6.setCell ⟨W.heap.size, 0, none⟩ (.int .i64 y0)).setCell ⟨W.heap.size, 1, none⟩ (.int .u64 y1)).setCell ⟨W.heap.size, 2, none⟩ (.int .i64 y2)) := HSt _ _ _ _ _ hb6 (Nat.le_refl _)
        have hzV : (((w6.setCell ⟨W.heap.size, 0, none⟩ (.int .i64 y0)).setCell ⟨W.heap.size, 1, none⟩ (.int .u64 y1)).setCell ⟨W.heap.size, 2, none⟩ (.int .i64 y2)).heap[W.heap.size]? = some (.cells #[.int .i64 y0, .int .u64 y1, .int .i64 y2] 71 (0, 0)) := blk_wt hz6
        generalize (((w6.setCell ⟨W.heap.size, 0, none⟩ (.int .i64 y0)).setCell ⟨W.heap.size, 1, none⟩ (.int .u64 y1)).setCell ⟨W.heap.size, 2, none⟩ (.int .i64 y2)) = V at *
        generalize W.heap.size = tw at *
        clear hb HSt hHeld
        obtain ⟨k1, k2, _, _, _⟩ := H1.out V hbV
        have l0 : V.cell? ⟨tw, 0, none⟩ = some (.int .i64 y0) := by rw [blk_cell hzV]; rfl
        cases is with
        | false =>
          have HF := Lib.hid (HR1.out V rfl hbV)
          gi_wp2
          gi_loopw [4, 5] (fun t i wr => t = .pointer (some ⟨tw, 0, none⟩) ∧ i = .bool false ∧ wr = V) (fun _ _ _ => 0)
          case atStart => exact ⟨rfl, rfl, rfl⟩
          case round =>
            obtain ⟨rfl, rfl, rfl⟩ := hrel
            gi_wp2
            exact bodyPost_end (results_none rfl _ _ _) rfl HF.out
        | true =>
          have HC : Hid (Calls Tryd.prog 65 #[.pointer (some ⟨b, 0, none⟩), .int .i64 c, .int .i64 y0] V fun e V' => e = .returned (.tuple #[]) ∧ (V'.cell? ⟨tw, 0, none⟩ = some (.int .i64 y0) ∧ V'.cell? ⟨tw, 1, none⟩ = some (.int .u64 y1) ∧ V'.cell? ⟨tw, 2, none⟩ = some (.int .i64 y2)) ∧ J V') := by
            refine (H2.out rfl V hbV).mono ?_
            rintro e V' ⟨rfl, h4, h5⟩
            have h6 := h4 tw _ hzV
            exact ⟨rfl, ⟨by rw [blk_cell h6]; rfl, by rw [blk_cell h6]; rfl, by rw [blk_cell h6]; rfl⟩, h5⟩
          gi_wp2
          gi_loopw [4, 5] (fun t i wr => t = .pointer (some ⟨tw, 0, none⟩) ∧ i = .bool true ∧ wr = V) (fun _ _ _ => 0)
          case atStart => exact ⟨rfl, rfl, rfl⟩
          case round =>
            obtain ⟨rfl, rfl, rfl⟩ := hrel
            gi_wp2_with fail
            refine ⟨trivial, (callsIn_wide.2 HC.out).mono ?_⟩
            rintro e V' ⟨rfl, ⟨m0, m1, m2⟩, hJ⟩
            obtain ⟨fn, tmps, assign, body, hy, hYR⟩ := H3.out V' hJ
            have HYR := Lib.hid hYR
            clear hJ hYR HC H1 H2 H3 HR1
            gi_wp2
            refine HYR.out.mono ?_
            rintro e V2 ⟨rfl, hx⟩
            have HF := Lib.hid (HR2.out V2 (by simp) hx)
            clear hx HYR
            gi_wp2
            exact bodyPost_ret (results_none rfl _ _ _) rfl HF.out
end Go.Proofs.YtlmbbnkdiokabaaDoor
