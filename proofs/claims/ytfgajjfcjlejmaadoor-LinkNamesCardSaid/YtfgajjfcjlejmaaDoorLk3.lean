/-
  A link's packets.
-/
import Derived.Test.YtfgajjfcjlejmaaDoorLk2
import Derived.Test.YtfgajjfcjlejmaaDoorPkw
import Derived.Test.YtfgajjfcjlejmaaDoorTk
namespace Go.Proofs.YtfgajjfcjlejmaaDoor
set_option maxRecDepth 100000
set_option linter.unusedSimpArgs false
open Go Go.RowKit Wr
attribute [local go_sem] Oper.semAt_some

theorem LnkAt.win {w : World} {T S : Nat → Prop} {o N : Nat} {s : Lk.S} (h : LnkAt w T S o N s) : ∃ f, WinAt w o f s.l s.e := by
  obtain ⟨⟨v, E, mb, h1, h2, _⟩, _⟩ := h
  exact ⟨fun i => (objL s v mb).getD i undef, h2⟩

set_option maxHeartbeats 4000000 in
/-- A packet, as it is sent now. -/
theorem packet_any {w : World} {T S : Nat → Prop} {o N : Nat} {s : Lk.S} (h : LnkAt w T S o N s) (m : Msg) {T2 : Nat → Prop} {A : Option Addr} {cap : Nat} (hc : ClT w T2 A m.claims cap) (hl : m.claims.length ≤ 100000) (sq : Nat) :
    Calls Tryd.prog 43 #[.pointer (some ⟨o, 0, none⟩), .int .u32 (sq : Nat), msgA m A m.claims.length cap] w fun e w' => ∃ A' cap', e = .returned (pktA (Lk.mk s sq m) A' m.claims.length cap') ∧ w'.ownsRow w.heap.size 138 2 (.slice A' m.claims.length cap') m.claims.length (csC m.claims) ∧ Below w.heap.size w w' := by
  obtain ⟨P, hP⟩ : ∃ P : Ending → World → Prop, P = fun e w' => ∃ A' cap', e = .returned (pktA (Lk.mk s sq m) A' m.claims.length cap') ∧ w'.ownsRow w.heap.size 138 2 (.slice A' m.claims.length cap') m.claims.length (csC m.claims) ∧ Below w.heap.size w w' := ⟨_, rfl⟩
  have HP : Hid (∀ A' cap' w', w'.ownsRow (w.heap.size + 2) 138 2 (.slice A' m.claims.length cap') m.claims.length (csC m.claims) → Below w.heap.size w w' → P (.returned (pktA (Lk.mk s sq m) A' m.claims.length cap')) w') := by
    rw [hP]; intro A' cap' w' h1 h2; exact ⟨_, _, rfl, ⟨h1.1, h1.2.imp id (fun ⟨g, c, cur, e1, e2, r⟩ => ⟨g, c, cur, e1, by omega, r⟩)⟩, h2⟩
  rw [← hP]
  clear hP
  have HLA : Hid (∀ W : World, Below w.heap.size w W → Calls Tryd.prog 65 #[.pointer (some ⟨o, 8, none⟩)] W fun x w' => x = .returned (.int .u32 (s.l : Nat)) ∧ w' = W) := by
    intro W hW
    obtain ⟨f, hf⟩ := (h.below hW).win
    exact last_any hf
  have HLI : Hid (∀ W : World, Below w.heap.size w W → Calls Tryd.prog 42 #[msgA m A m.claims.length cap] W fun e w' => ∃ A' cap', e = .returned (msgA m A' m.claims.length cap') ∧ w'.ownsRow W.heap.size 138 2 (.slice A' m.claims.length cap') m.claims.length (csC m.claims) ∧ Below W.heap.size W w') :=
    fun W hW => mlike_any m (hc.below hW) hl
  have HCL : Hid (∀ W : World, Below w.heap.size w W → W.cell? ⟨o, 0, none⟩ = some (.int .i64 s.self) ∧ W.cell? ⟨o, 1, none⟩ = some (.int .i64 s.peer) ∧ W.cell? ⟨o, 2, none⟩ = some (.int .u32 (s.ep : Nat)) ∧ W.cell? ⟨o, 3, none⟩ = some (.int .u32 (s.kn : Nat))) := by
    intro W hW
    obtain ⟨c0, c1, c2, c3, _⟩ := (h.below hW).cells
    exact ⟨c0, c1, c2, c3⟩
  clear h hc hl
  obtain ⟨x0, x1, x2, x3, x4, x5, x6, x7, x8⟩ := m
  obtain ⟨a0, a1, a2, a3, _, _, _, _, ll, _, _, _, _, _⟩ := s
  simp only [msgA, pktA, Lk.mk] at HLI HP HLA HCL ⊢
  generalize csC x8 = xs at *
  generalize x8.length = L at *
  have HL : Hid (∀ W : World, (Below w.heap.size w W ∧ W.heap[w.heap.size]? = some (.cells #[.int .i64 x0, .int .i64 x1, .int .u32 (x2 : Nat), .int .u64 (x3 : Nat), .int .i64 x4, .int .i64 x5, .int .i64 x6, .int .i64 x7, .slice A L cap] 37 (0, 0))) → W.cell? ⟨o, 0, none⟩ = some (.int .i64 a0) ∧ W.cell? ⟨o, 1, none⟩ = some (.int .i64 a1) ∧ W.cell? ⟨o, 2, none⟩ = some (.int .u32 (a2 : Nat)) ∧ W.cell? ⟨o, 3, none⟩ = some (.int .u32 (a3 : Nat)) ∧ W.cell? ⟨w.heap.size, 0, none⟩ = some (.int .i64 x0) ∧ W.cell? ⟨w.heap.size, 1, none⟩ = some (.int .i64 x1) ∧ W.cell? ⟨w.heap.size, 2, none⟩ = some (.int .u32 (x2 : Nat)) ∧ W.cell? ⟨w.heap.size, 3, none⟩ = some (.int .u64 (x3 : Nat)) ∧ W.cell? ⟨w.heap.size, 4, none⟩ = some (.int .i64 x4) ∧ W.cell? ⟨w.heap.size, 5, none⟩ = some (.int .i64 x5) ∧ W.cell? ⟨w.heap.size, 6, none⟩ = some (.int .i64 x6) ∧ W.cell? ⟨w.heap.size, 7, none⟩ = some (.int .i64 x7) ∧ W.cell? ⟨w.heap.size, 8, none⟩ = some (.slice A L cap)) := by
    intro W hW
    obtain ⟨c0, c1, c2, c3⟩ := HCL.out W hW.1
    obtain ⟨n9, _⟩ := nine hW.2
    exact ⟨c0, c1, c2, c3, n9⟩
  have HST : Hid (∀ (W w' : World) (A' : Option Addr) (cap' : Nat), (Below w.heap.size w W ∧ W.heap[w.heap.size]? = some (.cells #[.int .i64 x0, .int .i64 x1, .int .u32 (x2 : Nat), .int .u64 (x3 : Nat), .int .i64 x4, .int .i64 x5, .int .i64 x6, .int .i64 x7, .slice A L cap] 37 (0, 0))) → W.heap[w.heap.size + 1]? = some (.cells #[.int .i64 0, .int .i64 0, .int .u32 0, .int .u32 0, .int .u32 0, .int .u32 0, .int .i64 0, .int .i64 0, .int .u32 0, .int .u64 0, .int .i64 0, .int .i64 0, .int .i64 0, .int .i64 0, .slice none 0 0] 39 (0, 0)) → w'.ownsRow W.heap.size 138 2 (.slice A' L cap') L xs → Below W.heap.size W w' →
      (Below w.heap.size w w' ∧ w'.heap[w.heap.size]? = some (.cells #[.int .i64 x0, .int .i64 x1, .int .u32 (x2 : Nat), .int .u64 (x3 : Nat), .int .i64 x4, .int .i64 x5, .int .i64 x6, .int .i64 x7, .slice A L cap] 37 (0, 0))) ∧ w'.heap[w.heap.size + 1]? = some (.cells #[.int .i64 0, .int .i64 0, .int .u32 0, .int .u32 0, .int .u32 0, .int .u32 0, .int .i64 0, .int .i64 0, .int .u32 0, .int .u64 0, .int .i64 0, .int .i64 0, .int .i64 0, .int .i64 0, .slice none 0 0] 39 (0, 0)) ∧ w'.ownsRow (w.heap.size + 2) 138 2 (.slice A' L cap') L xs) := by
    intro W w' A' cap' h1 h2 h3 h4
    have hz := blk_lt h2
    exact ⟨⟨h1.1.trans (h4.mono h1.1.size), (h4.block _ (blk_lt h1.2)).trans h1.2⟩, (h4.block _ hz).trans h2, ⟨h3.1, h3.2.imp id (fun ⟨g, c, cur, e1, e2, r⟩ => ⟨g, c, cur, e1, by omega, r⟩)⟩⟩
  have HFIN : Hid (∀ (A' : Option Addr) (cap' : Nat) (W : World), W.ownsRow (w.heap.size + 2) 138 2 (.slice A' L cap') L xs → (Below w.heap.size w W ∧ W.heap[w.heap.size]? = some (.cells #[.int .i64 x0, .int .i64 x1, .int .u32 (x2 : Nat), .int .u64 (x3 : Nat), .int .i64 x4, .int .i64 x5, .int .i64 x6, .int .i64 x7, .slice A L cap] 37 (0, 0))) → W.heap[w.heap.size + 1]? = some (.cells #[.int .i64 0, .int .i64 0, .int .u32 0, .int .u32 0, .int .u32 0, .int .u32 0, .int .i64 0, .int .i64 0, .int .u32 0, .int .u64 0, .int .i64 0, .int .i64 0, .int .i64 0, .int .i64 0, .slice none 0 0] 39 (0, 0)) →
      (Below w.heap.size w (((((((((((((((W.setCell ⟨w.heap.size + 1, 0, none⟩ (.int .i64 a0)).setCell ⟨w.heap.size + 1, 1, none⟩ (.int .i64 a1)).setCell ⟨w.heap.size + 1, 2, none⟩ (.int .u32 (a2 : Nat))).setCell ⟨w.heap.size + 1, 3, none⟩ (.int .u32 (a3 : Nat))).setCell ⟨w.heap.size + 1, 4, none⟩ (.int .u32 (sq : Nat))).setCell ⟨w.heap.size + 1, 5, none⟩ (.int .u32 (ll : Nat))).setCell ⟨w.heap.size + 1, 6, none⟩ (.int .i64 x0)).setCell ⟨w.heap.size + 1, 7, none⟩ (.int .i64 x1)).setCell ⟨w.heap.size + 1, 8, none⟩ (.int .u32 (x2 : Nat))).setCell ⟨w.heap.size + 1, 9, none⟩ (.int .u64 (x3 : Nat))).setCell ⟨w.heap.size + 1, 10, none⟩ (.int .i64 x4)).setCell ⟨w.heap.size + 1, 11, none⟩ (.int .i64 x5)).setCell ⟨w.heap.size + 1, 12, none⟩ (.int .i64 x6)).setCell ⟨w.heap.size + 1, 13, none⟩ (.int .i64 x7)).setCell ⟨w.heap.size + 1, 14, none⟩ (.slice A' L cap')) ∧ (((((((((((((((W.setCell ⟨w.heap.size + 1, 0, none⟩ (.int .i64 a0)).setCell ⟨w.heap.size + 1, 1, none⟩ (.int .i64 a1)).setCell ⟨w.heap.size + 1, 2, none⟩ (.int .u32 (a2 : Nat))).setCell ⟨w.heap.size + 1, 3, none⟩ (.int .u32 (a3 : Nat))).setCell ⟨w.heap.size + 1, 4, none⟩ (.int .u32 (sq : Nat))).setCell ⟨w.heap.size + 1, 5, none⟩ (.int .u32 (ll : Nat))).setCell ⟨w.heap.size + 1, 6, none⟩ (.int .i64 x0)).setCell ⟨w.heap.size + 1, 7, none⟩ (.int .i64 x1)).setCell ⟨w.heap.size + 1, 8, none⟩ (.int .u32 (x2 : Nat))).setCell ⟨w.heap.size + 1, 9, none⟩ (.int .u64 (x3 : Nat))).setCell ⟨w.heap.size + 1, 10, none⟩ (.int .i64 x4)).setCell ⟨w.heap.size + 1, 11, none⟩ (.int .i64 x5)).setCell ⟨w.heap.size + 1, 12, none⟩ (.int .i64 x6)).setCell ⟨w.heap.size + 1, 13, none⟩ (.int .i64 x7)).setCell ⟨w.heap.size + 1, 14, none⟩ (.slice A' L cap')).heap[w.heap.size]? = some (.cells #[.int .i64 x0, .int .i64 x1, .int .u32 (x2 : Nat), .int .u64 (x3 : Nat), .int .i64 x4, .int .i64 x5, .int .i64 x6, .int .i64 x7, .slice A L cap] 37 (0, 0))) ∧ (((((((((((((((W.setCell ⟨w.heap.size + 1, 0, none⟩ (.int .i64 a0)).setCell ⟨w.heap.size + 1, 1, none⟩ (.int .i64 a1)).setCell ⟨w.heap.size + 1, 2, none⟩ (.int .u32 (a2 : Nat))).setCell ⟨w.heap.size + 1, 3, none⟩ (.int .u32 (a3 : Nat))).setCell ⟨w.heap.size + 1, 4, none⟩ (.int .u32 (sq : Nat))).setCell ⟨w.heap.size + 1, 5, none⟩ (.int .u32 (ll : Nat))).setCell ⟨w.heap.size + 1, 6, none⟩ (.int .i64 x0)).setCell ⟨w.heap.size + 1, 7, none⟩ (.int .i64 x1)).setCell ⟨w.heap.size + 1, 8, none⟩ (.int .u32 (x2 : Nat))).setCell ⟨w.heap.size + 1, 9, none⟩ (.int .u64 (x3 : Nat))).setCell ⟨w.heap.size + 1, 10, none⟩ (.int .i64 x4)).setCell ⟨w.heap.size + 1, 11, none⟩ (.int .i64 x5)).setCell ⟨w.heap.size + 1, 12, none⟩ (.int .i64 x6)).setCell ⟨w.heap.size + 1, 13, none⟩ (.int .i64 x7)).setCell ⟨w.heap.size + 1, 14, none⟩ (.slice A' L cap')).heap[w.heap.size + 1]? = some (.cells #[.int .i64 a0, .int .i64 a1, .int .u32 (a2 : Nat), .int .u32 (a3 : Nat), .int .u32 (sq : Nat), .int .u32 (ll : Nat), .int .i64 x0, .int .i64 x1, .int .u32 (x2 : Nat), .int .u64 (x3 : Nat), .int .i64 x4, .int .i64 x5, .int .i64 x6, .int .i64 x7, .slice A' L cap'] 39 (0, 0)) ∧ (((((((((((((((W.setCell ⟨w.heap.size + 1, 0, none⟩ (.int .i64 a0)).setCell ⟨w.heap.size + 1, 1, none⟩ (.int .i64 a1)).setCell ⟨w.heap.size + 1, 2, none⟩ (.int .u32 (a2 : Nat))).setCell ⟨w.heap.size + 1, 3, none⟩ (.int .u32 (a3 : Nat))).setCell ⟨w.heap.size + 1, 4, none⟩ (.int .u32 (sq : Nat))).setCell ⟨w.heap.size + 1, 5, none⟩ (.int .u32 (ll : Nat))).setCell ⟨w.heap.size + 1, 6, none⟩ (.int .i64 x0)).setCell ⟨w.heap.size + 1, 7, none⟩ (.int .i64 x1)).setCell ⟨w.heap.size + 1, 8, none⟩ (.int .u32 (x2 : Nat))).setCell ⟨w.heap.size + 1, 9, none⟩ (.int .u64 (x3 : Nat))).setCell ⟨w.heap.size + 1, 10, none⟩ (.int .i64 x4)).setCell ⟨w.heap.size + 1, 11, none⟩ (.int .i64 x5)).setCell ⟨w.heap.size + 1, 12, none⟩ (.int .i64 x6)).setCell ⟨w.heap.size + 1, 13, none⟩ (.int .i64 x7)).setCell ⟨w.heap.size + 1, 14, none⟩ (.slice A' L cap')).ownsRow (w.heap.size + 2) 138 2 (.slice A' L cap') L xs) := by
    intro A' cap' W h1 h2 h3
    obtain ⟨h4, h5⟩ := pk_all h3 (.int .i64 a0) (.int .i64 a1) (.int .u32 (a2 : Nat)) (.int .u32 (a3 : Nat)) (.int .u32 (sq : Nat)) (.int .u32 (ll : Nat)) (.int .i64 x0) (.int .i64 x1) (.int .u32 (x2 : Nat)) (.int .u64 (x3 : Nat)) (.int .i64 x4) (.int .i64 x5) (.int .i64 x6) (.int .i64 x7) (.slice A' L cap')
    generalize (((((((((((((((W.setCell ⟨w.heap.size + 1, 0, none⟩ (.int .i64 a0)).setCell ⟨w.heap.size + 1, 1, none⟩ (.int .i64 a1)).setCell ⟨w.heap.size + 1, 2, none⟩ (.int .u32 (a2 : Nat))).setCell ⟨w.heap.size + 1, 3, none⟩ (.int .u32 (a3 : Nat))).setCell ⟨w.heap.size + 1, 4, none⟩ (.int .u32 (sq : Nat))).setCell ⟨w.heap.size + 1, 5, none⟩ (.int .u32 (ll : Nat))).setCell ⟨w.heap.size + 1, 6, none⟩ (.int .i64 x0)).setCell ⟨w.heap.size + 1, 7, none⟩ (.int .i64 x1)).setCell ⟨w.heap.size + 1, 8, none⟩ (.int .u32 (x2 : Nat))).setCell ⟨w.heap.size + 1, 9, none⟩ (.int .u64 (x3 : Nat))).setCell ⟨w.heap.size + 1, 10, none⟩ (.int .i64 x4)).setCell ⟨w.heap.size + 1, 11, none⟩ (.int .i64 x5)).setCell ⟨w.heap.size + 1, 12, none⟩ (.int .i64 x6)).setCell ⟨w.heap.size + 1, 13, none⟩ (.int .i64 x7)).setCell ⟨w.heap.size + 1, 14, none⟩ (.slice A' L cap')) = W2 at *
    exact ⟨⟨h2.1.trans (h5.below (fun k h => by omega) h2.1.size), (h5.block _ (blk_lt h2.2) (by omega)).trans h2.2⟩, h4, h5.row h1 (fun g hg => by have := (h1.lt g hg).1; omega)⟩
  have HS0 : Hid (∀ V : World, V = (w.alloc (.cells #[.int .i64 x0, .int .i64 x1, .int .u32 (x2 : Nat), .int .u64 (x3 : Nat), .int .i64 x4, .int .i64 x5, .int .i64 x6, .int .i64 x7, .slice A L cap] 37)).alloc (.cells #[.int .i64 0, .int .i64 0, .int .u32 0, .int .u32 0, .int .u32 0, .int .u32 0, .int .i64 0, .int .i64 0, .int .u32 0, .int .u64 0, .int .i64 0, .int .i64 0, .int .i64 0, .int .i64 0, .slice none 0 0] 39) → (Below w.heap.size w V.drew ∧ V.drew.heap[w.heap.size]? = some (.cells #[.int .i64 x0, .int .i64 x1, .int .u32 (x2 : Nat), .int .u64 (x3 : Nat), .int .i64 x4, .int .i64 x5, .int .i64 x6, .int .i64 x7, .slice A L cap] 37 (0, 0))) ∧ V.drew.heap[w.heap.size + 1]? = some (.cells #[.int .i64 0, .int .i64 0, .int .u32 0, .int .u32 0, .int .u32 0, .int .u32 0, .int .i64 0, .int .i64 0, .int .u32 0, .int .u64 0, .int .i64 0, .int .i64 0, .int .i64 0, .int .i64 0, .slice none 0 0] 39 (0, 0))) := by
    rintro V rfl
    refine ⟨⟨(((Below.refl _ w).alloc (Nat.le_refl _) _).alloc (by simp) _).drew, ?_⟩, ?_⟩
    · show ((w.alloc _).alloc _).heap[_]? = _
      rw [Below.heap_alloc _ _ _ (by simp)]; exact World.alloc_heap_new w _
    · show ((w.alloc _).alloc _).heap[_]? = _
      have := World.alloc_heap_new (w.alloc (.cells #[.int .i64 x0, .int .i64 x1, .int .u32 (x2 : Nat), .int .u64 (x3 : Nat), .int .i64 x4, .int .i64 x5, .int .i64 x6, .int .i64 x7, .slice A L cap] 37)) (.cells #[.int .i64 0, .int .i64 0, .int .u32 0, .int .u32 0, .int .u32 0, .int .u32 0, .int .i64 0, .int .i64 0, .int .u32 0, .int .u64 0, .int .i64 0, .int .i64 0, .int .i64 0, .int .i64 0, .slice none 0 0] 39)
      rw [World.size_alloc] at this
      exact this
  clear HCL
  go_enter Tryd.func43, Tryd.ntmps43
  go_wp2_with fail
  obtain ⟨hb0, hz0⟩ := HS0.out _ rfl
  refine wp_region_held_drew (S := fun W => Below w.heap.size w W ∧ W.heap[w.heap.size]? = some (.cells #[.int .i64 x0, .int .i64 x1, .int .u32 (x2 : Nat), .int .u64 (x3 : Nat), .int .i64 x4, .int .i64 x5, .int .i64 x6, .int .i64 x7, .slice A L cap] 37 (0, 0))) (by kernel_rfl) hb0 (fun hHeld => ?_)
  simp only [List.size_toArray, List.length_cons, List.length_nil, Nat.reduceAdd, Array.replicate_succ, Array.replicate_zero, List.push_toArray, List.nil_append, List.cons_append, List.append_toArray]
  refine take_op (i := 0) (v := ?_) rfl (by kernel_rfl) (by kernel_rfl) (by kernel_rfl) (fun _ _ _ h => h) (Or.inl ⟨by rfl, ?_⟩) (by assumption) ?_
  rotate_left
  · (intro w' hSw; (try dsimp only at hSw); go_simp; (try with_reducible rfl))
  simp only [Act.put, List.setIfInBounds_toArray, List.set_cons_zero, List.set_cons_succ]
  refine take_op (i := 1) (v := ?_) rfl (by kernel_rfl) (by kernel_rfl) (by kernel_rfl) (fun _ _ _ h => h) (Or.inl ⟨by rfl, ?_⟩) (by assumption) ?_
  rotate_left
  · (intro w' hSw; (try dsimp only at hSw); go_simp; (try with_reducible rfl))
  simp only [Act.put, List.setIfInBounds_toArray, List.set_cons_zero, List.set_cons_succ]
  refine take_op (i := 2) (v := ?_) rfl (by kernel_rfl) (by kernel_rfl) (by kernel_rfl) (fun _ _ _ h => h) (Or.inl ⟨by rfl, ?_⟩) (by assumption) ?_
  rotate_left
  · (intro w' hSw; (try dsimp only at hSw); go_simp; (try with_reducible rfl))
  simp only [Act.put, List.setIfInBounds_toArray, List.set_cons_zero, List.set_cons_succ]
  refine take_op (i := 3) (v := ?_) rfl (by kernel_rfl) (by kernel_rfl) (by kernel_rfl) (fun _ _ _ h => h) (Or.inl ⟨by rfl, ?_⟩) (by assumption) ?_
  rotate_left
  · (intro w' hSw; obtain ⟨l0, l1, l2, l3, q0, q1, q2, q3, q4, q5, q6, q7, q8⟩ := HL.out _ hSw; go_simp; (try with_reducible rfl))
  simp only [Act.put, List.setIfInBounds_toArray, List.set_cons_zero, List.set_cons_succ]
  refine take_op (i := 4) (v := ?_) rfl (by kernel_rfl) (by kernel_rfl) (by kernel_rfl) (fun _ _ _ h => h) (Or.inl ⟨by rfl, ?_⟩) (by assumption) ?_
  rotate_left
  · (intro w' hSw; (try dsimp only at hSw); go_simp; (try with_reducible rfl))
  simp only [Act.put, List.setIfInBounds_toArray, List.set_cons_zero, List.set_cons_succ]
  refine take_op (i := 5) (v := ?_) rfl (by kernel_rfl) (by kernel_rfl) (by kernel_rfl) (fun _ _ _ h => h) (Or.inl ⟨by rfl, ?_⟩) (by assumption) ?_
  rotate_left
  · (intro w' hSw; (try dsimp only at hSw); go_simp; (try with_reducible rfl))
  simp only [Act.put, List.setIfInBounds_toArray, List.set_cons_zero, List.set_cons_succ]
  refine take_op (i := 6) (v := ?_) rfl (by kernel_rfl) (by kernel_rfl) (by kernel_rfl) (fun _ _ _ h => h) (Or.inl ⟨by rfl, ?_⟩) (by assumption) ?_
  rotate_left
  · (intro w' hSw; (try dsimp only at hSw); go_simp; (try with_reducible rfl))
  simp only [Act.put, List.setIfInBounds_toArray, List.set_cons_zero, List.set_cons_succ]
  refine take_op (i := 7) (v := ?_) rfl (by kernel_rfl) (by kernel_rfl) (by kernel_rfl) (fun _ _ _ h => h) (Or.inl ⟨by rfl, ?_⟩) (by assumption) ?_
  rotate_left
  · (intro w' hSw; obtain ⟨l0, l1, l2, l3, q0, q1, q2, q3, q4, q5, q6, q7, q8⟩ := HL.out _ hSw; go_simp; (try with_reducible rfl))
  simp only [Act.put, List.setIfInBounds_toArray, List.set_cons_zero, List.set_cons_succ]
  refine take_op (i := 8) (v := ?_) rfl (by kernel_rfl) (by kernel_rfl) (by kernel_rfl) (fun _ _ _ h => h) (Or.inl ⟨by rfl, ?_⟩) (by assumption) ?_
  rotate_left
  · (intro w' hSw; (try dsimp only at hSw); go_simp; (try with_reducible rfl))
  simp only [Act.put, List.setIfInBounds_toArray, List.set_cons_zero, List.set_cons_succ]
  refine take_op (i := 9) (v := ?_) rfl (by kernel_rfl) (by kernel_rfl) (by kernel_rfl) (fun _ _ _ h => h) (Or.inl ⟨by rfl, ?_⟩) (by assumption) ?_
  rotate_left
  · (intro w' hSw; (try dsimp only at hSw); go_simp; (try with_reducible rfl))
  simp only [Act.put, List.setIfInBounds_toArray, List.set_cons_zero, List.set_cons_succ]
  refine take_op (i := 10) (v := ?_) rfl (by kernel_rfl) (by kernel_rfl) (by kernel_rfl) (fun _ _ _ h => h) (Or.inl ⟨by rfl, ?_⟩) (by assumption) ?_
  rotate_left
  · (intro w' hSw; (try dsimp only at hSw); go_simp; (try with_reducible rfl))
  simp only [Act.put, List.setIfInBounds_toArray, List.set_cons_zero, List.set_cons_succ]
  refine take_op (i := 11) (v := ?_) rfl (by kernel_rfl) (by kernel_rfl) (by kernel_rfl) (fun _ _ _ h => h) (Or.inl ⟨by rfl, ?_⟩) (by assumption) ?_
  rotate_left
  · (intro w' hSw; obtain ⟨l0, l1, l2, l3, q0, q1, q2, q3, q4, q5, q6, q7, q8⟩ := HL.out _ hSw; go_simp; (try with_reducible rfl))
  simp only [Act.put, List.setIfInBounds_toArray, List.set_cons_zero, List.set_cons_succ]
  refine take_op (i := 12) (v := ?_) rfl (by kernel_rfl) (by kernel_rfl) (by kernel_rfl) (fun _ _ _ h => h) (Or.inl ⟨by rfl, ?_⟩) (by assumption) ?_
  rotate_left
  · (intro w' hSw; (try dsimp only at hSw); go_simp; (try with_reducible rfl))
  simp only [Act.put, List.setIfInBounds_toArray, List.set_cons_zero, List.set_cons_succ]
  refine take_op (i := 13) (v := ?_) rfl (by kernel_rfl) (by kernel_rfl) (by kernel_rfl) (fun _ _ _ h => h) (Or.inl ⟨by rfl, ?_⟩) (by assumption) ?_
  rotate_left
  · (intro w' hSw; (try dsimp only at hSw); go_simp; (try with_reducible rfl))
  simp only [Act.put, List.setIfInBounds_toArray, List.set_cons_zero, List.set_cons_succ]
  refine take_op (i := 14) (v := ?_) rfl (by kernel_rfl) (by kernel_rfl) (by kernel_rfl) (fun _ _ _ h => h) (Or.inl ⟨by rfl, ?_⟩) (by assumption) ?_
  rotate_left
  · (intro w' hSw; (try dsimp only at hSw); go_simp; (try with_reducible rfl))
  simp only [Act.put, List.setIfInBounds_toArray, List.set_cons_zero, List.set_cons_succ]
  refine take_op (i := 15) (v := ?_) rfl (by kernel_rfl) (by kernel_rfl) (by kernel_rfl) (fun _ _ _ h => h) (Or.inl ⟨by rfl, ?_⟩) (by assumption) ?_
  rotate_left
  · (intro w' hSw; obtain ⟨l0, l1, l2, l3, q0, q1, q2, q3, q4, q5, q6, q7, q8⟩ := HL.out _ hSw; go_simp; (try with_reducible rfl))
  simp only [Act.put, List.setIfInBounds_toArray, List.set_cons_zero, List.set_cons_succ]
  refine take_op (i := 16) (v := ?_) rfl (by kernel_rfl) (by kernel_rfl) (by kernel_rfl) (fun _ _ _ h => h) (Or.inl ⟨by rfl, ?_⟩) (by assumption) ?_
  rotate_left
  · (intro w' hSw; (try dsimp only at hSw); go_simp; (try with_reducible rfl))
  simp only [Act.put, List.setIfInBounds_toArray, List.set_cons_zero, List.set_cons_succ]
  refine take_op (i := 17) (v := ?_) rfl (by kernel_rfl) (by kernel_rfl) (by kernel_rfl) (fun _ _ _ h => h) (Or.inl ⟨by rfl, ?_⟩) (by assumption) ?_
  rotate_left
  · (intro w' hSw; (try dsimp only at hSw); go_simp; (try with_reducible rfl))
  simp only [Act.put, List.setIfInBounds_toArray, List.set_cons_zero, List.set_cons_succ]
  refine take_op (i := 18) (v := ?_) rfl (by kernel_rfl) (by kernel_rfl) (by kernel_rfl) (fun _ _ _ h => h) (Or.inl ⟨by rfl, ?_⟩) (by assumption) ?_
  rotate_left
  · (intro w' hSw; (try dsimp only at hSw); go_simp; (try with_reducible rfl))
  simp only [Act.put, List.setIfInBounds_toArray, List.set_cons_zero, List.set_cons_succ]
  refine take_op (i := 19) (v := ?_) rfl (by kernel_rfl) (by kernel_rfl) (by kernel_rfl) (fun _ _ _ h => h) (Or.inl ⟨by rfl, ?_⟩) (by assumption) ?_
  rotate_left
  · (intro w' hSw; (try dsimp only at hSw); go_simp; (try with_reducible rfl))
  simp only [Act.put, List.setIfInBounds_toArray, List.set_cons_zero, List.set_cons_succ]
  refine take_op (i := 20) (v := ?_) rfl (by kernel_rfl) (by kernel_rfl) (by kernel_rfl) (fun _ _ _ h => h) (Or.inl ⟨by rfl, ?_⟩) (by assumption) ?_
  rotate_left
  · (intro w' hSw; (try dsimp only at hSw); go_simp; (try with_reducible rfl))
  simp only [Act.put, List.setIfInBounds_toArray, List.set_cons_zero, List.set_cons_succ]
  refine take_op (i := 22) (v := ?_) rfl (by kernel_rfl) (by kernel_rfl) (by kernel_rfl) (fun _ _ _ h => h) (Or.inl ⟨by rfl, ?_⟩) (by assumption) ?_
  rotate_left
  · (intro w' hSw; obtain ⟨l0, l1, l2, l3, q0, q1, q2, q3, q4, q5, q6, q7, q8⟩ := HL.out _ hSw; go_simp; (try with_reducible rfl))
  simp only [Act.put, List.setIfInBounds_toArray, List.set_cons_zero, List.set_cons_succ]
  refine wpAnyH_ready (rs := [21]) (by kernel_rfl) (by simp) ?_
  refine cons_op rfl (fun K hK => ?_) AllReadyH.nil
  go_simp
  refine (HLA.out _ hb0.1).mono ?_
  rintro e w21 ⟨rfl, rfl⟩
  (try go_wp2_with fail)
  refine hK.out _ _ hb0 (fun hHeld => ?_)
  clear hK K
  (try simp only [Act.put, List.setIfInBounds_toArray, List.set_cons_zero, List.set_cons_succ])
  refine wpAnyH_ready (rs := [23]) (by kernel_rfl) (by simp) ?_
  refine cons_op rfl (fun K hK => ?_) AllReadyH.nil
  go_simp
  refine (HLI.out _ hb0.1).mono ?_
  rintro e w23 ⟨A', cap', rfl, hr23, hb23⟩
  obtain ⟨hs23, hz23, hr23⟩ := HST.out _ _ _ _ hb0 hz0 hr23 hb23
  (try go_wp2_with fail)
  refine hK.out _ _ hs23 (fun hHeld => ?_)
  clear hK K
  (try simp only [Act.put, List.setIfInBounds_toArray, List.set_cons_zero, List.set_cons_succ])
  refine take_op (i := 24) (v := ?_) rfl (by kernel_rfl) (by kernel_rfl) (by kernel_rfl) (fun _ _ _ h => h) (Or.inl ⟨by rfl, ?_⟩) (by assumption) ?_
  rotate_left
  · (intro w' hSw; (try dsimp only at hSw); go_simp; (try with_reducible rfl))
  simp only [Act.put, List.setIfInBounds_toArray, List.set_cons_zero, List.set_cons_succ]
  refine wpAnyH_ready (rs := [25]) (by kernel_rfl) (by simp) ?_
  refine cons_op rfl (fun K hK => ?_) AllReadyH.nil
  obtain ⟨⟨c0, c1, c2, c3, c4, c5, c6, c7, c8, c9, c10, c11, c12, c13, c14⟩, fz⟩ := pk_cells hz23
  have fz0 := fz 0
  have fz1 := fz 1
  have fz2 := fz 2
  have fz3 := fz 3
  have fz4 := fz 4
  have fz5 := fz 5
  have fz6 := fz 6
  have fz7 := fz 7
  have fz8 := fz 8
  have fz9 := fz 9
  have fz10 := fz 10
  have fz11 := fz 11
  have fz12 := fz 12
  have fz13 := fz 13
  have fz14 := fz 14
  clear fz
  go_simp
  refine hK.out _ _ (HFIN.out _ _ _ hr23 hs23 hz23).1 (fun hHeld => ?_)
  clear hK K
  (try simp only [Act.put, List.setIfInBounds_toArray, List.set_cons_zero, List.set_cons_succ])
  refine wpAnyH_done (by kernel_rfl) ?_ _
  obtain ⟨⟨hF1, _⟩, hF2, hF3⟩ := HFIN.out _ _ _ hr23 hs23 hz23
  obtain ⟨WF, hWF⟩ : ∃ WF, (((((((((((((((w23.setCell ⟨w.heap.size + 1, 0, none⟩ (.int .i64 a0)).setCell ⟨w.heap.size + 1, 1, none⟩ (.int .i64 a1)).setCell ⟨w.heap.size + 1, 2, none⟩ (.int .u32 (a2 : Nat))).setCell ⟨w.heap.size + 1, 3, none⟩ (.int .u32 (a3 : Nat))).setCell ⟨w.heap.size + 1, 4, none⟩ (.int .u32 (sq : Nat))).setCell ⟨w.heap.size + 1, 5, none⟩ (.int .u32 (ll : Nat))).setCell ⟨w.heap.size + 1, 6, none⟩ (.int .i64 x0)).setCell ⟨w.heap.size + 1, 7, none⟩ (.int .i64 x1)).setCell ⟨w.heap.size + 1, 8, none⟩ (.int .u32 (x2 : Nat))).setCell ⟨w.heap.size + 1, 9, none⟩ (.int .u64 (x3 : Nat))).setCell ⟨w.heap.size + 1, 10, none⟩ (.int .i64 x4)).setCell ⟨w.heap.size + 1, 11, none⟩ (.int .i64 x5)).setCell ⟨w.heap.size + 1, 12, none⟩ (.int .i64 x6)).setCell ⟨w.heap.size + 1, 13, none⟩ (.int .i64 x7)).setCell ⟨w.heap.size + 1, 14, none⟩ (.slice A' L cap')) = WF := ⟨_, rfl⟩
  rw [hWF] at hF1 hF2 hF3 ⊢
  clear hWF
  obtain ⟨⟨s0, s1, s2, s3, s4, s5, s6, s7, s8, s9, s10, s11, s12, s13, s14⟩, _⟩ := pk_cells hF2
  have HFF := Lib.hid (HP.out _ _ _ hF3 hF1)
  clear hr23 hb23 hs23 hz23
  go_wp2
  refine bodyPost_ret (v := .agg #[.int .i64 a0, .int .i64 a1, .int .u32 (a2 : Nat), .int .u32 (a3 : Nat), .int .u32 (sq : Nat), .int .u32 (ll : Nat), .int .i64 x0, .int .i64 x1, .int .u32 (x2 : Nat), .int .u64 (x3 : Nat), .int .i64 x4, .int .i64 x5, .int .i64 x6, .int .i64 x7, .slice A' L cap']) (by simp only [results, Tryd.results43]; simp [go_sem, s0, s1, s2, s3, s4, s5, s6, s7, s8, s9, s10, s11, s12, s13, s14]) rfl HFF.out
end Go.Proofs.YtfgajjfcjlejmaaDoor
