/- Joined texts: Marks, Loop. -/
import Derived.Test.YtekhlaodlagbdaaGreatDoorHeap
import Derived.Test.YtekhlaodlagbdaaGreatDoorOuter
import Derived.RangeFuncNested
import Derived.RangeFuncLeaves

/-
  A function's way out behind many loops over an iterator: each has left a mark among the deferred calls; no round has deferred anything.
-/
namespace Go.Proofs.YtekhlaodlagbdaaGreatDoor
open Go Go.RowKit

theorem leaves_marks {P : Program} {F : Fence} {n : Nat} {fn : Func} {tmps : Array Value} {R : Ending → World → Prop} {I : World → Prop} {p : Nat → Prop}
    (hI : ∀ (W : World) (D : Nat), p D → I W → W.heap[D]? = some (.deferred (some [])) → I (W.putObj D (.deferred none)))
    (hEnd : ∀ W, I W → LeavesInM F n P fn tmps R [] .returning W) :
    ∀ (ds : List Nat) (W : World), ds.Nodup → (∀ D ∈ ds, p D ∧ W.heap[D]? = some (.deferred (some []))) → I W →
      LeavesInM F n P fn tmps R (ds.map fun D => { target := .collected D, args := #[] }) .returning W := by
  intro ds
  induction ds with
  | nil => intro W _ _ h; exact hEnd W h
  | cons D ds ih =>
    intro W hn hd h
    obtain ⟨hp, hD⟩ := hd D (by simp)
    have hn' := List.nodup_cons.1 hn
    refine ⟨by simp, .inl ⟨D, _, rfl, run_takeDeferred hD, ?_⟩⟩
    refine ih _ hn'.2 (fun E hE => ?_) (hI W D hp h hD)
    refine ⟨(hd E (by simp [hE])).1, ?_⟩
    rw [World.putObj_heap_other (by intro e; subst e; exact hn'.1 hE)]
    exact (hd E (by simp [hE])).2
end Go.Proofs.YtekhlaodlagbdaaGreatDoor

/-
  The walk of findEdges.
-/
namespace Go.Proofs.YtekhlaodlagbdaaGreatDoor
set_option maxRecDepth 100000
set_option linter.unusedSimpArgs false
open Go.RowKit
attribute [local go_sem] Oper.semAt_some

set_option maxHeartbeats 4000000 in
theorem find_any (b g cap R C : Nat) (ms : List UInt8) (w : World) (hC : 1 ≤ C) (hC2 : C ≤ 32) (hR : R ≤ 32) (hN : R * C = ms.length) (hw : Ways w) (hwb : 0 ≠ b) (hgb : g ≠ b)
    (hg : ∀ u, u < ms.length → w.cell? ⟨g, u, none⟩ = some (.int .u8 ((ms.getD u 0).toNat : Int)))
    (hb : w.heap[b]? = some (.cells (cellsE R C (.slice (some ⟨g, 0, none⟩) ms.length cap) 0 1 (.slice none 0 0) (.slice none 0 0) 0) 64 (0, 0))) :
    Calls Tryz.prog 74 #[.pointer (some ⟨b, 0, none⟩)] w fun e w' => e = .returned (.tuple #[]) ∧ Found b R C ms w w' := by
  have hN1 : ms.length ≤ 1024 := by rw [← hN]; exact Nat.mul_le_mul hR hC2
  have hmk := fun w => makeRows_run ms.length (by omega) w
  have hbs := blk_lt hb
  have c2 : w.cell? ⟨b, 2, none⟩ = some (.slice (some ⟨g, 0, none⟩) ms.length cap) := by rw [blk_cell hb]; rfl
  have c6 : w.cell? ⟨b, 6, none⟩ = some (.slice none 0 0) := by rw [blk_cell hb]; rfl
  have c7 : w.cell? ⟨b, 7, none⟩ = some (.slice none 0 0) := by rw [blk_cell hb]; rfl
  have f6 := blk_free hb 6
  have f7 := blk_free hb 7
  have Hhw : Hid (Ways w) := hw
  have Hhg : Hid (∀ u, u < ms.length → w.cell? ⟨g, u, none⟩ = some (.int .u8 ((ms.getD u 0).toNat : Int))) := hg
  have HhN : Hid (R * C = ms.length) := hN
  have Hhb : Hid (w.heap[b]? = some (.cells (cellsE R C (.slice (some ⟨g, 0, none⟩) ms.length cap) 0 1 (.slice none 0 0) (.slice none 0 0) 0) 64 (0, 0))) := hb
  clear hw hg hb hN
  refine (callsIn_wide (n := 9)).1 ?_
  refine callsIn_of_wp_marks Tryz.func74 rfl trivial ?_ rfl
  simp only [Tryz.ntmps74, List.size_toArray, List.length_cons, List.length_nil, Nat.reduceAdd, Nat.reduceSub, Array.replicate_succ, Array.replicate_zero, List.push_toArray, List.append_toArray, List.nil_append, List.cons_append]
  gi_wp2
  gi_region
  gi_wp2
  generalize hW1 : (((w.setCell ⟨b, 6, none⟩ (.slice (some ⟨w.heap.size + 1, 0, none⟩) ms.length ms.length)).alloc (.cells #[.pointer (some ⟨b, 0, none⟩)] 23)).alloc (.cells (madeCells #[.slice none 0 0] ms.length) 36)).drew = W1
  have S1 : Hid (W1.heap.size = w.heap.size + 2) := by show W1.heap.size = _; rw [← hW1]; simp
  have O1 : Hid (W1.os = w.os ∧ W1.tape = w.tape ∧ W1.output = w.output) := by show _ ∧ _ ∧ _; rw [← hW1]; exact ⟨rfl, rfl, rfl⟩
  have K1 : Hid (∀ q, q < w.heap.size → q ≠ b → W1.heap[q]? = w.heap[q]?) := by
    intro q hq hne
    rw [← hW1]
    exact (Below.heap_alloc _ _ q (by simp; omega)).trans ((Below.heap_alloc _ _ q (by simp; omega)).trans (Below.heap_setCell _ _ _ q hne))
  have B1 : Hid (W1.heap[b]? = some (.cells (cellsE R C (.slice (some ⟨g, 0, none⟩) ms.length cap) 0 1 (.slice (some ⟨w.heap.size + 1, 0, none⟩) ms.length ms.length) (.slice none 0 0) 0) 64 (0, 0))) := by
    show _ = _
    rw [← hW1]
    refine (Below.heap_alloc _ _ b (by simp; omega)).trans ((Below.heap_alloc _ _ b (by simp; omega)).trans ?_)
    rw [blk_set Hhb.out]
    rfl
  have P1 : Hid (W1.heap[w.heap.size]? = some (.cells #[.pointer (some ⟨b, 0, none⟩)] 23 (0, 0))) := by
    show _ = _
    rw [← hW1]
    refine (Below.heap_alloc _ _ w.heap.size (by simp)).trans ?_
    have := World.alloc_heap_new (w.setCell ⟨b, 6, none⟩ (.slice (some ⟨w.heap.size + 1, 0, none⟩) ms.length ms.length)) (.cells #[.pointer (some ⟨b, 0, none⟩)] 23)
    simpa using this
  have G1 : Hid (W1.heap[w.heap.size + 1]? = some (.cells (madeCells #[.slice none 0 0] ms.length) 36 (0, 0))) := by
    show _ = _
    rw [← hW1]
    have := World.alloc_heap_new ((w.setCell ⟨b, 6, none⟩ (.slice (some ⟨w.heap.size + 1, 0, none⟩) ms.length ms.length)).alloc (.cells #[.pointer (some ⟨b, 0, none⟩)] 23)) (.cells (madeCells #[.slice none 0 0] ms.length) 36)
    rw [show ((w.setCell ⟨b, 6, none⟩ (.slice (some ⟨w.heap.size + 1, 0, none⟩) ms.length ms.length)).alloc (.cells #[.pointer (some ⟨b, 0, none⟩)] 23)).heap.size = w.heap.size + 1 by simp] at this
    exact this
  clear hW1 c2 c6 c7 f6 f7
  have d1 : W1.cell? ⟨w.heap.size, 0, none⟩ = some (.pointer (some ⟨b, 0, none⟩)) := by rw [blk_cell P1.out]; rfl
  have d2 : W1.cell? ⟨b, 2, none⟩ = some (.slice (some ⟨g, 0, none⟩) ms.length cap) := by rw [blk_cell B1.out]; rfl
  have d7 : W1.cell? ⟨b, 7, none⟩ = some (.slice none 0 0) := by rw [blk_cell B1.out]; rfl
  have f7 := blk_free B1.out 7
  have hps := blk_lt P1.out
  have hbs1 := blk_lt B1.out
  gi_region
  gi_wp2
  generalize hW2 : (((W1.setCell ⟨b, 7, none⟩ (.slice (some ⟨W1.heap.size, 0, none⟩) ms.length ms.length)).alloc (.cells (madeCells #[.slice none 0 0] ms.length) 36)).drew) = W2
  have S2 : W2.heap.size = w.heap.size + 3 := by rw [← hW2]; have := S1.out; simp; omega
  have e1 := S1.out
  have O2 : W2.os = w.os ∧ W2.tape = w.tape ∧ W2.output = w.output := by rw [← hW2]; exact O1.out
  have K2 : ∀ q, q < w.heap.size → q ≠ b → W2.heap[q]? = w.heap[q]? := by
    intro q hq hne
    rw [← hW2]
    exact ((Below.heap_alloc _ _ q (by simp; omega)).trans (Below.heap_setCell _ _ _ q hne)).trans (K1.out q hq hne)
  have B2 : W2.heap[b]? = some (.cells (cellsE R C (.slice (some ⟨g, 0, none⟩) ms.length cap) 0 1 (.slice (some ⟨w.heap.size + 1, 0, none⟩) ms.length ms.length) (.slice (some ⟨w.heap.size + 2, 0, none⟩) ms.length ms.length) 0) 64 (0, 0)) := by
    rw [← hW2]
    refine (Below.heap_alloc _ _ b (by simp; omega)).trans ?_
    rw [blk_set B1.out, e1]
    rfl
  have P2 : W2.heap[w.heap.size]? = some (.cells #[.pointer (some ⟨b, 0, none⟩)] 23 (0, 0)) := by
    rw [← hW2]
    exact ((Below.heap_alloc _ _ _ (by simp; omega)).trans (Below.heap_setCell _ _ _ _ (by simp; omega))).trans P1.out
  have G2 : W2.heap[w.heap.size + 1]? = some (.cells (madeCells #[.slice none 0 0] ms.length) 36 (0, 0)) := by
    rw [← hW2]
    exact ((Below.heap_alloc _ _ _ (by simp; omega)).trans (Below.heap_setCell _ _ _ _ (by simp; omega))).trans G1.out
  have H2 : W2.heap[w.heap.size + 2]? = some (.cells (madeCells #[.slice none 0 0] ms.length) 36 (0, 0)) := by
    rw [← hW2]
    have := World.alloc_heap_new (W1.setCell ⟨b, 7, none⟩ (.slice (some ⟨W1.heap.size, 0, none⟩) ms.length ms.length)) (.cells (madeCells #[.slice none 0 0] ms.length) 36)
    rw [show (W1.setCell ⟨b, 7, none⟩ (.slice (some ⟨W1.heap.size, 0, none⟩) ms.length ms.length)).heap.size = w.heap.size + 2 by simp; omega] at this
    exact this
  clear hW2 d1 d2 d7 f7 B1 P1 G1 K1 O1 hps hbs1
  obtain ⟨A, hA⟩ : ∃ A : Addr → Value → Prop, A = fun p v => (p.block ≠ b ∧ w.cell? p = some v) ∨ (∃ j, j ≤ 5 ∧ p = ⟨b, j, none⟩ ∧ w.cell? p = some v) ∨ (p = ⟨b, 6, none⟩ ∧ v = .slice (some ⟨w.heap.size + 1, 0, none⟩) ms.length ms.length) ∨ (p = ⟨b, 7, none⟩ ∧ v = .slice (some ⟨w.heap.size + 2, 0, none⟩) ms.length ms.length) ∨ (p = ⟨w.heap.size, 0, none⟩ ∧ v = .pointer (some ⟨b, 0, none⟩)) := ⟨_, rfl⟩
  obtain ⟨av, hav⟩ : ∃ av : List Nat, av = List.range W2.heap.size := ⟨_, rfl⟩
  have hlow : ∀ j, j ≤ 5 → ∀ v, w.cell? ⟨b, j, none⟩ = some v → W2.cell? ⟨b, j, none⟩ = some v := by
    intro j hj v hv
    rw [blk_cell Hhb.out] at hv
    rw [blk_cell B2, ← hv]
    have h : j = 0 ∨ j = 1 ∨ j = 2 ∨ j = 3 ∨ j = 4 ∨ j = 5 := by omega
    rcases h with rfl | rfl | rfl | rfl | rfl | rfl <;> rfl
  have hrd : Rd A W2 := by
    intro p v hp
    rw [hA] at hp
    rcases hp with ⟨h1, h2⟩ | ⟨j, hj, rfl, h2⟩ | ⟨rfl, rfl⟩ | ⟨rfl, rfl⟩ | ⟨rfl, rfl⟩
    · exact (World.cell?_of_block (K2 p.block (World.block_lt_of_cell? w p h2) h1)).trans h2
    · exact hlow j hj v h2
    · rw [blk_cell B2]; rfl
    · rw [blk_cell B2]; rfl
    · rw [blk_cell P2]; rfl
  have hsafe : ∀ p v, A p v → (∃ j, j ≠ 8 ∧ p = ⟨b, j, none⟩) ∨ (p.block ∈ av ∧ p.block ≠ w.heap.size + 1 ∧ p.block ≠ w.heap.size + 2 ∧ p.block ≠ b) := by
    intro p v hp
    rw [hA] at hp
    rcases hp with ⟨h1, h2⟩ | ⟨j, hj, rfl, h2⟩ | ⟨rfl, rfl⟩ | ⟨rfl, rfl⟩ | ⟨rfl, rfl⟩
    · have := World.block_lt_of_cell? w p h2
      exact .inr ⟨by rw [hav]; exact List.mem_range.2 (by omega), by omega, by omega, h1⟩
    · exact .inl ⟨j, by omega, rfl⟩
    · exact .inl ⟨6, by omega, rfl⟩
    · exact .inl ⟨7, by omega, rfl⟩
    · exact .inr ⟨by rw [hav]; exact List.mem_range.2 (by simp; omega), by simp, by simp, by simp; omega⟩
  have hloc : ∀ j, j < 2 * ms.length → W2.cell? (loc (w.heap.size + 1) (w.heap.size + 2) ms.length j) = some (.slice none 0 0) ∧ W2.frozen? (loc (w.heap.size + 1) (w.heap.size + 2) ms.length j) = false := by
    intro j hj
    unfold loc
    split
    · rename_i h; exact ⟨made_cell G2 h, blk_free G2 j⟩
    · exact ⟨made_cell H2 (by omega), blk_free H2 _⟩
  have hstart : Going b w.heap.size g cap (w.heap.size + 1) (w.heap.size + 2) R C ms av A w W2 0 [] W2 := by
    refine ⟨⟨⟨fun _ => .slice none 0 0, ?_⟩, hrd, ?_, blk_free B2, by omega⟩, Old.refl _ _ _ _ _, List.nodup_nil, by simp, Nat.le_refl _⟩
    · refine ⟨fun j hj => (hloc j hj).1, fun j hj => (hloc j hj).2, fun j _ => World.ownsRow_nil _ _ _ _, fun _ _ _ _ _ => .inl rfl, fun _ _ _ _ => by simp [Value.ownBlock], fun q hq => by rw [hav] at hq; exact List.mem_range.1 hq, ?_, ?_, by omega⟩
      · rw [hav]; exact List.mem_range.2 (by omega)
      · rw [hav]; exact List.mem_range.2 (by omega)
    · rw [blk_cell B2]; rfl
  have hin : ∀ q, q < w.heap.size + 3 → q ∈ av := fun q hq => by rw [hav]; exact List.mem_range.2 (by omega)
  have hA0 : A ⟨b, 0, none⟩ (.int .i64 (R : Int)) := by rw [hA]; exact .inr (.inl ⟨0, by omega, rfl, by rw [blk_cell Hhb.out]; rfl⟩)
  have hA1 : A ⟨b, 1, none⟩ (.int .i64 (C : Int)) := by rw [hA]; exact .inr (.inl ⟨1, by omega, rfl, by rw [blk_cell Hhb.out]; rfl⟩)
  have hA2 : A ⟨b, 2, none⟩ (.slice (some ⟨g, 0, none⟩) ms.length cap) := by rw [hA]; exact .inr (.inl ⟨2, by omega, rfl, by rw [blk_cell Hhb.out]; rfl⟩)
  have hA6 : A ⟨b, 6, none⟩ (.slice (some ⟨w.heap.size + 1, 0, none⟩) ms.length ms.length) := by rw [hA]; exact .inr (.inr (.inl ⟨rfl, rfl⟩))
  have hA7 : A ⟨b, 7, none⟩ (.slice (some ⟨w.heap.size + 2, 0, none⟩) ms.length ms.length) := by rw [hA]; exact .inr (.inr (.inr (.inl ⟨rfl, rfl⟩)))
  have hAp : A ⟨w.heap.size, 0, none⟩ (.pointer (some ⟨b, 0, none⟩)) := by rw [hA]; exact .inr (.inr (.inr (.inr ⟨rfl, rfl⟩)))
  have hAm : ∀ u, u < ms.length → A ⟨g, u, none⟩ (.int .u8 ((ms.getD u 0).toNat : Int)) := fun u hu => by rw [hA]; exact .inl ⟨hgb, Hhg.out u hu⟩
  have hAw : ∀ j u, waysL[j]? = some u → A ⟨0, j, none⟩ u := fun j u hj => by rw [hA]; exact .inl ⟨hwb, Hhw.out j u hj⟩
  have hAl : ∀ j, j ≤ 5 → ∀ v, w.cell? ⟨b, j, none⟩ = some v → A ⟨b, j, none⟩ v := fun j hj v hv => by rw [hA]; exact .inr (.inl ⟨j, hj, rfl, hv⟩)
  clear hrd hloc hlow hA hav
  have hw00 : ∀ (q : Nat) (o : Obj), w.heap[q]? = some o → q ≠ b → W2.heap[q]? = some o := fun q o hq hne => (K2 q (blk_lt hq) hne).trans hq
  refine outer_start _ (by kernel_rfl) _ _ _ _ _ _ _ _ _ _ _ _ _ _ _ _ _ _ _ _ _ _ _ _ _ _ _ _ _ _ _ _ _ _ _ _ _ _ _ _ _ _ _ _ _ _ _ _ _ _ _ _ _ _ _ _ _ _ _ _ _ _ _ _ _ _ _ _ _ _ _ _ _ _ _ _ _ _ _ _ _ _ _ _ _ _ _ _ _ _ _ w.heap.size b g cap (w.heap.size + 1) (w.heap.size + 2) R C ms av A w W2 hC hC2 hR HhN.out hA0 hA1 hA2 hA6 hA7 hAp hAm hAw hsafe (hin b (by omega)) (hin _ (by omega)) (by omega) (by omega) (by omega) (by omega) hstart ?_
  intro f' Ds W hG
  have hend : ∀ X : World, (Inv w.heap.size (w.heap.size + 1) (w.heap.size + 2) ms.length b ms.length av A (ms.getD ms.length 0) ms (tabs R C ms.length ms ms.length) (eds R C ms ms.length) [] X ∧ Old (w.heap.size + 1) (w.heap.size + 2) b av W2 X) → Found b R C ms w X := by
    rintro X ⟨hI, hO⟩
    obtain ⟨T, hT⟩ := hI.mem
    refine ⟨⟨_, _, T, hT.fewer (fun q hq => ?_) (by simp) (by simp), hI.rd _ _ hA6, hI.rd _ _ hA7, by omega, by omega⟩, fun j hj v hv => hI.rd _ _ (hAl j hj v hv), hI.cnt, hI.cntf, ⟨hO.os.trans O2.1, hO.tape.trans O2.2.1, hO.output.trans O2.2.2, hI.size, fun k hk hne => ?_⟩⟩
    · simp only [List.mem_cons, List.not_mem_nil, or_false] at hq
      rcases hq with rfl | rfl
      · exact hT.hgn
      · exact hT.hgb
    · have hkb : k ≠ b := fun e => hne (by rw [e])
      have hk2 : w.heap[k]? = some w.heap[k] := Array.getElem?_eq_getElem hk
      rw [hk2]
      exact hO.block k _ (hw00 k _ hk2 hkb) (.inr ⟨hin k (by omega), by omega, by omega, hkb⟩)
  show LeavesInM Fence.wide 9 Tryz.prog Tryz.f74 _ _ (Ds.map fun D => { target := .collected D, args := #[] }) .returning W
  refine leaves_marks (p := fun D => W2.heap.size ≤ D) (I := fun X => Inv w.heap.size (w.heap.size + 1) (w.heap.size + 2) ms.length b ms.length av A (ms.getD ms.length 0) ms (tabs R C ms.length ms ms.length) (eds R C ms ms.length) [] X ∧ Old (w.heap.size + 1) (w.heap.size + 2) b av W2 X) ?_ ?_ Ds W hG.nd hG.marks ⟨hG.inv, hG.old⟩
  · rintro X D hp ⟨h1, h2⟩ hD
    have hg := grownBy_putObj' X D (.deferred none)
    exact ⟨h1.others hg (fun r e => by cases e; exact ⟨_, hD, rfl⟩), h2.others hg (fun r e => by cases e; exact hp)⟩
  · intro X hX
    have HF := hend X hX
    simpa [LeavesInM, LeavesIn, settle, results, Tryz.results74] using HF
end Go.Proofs.YtekhlaodlagbdaaGreatDoor
