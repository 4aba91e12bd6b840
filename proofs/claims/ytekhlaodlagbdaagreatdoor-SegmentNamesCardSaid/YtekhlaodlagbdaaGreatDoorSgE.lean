/-
  A map among other things in memory: the blocks that it stands on.
-/
import Derived.Test.YtekhlaodlagbdaaGreatDoorUp
import Derived.Test.YtekhlaodlagbdaaGreatDoorKp
import Derived.Test.YtekhlaodlagbdaaGreatDoorGBm
namespace Go.Proofs.YtekhlaodlagbdaaGreatDoor
set_option maxRecDepth 100000
open Go Go.RowKit

/-- The blocks of the map at bm. -/
def TS (bm gm : Nat) (w : World) (k : Nat) : Prop :=
  k = 0 ∨ k = bm ∨ k = gm ∨ ∃ f, (f = 6 ∨ f = 7) ∧ ∃ q n c, w.cell? ⟨bm, f, none⟩ = some (.slice (some q) n c) ∧ (k = q.block ∨ ∃ j, j < n ∧ ∃ v, w.cell? ⟨q.block, j, none⟩ = some v ∧ v.ownBlock = some k)

theorem Mem.keptX {B gn gb N : Nat} {av : List Nat} {L : Nat → List Nat} {T : Nat → Value} {w w' : World} {X : Nat → Prop} (h : Mem B gn gb N [gn, gb] L T w) (hk : Kept X w w') (hn : ¬ X gn) (hb : ¬ X gb) (hr : ∀ j, j < 2 * N → ∀ k, (T j).ownBlock = some k → ¬ X k) (_ : av = av) : Mem B gn gb N [gn, gb] L T w' := by
  have hx : ∀ j, ¬ X (loc gn gb N j).block := fun j => by
    have := h.in_av j
    simp at this
    rcases this with e | e <;> rw [e] <;> assumption
  refine ⟨fun j hj => hk.cell (h.cell j hj) (hx j), fun j hj => ?_, fun j hj => hk.row (h.own j hj) (hr j hj), h.sep, h.far, fun q hq => Nat.lt_of_lt_of_le (h.lt q hq) hk.size, h.hgn, h.hgb, h.two⟩
  rw [hk.frozen (World.block_lt_of_cell? w _ (h.cell j hj)) (hx j)]
  exact h.free j hj

theorem EM.keptX {bm gm cm R C : Nat} {ms : List UInt8} {w w' : World} {X : Nat → Prop} (h : EM bm gm cm R C ms w) (hk : Kept X w w') (hX : ∀ k, TS bm gm w k → ¬ X k) : EM bm gm cm R C ms w' ∧ ∀ k, TS bm gm w' k → TS bm gm w k := by
  have hbm : ¬ X bm := hX bm (.inr (.inl rfl))
  have hblt : bm < w.heap.size := World.block_lt_of_cell? w ⟨bm, 0, none⟩ h.c0
  have hcb : ∀ j, w'.cell? ⟨bm, j, none⟩ = w.cell? ⟨bm, j, none⟩ := fun j => World.cell?_of_block (a := ⟨bm, j, none⟩) (hk.block bm hblt hbm)
  have hT : ∀ f, (f = 6 ∨ f = 7) → ∀ q n c, w.cell? ⟨bm, f, none⟩ = some (.slice (some q) n c) → ¬ X q.block ∧ ∀ j, j < n → ∀ v, w.cell? ⟨q.block, j, none⟩ = some v → ∀ k, v.ownBlock = some k → ¬ X k := fun f hf q n c hc =>
    ⟨hX _ (.inr (.inr (.inr ⟨f, hf, q, n, c, hc, .inl rfl⟩))), fun j hj v hv k hk => hX _ (.inr (.inr (.inr ⟨f, hf, q, n, c, hc, .inr ⟨j, hj, v, hv, hk⟩⟩)))⟩
  refine ⟨⟨fun j u hj => hk.cell (h.ways j u hj) (hX _ (.inl rfl)), h.wb, h.gb, h.hC, h.hC2, h.hR, h.hN, fun u hu => hk.cell (h.mark u hu) (hX gm (.inr (.inr (.inl rfl)))), (hcb 0).trans h.c0, (hcb 1).trans h.c1, (hcb 2).trans h.c2, ?_⟩, ?_⟩
  · rcases h.st with hr | hd
    · exact .inl ((hk.block bm hblt hbm).trans hr)
    · right
      obtain ⟨B, gn, gb, T, hM, h6, h7⟩ := hd.tables
      obtain ⟨u6, v6⟩ := hT 6 (.inl rfl) _ _ _ h6
      obtain ⟨u7, v7⟩ := hT 7 (.inr rfl) _ _ _ h7
      refine ⟨(hcb 3).trans hd.c3, (hcb 8).trans hd.cnt, B, gn, gb, T, hM.keptX (av := []) hk u6 u7 (fun j hj k hjk => ?_) rfl, (hcb 6).trans h6, (hcb 7).trans h7⟩
      rcases Nat.lt_or_ge j ms.length with hj' | hj'
      · have hc := hM.cell j hj
        rw [loc_lo hj'] at hc
        exact v6 j hj' _ hc k hjk
      · have hc := hM.cell j hj
        have e2 : loc gn gb ms.length j = ⟨gb, j - ms.length, none⟩ := by unfold loc; rw [if_neg (by omega)]
        rw [e2] at hc
        exact v7 (j - ms.length) (by omega) _ hc k hjk
  · rintro k (e | e | e | ⟨f, hf, q, n, c, hc, hh⟩)
    · exact .inl e
    · exact .inr (.inl e)
    · exact .inr (.inr (.inl e))
    · rw [hcb f] at hc
      refine .inr (.inr (.inr ⟨f, hf, q, n, c, hc, ?_⟩))
      rcases hh with e | ⟨j, hj, v, hv, hvk⟩
      · exact .inl e
      · right
        refine ⟨j, hj, v, ?_, hvk⟩
        obtain ⟨u6, _⟩ := hT f hf _ _ _ hc
        have hql : q.block < w.heap.size := by
          rcases h.st with hr' | hd
          · rcases hf with rfl | rfl <;> (rw [blk_cell hr'] at hc; simp [cellsE] at hc)
          · obtain ⟨B, gn, gb, T, hM, h6, h7⟩ := hd.tables
            rcases hf with rfl | rfl
            · rw [h6] at hc
              simp only [Option.some.injEq, Value.slice.injEq] at hc
              obtain ⟨rfl, _⟩ := hc
              exact hM.lt _ hM.hgn
            · rw [h7] at hc
              simp only [Option.some.injEq, Value.slice.injEq] at hc
              obtain ⟨rfl, _⟩ := hc
              exact hM.lt _ hM.hgb
        rw [← hv]
        exact (World.cell?_of_block (a := ⟨q.block, j, none⟩) (hk.block q.block hql u6)).symm

theorem EM.tlt {bm gm cm R C : Nat} {ms : List UInt8} {w : World} (h : EM bm gm cm R C ms w) (hN : 0 < ms.length) : ∀ k, TS bm gm w k → k < w.heap.size := by
  have hblt : bm < w.heap.size := World.block_lt_of_cell? w ⟨bm, 0, none⟩ h.c0
  rintro k (rfl | rfl | rfl | ⟨f, hf, q, n, c, hc, hh⟩)
  · exact World.block_lt_of_cell? w ⟨0, 0, none⟩ (h.ways 0 _ rfl)
  · exact hblt
  · exact World.block_lt_of_cell? w ⟨k, 0, none⟩ (h.mark 0 hN)
  · rcases h.st with hr' | hd
    · rcases hf with rfl | rfl <;> (rw [blk_cell hr'] at hc; simp [cellsE] at hc)
    · obtain ⟨B, gn, gb, T, hM, h6, h7⟩ := hd.tables
      rcases hf with rfl | rfl
      · rw [h6] at hc
        simp only [Option.some.injEq, Value.slice.injEq] at hc
        obtain ⟨rfl, rfl, _⟩ := hc
        rcases hh with rfl | ⟨j, hj, v, hv, hvk⟩
        · exact hM.lt _ hM.hgn
        · have h1 := hM.cell j (by omega)
          rw [loc_lo hj] at h1
          obtain rfl := Option.some.inj (h1.symm.trans hv)
          exact ((hM.own j (by omega)).lt k hvk).2
      · rw [h7] at hc
        simp only [Option.some.injEq, Value.slice.injEq] at hc
        obtain ⟨rfl, rfl, _⟩ := hc
        rcases hh with rfl | ⟨j, hj, v, hv, hvk⟩
        · exact hM.lt _ hM.hgb
        · have h1 := hM.cell (ms.length + j) (by omega)
          rw [loc_hi] at h1
          obtain rfl := Option.some.inj (h1.symm.trans hv)
          exact ((hM.own (ms.length + j) (by omega)).lt k hvk).2

/-- What Next and Back leave. -/
def TabX (bm gm cm R C : Nat) (ms : List UInt8) (w : World) (l : List Nat) (e : Ending) (w' : World) : Prop :=
  ∃ v, e = .returned v ∧ EM bm gm cm R C ms w' ∧ (∀ k, TS bm gm w' k → TS bm gm w k ∨ w.heap.size ≤ k) ∧ Kept (fun k => k = bm) w w' ∧ w'.ownsRow w.heap.size 3 1 v l.length (l.map natV) ∧ (∀ k, v.ownBlock = some k → ¬ TS bm gm w' k)

theorem tabX_of {bm gm cm R C : Nat} {ms : List UInt8} {w w' : World} {i : Int} {l : List Nat} {e : Ending} (hE : EM bm gm cm R C ms w) (hN : 0 < ms.length) (h : TabPostU bm gm cm R C ms w i l e w') : TabX bm gm cm R C ms w l e w' := by
  obtain ⟨v, w1, rfl, he, hg, hsame, _, hup, hown, hb⟩ := h
  have hk1 : Kept (fun k => k = bm) w w1 := (Kept.refl _ w).grown hg (fun k e => .inl (by injection e with e; exact e.symm))
  have hb' : Kept (fun _ => False) w1 w' := Kept.of_below hb (Nat.le_refl _)
  obtain ⟨he', ht'⟩ := he.keptX hb' (fun _ _ => id)
  refine ⟨v, rfl, he', fun k hk => ?_, hk1.trans hb' (fun _ _ h => h.elim), ?_, fun k hk ht => ?_⟩
  · have hk' := ht' k hk
    rcases hE.st with hr | hd
    · have hu := hup w.heap.size (Nat.le_refl _) (up_ready hr)
      rcases hk' with rfl | rfl | rfl | ⟨f, hf, q, n, c, hc, hh⟩
      · exact .inl (.inl rfl)
      · exact .inl (.inr (.inl rfl))
      · exact .inl (.inr (.inr (.inl rfl)))
      · obtain ⟨u1, u2⟩ := hu f hf q n c hc
        right
        rcases hh with rfl | ⟨j, hj, v', hv, hvk⟩
        · exact u1
        · exact u2 j hj v' hv k hvk
    · left
      rw [hsame hd] at hk'
      exact hk'
  · refine ⟨hown.1, ?_⟩
    rcases hown.2 with hn | ⟨g, cap, cur, hv, h1, rest⟩
    · exact .inl hn
    · exact .inr ⟨g, cap, cur, hv, Nat.le_trans hk1.size h1, rest⟩
  · have h1 := (hown.lt k hk).1
    have h2 := he.tlt hN k (ht' k ht)
    omega
theorem next_x {bm gm cm R C : Nat} {ms : List UInt8} {w : World} (i : Int) (h : EM bm gm cm R C ms w) (hN : 0 < ms.length) :
    Calls Tryz.prog 49 #[.pointer (some ⟨bm, 0, none⟩), .int .i64 i] w (TabX bm gm cm R C ms w (nextZ R C ms i)) :=
  (next_anyU i h).mono fun _ _ hq => tabX_of h hN hq
theorem back_x {bm gm cm R C : Nat} {ms : List UInt8} {w : World} (i : Int) (h : EM bm gm cm R C ms w) (hN : 0 < ms.length) :
    Calls Tryz.prog 112 #[.pointer (some ⟨bm, 0, none⟩), .int .i64 i] w (TabX bm gm cm R C ms w (backZ R C ms i)) :=
  (back_anyU i h).mono fun _ _ hq => tabX_of h hN hq
end Go.Proofs.YtekhlaodlagbdaaGreatDoor
