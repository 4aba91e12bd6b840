/-
  Read: its walk.
-/
import Derived.Test.YtmfbokaaoffdnaaDoorWrC
import Derived.Test.YtmfbokaaoffdnaaDoorWr7
namespace Go.Proofs.YtmfbokaaoffdnaaDoor
set_option maxRecDepth 100000
set_option linter.unusedSimpArgs false
open Go Go.RowKit Wr
attribute [local go_sem] Oper.semAt_some

@[reducible] def pktZ : Array Value := #[.int .i64 0, .int .i64 0, .int .u32 0, .int .u32 0, .int .u32 0, .int .u32 0, .int .i64 0, .int .i64 0, .int .u32 0, .int .u64 0, .int .i64 0, .int .i64 0, .int .i64 0, .int .i64 0, .slice none 0 0]
theorem Rd.kept2 {q f : Nat} {s : RS} {W W' : World} {X : Nat → Prop} (h : Rd q f s W) (hk : Kept X W W') (hX : ∀ k, X k → k ≠ q ∧ k ≠ f ∧ ∀ c t fz, W.heap[k]? = some (.cells c t fz) → ∀ n, byV n ∉ c) : Rd q f s W' := by
  obtain ⟨⟨A, cap, h1, h2, h3, h9⟩, h4, h5⟩ := h
  refine ⟨⟨A, cap, (hk.block _ (blk_lt h1) (fun h => (hX _ h).1 rfl)).trans h1, h2.kept hk (fun j hj a ha hx => ?_), h3, h9⟩, (hk.block _ (blk_lt h4) (fun h => (hX _ h).2.1 rfl)).trans h4, h5⟩
  obtain ⟨a', ha', hc⟩ := h2 j hj
  rw [ha] at ha'
  cases ha'
  obtain ⟨c, t, fz, hb, hm⟩ := byte_mem hc
  exact (hX _ hx).2.2 c t fz hb _ hm

def wr15 (V : World) (b : Nat) (a0 a1 a2 a3 a4 a5 a6 a7 a8 a9 a10 a11 a12 a13 a14 : Value) : World := (((((((((((((((V.setCell ⟨b, 0, none⟩ a0).setCell ⟨b, 1, none⟩ a1).setCell ⟨b, 2, none⟩ a2).setCell ⟨b, 3, none⟩ a3).setCell ⟨b, 4, none⟩ a4).setCell ⟨b, 5, none⟩ a5).setCell ⟨b, 6, none⟩ a6).setCell ⟨b, 7, none⟩ a7).setCell ⟨b, 8, none⟩ a8).setCell ⟨b, 9, none⟩ a9).setCell ⟨b, 10, none⟩ a10).setCell ⟨b, 11, none⟩ a11).setCell ⟨b, 12, none⟩ a12).setCell ⟨b, 13, none⟩ a13).setCell ⟨b, 14, none⟩ a14)
theorem wr15_facts {V : World} {b : Nat} (h : V.heap[b]? = some (.cells pktZ 28 (0, 0))) (a0 a1 a2 a3 a4 a5 a6 a7 a8 a9 a10 a11 a12 a13 a14 : Value) :
    (wr15 V b a0 a1 a2 a3 a4 a5 a6 a7 a8 a9 a10 a11 a12 a13 a14).heap[b]? = some (.cells #[a0, a1, a2, a3, a4, a5, a6, a7, a8, a9, a10, a11, a12, a13, a14] 28 (0, 0)) ∧ Kept (fun k => k = b) V (wr15 V b a0 a1 a2 a3 a4 a5 a6 a7 a8 a9 a10 a11 a12 a13 a14) := by
  have h0 : (V.setCell ⟨b, 0, none⟩ a0).heap[b]? = some (.cells #[a0, .int .i64 0, .int .u32 0, .int .u32 0, .int .u32 0, .int .u32 0, .int .i64 0, .int .i64 0, .int .u32 0, .int .u64 0, .int .i64 0, .int .i64 0, .int .i64 0, .int .i64 0, .slice none 0 0] 28 (0, 0)) := blk_set h 0 a0
  have h1 : ((V.setCell ⟨b, 0, none⟩ a0).setCell ⟨b, 1, none⟩ a1).heap[b]? = some (.cells #[a0, a1, .int .u32 0, .int .u32 0, .int .u32 0, .int .u32 0, .int .i64 0, .int .i64 0, .int .u32 0, .int .u64 0, .int .i64 0, .int .i64 0, .int .i64 0, .int .i64 0, .slice none 0 0] 28 (0, 0)) := blk_set h0 1 a1
  have h2 : (((V.setCell ⟨b, 0, none⟩ a0).setCell ⟨b, 1, none⟩ a1).setCell ⟨b, 2, none⟩ a2).heap[b]? = some (.cells #[a0, a1, a2, .int .u32 0, .int .u32 0, .int .u32 0, .int .i64 0, .int .i64 0, .int .u32 0, .int .u64 0, .int .i64 0, .int .i64 0, .int .i64 0, .int .i64 0, .slice none 0 0] 28 (0, 0)) := blk_set h1 2 a2
  have h3 : ((((V.setCell ⟨b, 0, none⟩ a0).setCell ⟨b, 1, none⟩ a1).setCell ⟨b, 2, none⟩ a2).setCell ⟨b, 3, none⟩ a3).heap[b]? = some (.cells #[a0, a1, a2, a3, .int .u32 0, .int .u32 0, .int .i64 0, .int .i64 0, .int .u32 0, .int .u64 0, .int .i64 0, .int .i64 0, .int .i64 0, .int .i64 0, .slice none 0 0] 28 (0, 0)) := blk_set h2 3 a3
  have h4 : (((((V.setCell ⟨b, 0, none⟩ a0).setCell ⟨b, 1, none⟩ a1).setCell ⟨b, 2, none⟩ a2).setCell ⟨b, 3, none⟩ a3).setCell ⟨b, 4, none⟩ a4).heap[b]? = some (.cells #[a0, a1, a2, a3, a4, .int .u32 0, .int .i64 0, .int .i64 0, .int .u32 0, .int .u64 0, .int .i64 0, .int .i64 0, .int .i64 0, .int .i64 0, .slice none 0 0] 28 (0, 0)) := blk_set h3 4 a4
  have h5 : ((((((V.setCell ⟨b, 0, none⟩ a0).setCell ⟨b, 1, none⟩ a1).setCell ⟨b, 2, none⟩ a2).setCell ⟨b, 3, none⟩ a3).setCell ⟨b, 4, none⟩ a4).setCell ⟨b, 5, none⟩ a5).heap[b]? = some (.cells #[a0, a1, a2, a3, a4, a5, .int .i64 0, .int .i64 0, .int .u32 0, .int .u64 0, .int .i64 0, .int .i64 0, .int .i64 0, .int .i64 0, .slice none 0 0] 28 (0, 0)) := blk_set h4 5 a5
  have h6 : (((((((V.setCell ⟨b, 0, none⟩ a0).setCell ⟨b, 1, none⟩ a1).setCell ⟨b, 2, none⟩ a2).setCell ⟨b, 3, none⟩ a3).setCell ⟨b, 4, none⟩ a4).setCell ⟨b, 5, none⟩ a5).setCell ⟨b, 6, none⟩ a6).heap[b]? = some (.cells #[a0, a1, a2, a3, a4, a5, a6, .int .i64 0, .int .u32 0, .int .u64 0, .int .i64 0, .int .i64 0, .int .i64 0, .int .i64 0, .slice none 0 0] 28 (0, 0)) := blk_set h5 6 a6
  have h7 : ((((((((V.setCell ⟨b, 0, none⟩ a0).setCell ⟨b, 1, none⟩ a1).setCell ⟨b, 2, none⟩ a2).setCell ⟨b, 3, none⟩ a3).setCell ⟨b, 4, none⟩ a4).setCell ⟨b, 5, none⟩ a5).setCell ⟨b, 6, none⟩ a6).setCell ⟨b, 7, none⟩ a7).heap[b]? = some (.cells #[a0, a1, a2, a3, a4, a5, a6, a7, .int .u32 0, .int .u64 0, .int .i64 0, .int .i64 0, .int .i64 0, .int .i64 0, .slice none 0 0] 28 (0, 0)) := blk_set h6 7 a7
  have h8 : (((((((((V.setCell ⟨b, 0, none⟩ a0).setCell ⟨b, 1, none⟩ a1).setCell ⟨b, 2, none⟩ a2).setCell ⟨b, 3, none⟩ a3).setCell ⟨b, 4, none⟩ a4).setCell ⟨b, 5, none⟩ a5).setCell ⟨b, 6, none⟩ a6).setCell ⟨b, 7, none⟩ a7).setCell ⟨b, 8, none⟩ a8).heap[b]? = some (.cells #[a0, a1, a2, a3, a4, a5, a6, a7, a8, .int .u64 0, .int .i64 0, .int .i64 0, .int .i64 0, .int .i64 0, .slice none 0 0] 28 (0, 0)) := blk_set h7 8 a8
  have h9 : ((((((((((V.setCell ⟨b, 0, none⟩ a0).setCell ⟨b, 1, none⟩ a1).setCell ⟨b, 2, none⟩ a2).setCell ⟨b, 3, none⟩ a3).setCell ⟨b, 4, none⟩ a4).setCell ⟨b, 5, none⟩ a5).setCell ⟨b, 6, none⟩ a6).setCell ⟨b, 7, none⟩ a7).setCell ⟨b, 8, none⟩ a8).setCell ⟨b, 9, none⟩ a9).heap[b]? = some (.cells #[a0, a1, a2, a3, a4, a5, a6, a7, a8, a9, .int .i64 0, .int .i64 0, .int .i64 0, .int .i64 0, .slice none 0 0] 28 (0, 0)) := blk_set h8 9 a9
  have h10 : (((((((((((V.setCell ⟨b, 0, none⟩ a0).setCell ⟨b, 1, none⟩ a1).setCell ⟨b, 2, none⟩ a2).setCell ⟨b, 3, none⟩ a3).setCell ⟨b, 4, none⟩ a4).setCell ⟨b, 5, none⟩ a5).setCell ⟨b, 6, none⟩ a6).setCell ⟨b, 7, none⟩ a7).setCell ⟨b, 8, none⟩ a8).setCell ⟨b, 9, none⟩ a9).setCell ⟨b, 10, none⟩ a10).heap[b]? = some (.cells #[a0, a1, a2, a3, a4, a5, a6, a7, a8, a9, a10, .int .i64 0, .int .i64 0, .int .i64 0, .slice none 0 0] 28 (0, 0)) := blk_set h9 10 a10
  have h11 : ((((((((((((V.setCell ⟨b, 0, none⟩ a0).setCell ⟨b, 1, none⟩ a1).setCell ⟨b, 2, none⟩ a2).setCell ⟨b, 3, none⟩ a3).setCell ⟨b, 4, none⟩ a4).setCell ⟨b, 5, none⟩ a5).setCell ⟨b, 6, none⟩ a6).setCell ⟨b, 7, none⟩ a7).setCell ⟨b, 8, none⟩ a8).setCell ⟨b, 9, none⟩ a9).setCell ⟨b, 10, none⟩ a10).setCell ⟨b, 11, none⟩ a11).heap[b]? = some (.cells #[a0, a1, a2, a3, a4, a5, a6, a7, a8, a9, a10, a11, .int .i64 0, .int .i64 0, .slice none 0 0] 28 (0, 0)) := blk_set h10 11 a11
  have h12 : (((((((((((((V.setCell ⟨b, 0, none⟩ a0).setCell ⟨b, 1, none⟩ a1).setCell ⟨b, 2, none⟩ a2).setCell ⟨b, 3, none⟩ a3).setCell ⟨b, 4, none⟩ a4).setCell ⟨b, 5, none⟩ a5).setCell ⟨b, 6, none⟩ a6).setCell ⟨b, 7, none⟩ a7).setCell ⟨b, 8, none⟩ a8).setCell ⟨b, 9, none⟩ a9).setCell ⟨b, 10, none⟩ a10).setCell ⟨b, 11, none⟩ a11).setCell ⟨b, 12, none⟩ a12).heap[b]? = some (.cells #[a0, a1, a2, a3, a4, a5, a6, a7, a8, a9, a10, a11, a12, .int .i64 0, .slice none 0 0] 28 (0, 0)) := blk_set h11 12 a12
  have h13 : ((((((((((((((V.setCell ⟨b, 0, none⟩ a0).setCell ⟨b, 1, none⟩ a1).setCell ⟨b, 2, none⟩ a2).setCell ⟨b, 3, none⟩ a3).setCell ⟨b, 4, none⟩ a4).setCell ⟨b, 5, none⟩ a5).setCell ⟨b, 6, none⟩ a6).setCell ⟨b, 7, none⟩ a7).setCell ⟨b, 8, none⟩ a8).setCell ⟨b, 9, none⟩ a9).setCell ⟨b, 10, none⟩ a10).setCell ⟨b, 11, none⟩ a11).setCell ⟨b, 12, none⟩ a12).setCell ⟨b, 13, none⟩ a13).heap[b]? = some (.cells #[a0, a1, a2, a3, a4, a5, a6, a7, a8, a9, a10, a11, a12, a13, .slice none 0 0] 28 (0, 0)) := blk_set h12 13 a13
  have h14 : (((((((((((((((V.setCell ⟨b, 0, none⟩ a0).setCell ⟨b, 1, none⟩ a1).setCell ⟨b, 2, none⟩ a2).setCell ⟨b, 3, none⟩ a3).setCell ⟨b, 4, none⟩ a4).setCell ⟨b, 5, none⟩ a5).setCell ⟨b, 6, none⟩ a6).setCell ⟨b, 7, none⟩ a7).setCell ⟨b, 8, none⟩ a8).setCell ⟨b, 9, none⟩ a9).setCell ⟨b, 10, none⟩ a10).setCell ⟨b, 11, none⟩ a11).setCell ⟨b, 12, none⟩ a12).setCell ⟨b, 13, none⟩ a13).setCell ⟨b, 14, none⟩ a14).heap[b]? = some (.cells #[a0, a1, a2, a3, a4, a5, a6, a7, a8, a9, a10, a11, a12, a13, a14] 28 (0, 0)) := blk_set h13 14 a14
  refine ⟨h14, ?_⟩
  have k0 := (Kept.refl (fun k => k = b) V).setCell (p := ⟨b, 0, none⟩) (.inl rfl) a0
  have k1 := k0.setCell (p := ⟨b, 1, none⟩) (.inl rfl) a1
  have k2 := k1.setCell (p := ⟨b, 2, none⟩) (.inl rfl) a2
  have k3 := k2.setCell (p := ⟨b, 3, none⟩) (.inl rfl) a3
  have k4 := k3.setCell (p := ⟨b, 4, none⟩) (.inl rfl) a4
  have k5 := k4.setCell (p := ⟨b, 5, none⟩) (.inl rfl) a5
  have k6 := k5.setCell (p := ⟨b, 6, none⟩) (.inl rfl) a6
  have k7 := k6.setCell (p := ⟨b, 7, none⟩) (.inl rfl) a7
  have k8 := k7.setCell (p := ⟨b, 8, none⟩) (.inl rfl) a8
  have k9 := k8.setCell (p := ⟨b, 9, none⟩) (.inl rfl) a9
  have k10 := k9.setCell (p := ⟨b, 10, none⟩) (.inl rfl) a10
  have k11 := k10.setCell (p := ⟨b, 11, none⟩) (.inl rfl) a11
  have k12 := k11.setCell (p := ⟨b, 12, none⟩) (.inl rfl) a12
  have k13 := k12.setCell (p := ⟨b, 13, none⟩) (.inl rfl) a13
  have k14 := k13.setCell (p := ⟨b, 14, none⟩) (.inl rfl) a14
  exact k14

theorem ch9_kept (V : World) (b : Nat) (a0 a1 a2 a3 a4 a5 a6 a7 a8 : Value) : Kept (fun k => k = b) V (((((((((V.setCell ⟨b, 6, none⟩ a0).setCell ⟨b, 7, none⟩ a1).setCell ⟨b, 8, none⟩ a2).setCell ⟨b, 9, none⟩ a3).setCell ⟨b, 10, none⟩ a4).setCell ⟨b, 11, none⟩ a5).setCell ⟨b, 12, none⟩ a6).setCell ⟨b, 13, none⟩ a7).setCell ⟨b, 14, none⟩ a8) := by
  have k0 := (Kept.refl (fun k => k = b) V).setCell (p := ⟨b, 6, none⟩) (.inl rfl) a0
  have k1 := k0.setCell (p := ⟨b, 7, none⟩) (.inl rfl) a1
  have k2 := k1.setCell (p := ⟨b, 8, none⟩) (.inl rfl) a2
  have k3 := k2.setCell (p := ⟨b, 9, none⟩) (.inl rfl) a3
  have k4 := k3.setCell (p := ⟨b, 10, none⟩) (.inl rfl) a4
  have k5 := k4.setCell (p := ⟨b, 11, none⟩) (.inl rfl) a5
  have k6 := k5.setCell (p := ⟨b, 12, none⟩) (.inl rfl) a6
  have k7 := k6.setCell (p := ⟨b, 13, none⟩) (.inl rfl) a7
  have k8 := k7.setCell (p := ⟨b, 14, none⟩) (.inl rfl) a8
  exact k8
theorem cl_kept {W W' : World} {b : Nat} {A : Option Addr} {cl : List (Int × Nat)} {c0 : Array Value} (hcl : ClaimsAt W A cl ∧ ∀ a, A = some a → ∃ c, W.heap[a.block]? = some (.cells c 50 (0, 0))) (hk : Kept (fun k => k = b) W W') (hb : W.heap[b]? = some (.cells c0 28 (0, 0))) :
    ClaimsAt W' A cl ∧ ∀ a, A = some a → ∃ c, W'.heap[a.block]? = some (.cells c 50 (0, 0)) := by
  have hne : ∀ a, A = some a → a.block ≠ b := by
    intro a ha e
    obtain ⟨c, hc⟩ := hcl.2 a ha
    rw [e, hb] at hc
    injection hc with hc
    injection hc with _ h2 _
    exact absurd h2 (by decide)
  refine ⟨hcl.1.kept hk hne, fun a ha => ?_⟩
  obtain ⟨c, hc⟩ := hcl.2 a ha
  exact ⟨c, (hk.block _ (blk_lt hc) (hne a ha)).trans hc⟩
def NoB (c : Array Value) : Prop := ∀ n, byV n ∉ c
theorem NoB.set {c : Array Value} (h : NoB c) (j : Nat) {u : Value} (hu : ∀ n, u ≠ byV n) : NoB (c.setIfInBounds j u) := by
  intro n hm
  rcases Array.mem_or_eq_of_mem_setIfInBounds hm with h1 | h1
  · exact h n h1
  · exact hu n h1.symm

/-- A packet that is being read lies in block b. -/
structure PI (w : World) (q f b : Nat) (c : Array Value) (s : RS) (W : World) : Prop where
  below : Below w.heap.size w W
  rb : W.heap[w.heap.size]? = some (.cells pktZ 28 (0, 0))
  pb : W.heap[b]? = some (.cells c 28 (0, 0))
  rd : Rd q f s W
  nb : NoB c
section
variable {w W W' : World} {q f b : Nat} {c : Array Value} {s s' : RS}
theorem PI.take (h : PI w q f b c s W) (hq : w.heap.size < q) (hf : w.heap.size < f) (hb : b ≠ q ∧ b ≠ f) (hr : Rd q f s' W') (hk : Kept (fun k => k = q ∨ k = f) W W') : PI w q f b c s' W' := by
  obtain ⟨h1, h2, h3, h4, h5⟩ := h
  refine ⟨h1.trans (hk.below (fun k hk => by rcases hk with e | e <;> omega) h1.size), (hk.block _ (blk_lt h2) (fun e => by rcases e with e | e <;> omega)).trans h2, (hk.block _ (blk_lt h3) (fun e => e.elim hb.1 hb.2)).trans h3, hr, h5⟩
theorem PI.set (h : PI w q f b c s W) (hw : w.heap.size < b) (hb : b ≠ q ∧ b ≠ f) (j : Nat) {u : Value} (hu : ∀ n, u ≠ byV n) : PI w q f b (c.setIfInBounds j u) s (W.setCell ⟨b, j, none⟩ u) := by
  obtain ⟨h1, h2, h3, h4, h5⟩ := h
  have hs := (Kept.refl (fun k => k = b) W).setCell (p := ⟨b, j, none⟩) (.inl rfl) u
  refine ⟨h1.setCell (p := ⟨b, j, none⟩) (by simp <;> omega) u, (hs.block _ (blk_lt h2) (by omega)).trans h2, blk_set h3 j u, h4.kept2 hs ?_, h5.set j hu⟩
  rintro k rfl
  refine ⟨hb.1, hb.2, fun c' t fz hc n hm => ?_⟩
  rw [h3] at hc
  injection hc with hc
  injection hc with hc _ _
  subst hc
  exact h5 n hm
theorem PI.cell (h : PI w q f b c s W) {j : Nat} {u : Value} (hu : c[j]? = some u) : W.cell? ⟨b, j, none⟩ = some u := by rw [blk_cell h.pb]; exact hu
theorem PI.free (h : PI w q f b c s W) (j : Nat) : W.frozen? ⟨b, j, none⟩ = false := blk_free h.pb j
end

def ReadPost (w : World) (l : List Nat) (e : Ending) (w' : World) : Prop :=
  Below w.heap.size w w' ∧ ((readF l = none ∧ e = .returned (.tuple #[.agg pktZ, .int .i64 70])) ∨
    ∃ p A cap, readF l = some p ∧ e = .returned (.tuple #[pktA p A p.msg.claims.length cap, .int .i64 0]) ∧ ClaimsAt w' A p.msg.claims)

set_option maxHeartbeats 8000000 in
theorem read_any {w : World} (hT : Tab w) {A : Option Addr} {l : List Nat} {cap : Nat} (hB : BytesAt w A l) (hcap : l.length ≤ cap) (hlt : ∀ c ∈ l, c < 256) (hl : l.length ≤ 100000) :
    Calls Tryd.prog 12 #[.slice A l.length cap] w (ReadPost w l) := by
  have HT := Lib.hid hT
  have hAb : ∀ a, A = some a → l ≠ [] → a.block < w.heap.size := by
    intro a ha hn
    obtain ⟨a', ha', hc⟩ := hB 0 (List.length_pos_iff.2 hn)
    rw [ha] at ha'
    cases ha'
    have := World.block_lt_of_cell? w _ hc
    rwa [add_blk] at this
  have HTL := hT.lt
  obtain ⟨P, hP⟩ : ∃ P : Ending → World → Prop, P = ReadPost w l := ⟨_, rfl⟩
  have HQ1 : Hid (readF l = none → ∀ w', Below w.heap.size w w' → P (.returned (.tuple #[.agg pktZ, .int .i64 70])) w') := by rw [hP]; exact fun h w' hb => ⟨hb, .inl ⟨h, rfl⟩⟩
  have HQ2 : Hid (∀ p A cap w', readF l = some p → Below w.heap.size w w' → ClaimsAt w' A p.msg.claims → P (.returned (.tuple #[pktA p A p.msg.claims.length cap, .int .i64 0])) w') := by rw [hP]; exact fun p A cap w' h hb hc => ⟨hb, .inr ⟨p, A, cap, h, rfl, hc⟩⟩
  rw [← hP]
  clear hP
  obtain ⟨W0, hW0⟩ : ∃ W0, W0 = (((w.alloc (.cells pktZ 28)).alloc (.cells pktZ 28)).alloc (.cells #[.slice A l.length cap] 34)).alloc (.cells #[.bool false] 4) := ⟨_, rfl⟩
  have HS0 : Hid (PI w (w.heap.size + 1 + 1) (w.heap.size + 1 + 1 + 1) (w.heap.size + 1) pktZ (l, false) W0) := by
    have k1 := ((Kept.refl (fun _ => False) w).alloc (.cells pktZ 28)).alloc (.cells pktZ 28)
    have hk : Kept (fun _ => False) w W0 := by rw [hW0]; exact (k1.alloc _).alloc _
    refine ⟨?_, ?_, ?_, ⟨⟨A, cap, ?_, hB.kept hk (fun _ _ _ _ => id), hcap, fun a ha hn => by have := hAb a ha hn; omega⟩, ?_, hlt⟩, by intro n hm; simp [pktZ, byV] at hm⟩
    · exact hk.below (fun _ h => h.elim) (Nat.le_refl _)
    · rw [hW0]
      exact (Below.heap_alloc _ _ _ (by simp <;> omega)).trans ((Below.heap_alloc _ _ _ (by simp <;> omega)).trans ((Below.heap_alloc _ _ _ (by simp)).trans (World.alloc_heap_new w _)))
    · rw [hW0]
      exact (Below.heap_alloc _ _ _ (by simp <;> omega)).trans ((Below.heap_alloc _ _ _ (by simp)).trans (by
        have := World.alloc_heap_new (w.alloc (.cells pktZ 28)) (.cells pktZ 28)
        rwa [World.size_alloc] at this))
    · rw [hW0]
      exact (Below.heap_alloc _ _ _ (by simp)).trans (by
        have := World.alloc_heap_new ((w.alloc (.cells pktZ 28)).alloc (.cells pktZ 28)) (.cells #[.slice A l.length cap] 34)
        rwa [World.size_alloc, World.size_alloc] at this)
    · rw [hW0]
      have := World.alloc_heap_new (((w.alloc (.cells pktZ 28)).alloc (.cells pktZ 28)).alloc (.cells #[.slice A l.length cap] 34)) (.cells #[.bool false] 4)
      rwa [World.size_alloc, World.size_alloc, World.size_alloc] at this
  go_enter Tryd.func12, Tryd.ntmps12
  go_wp2_with fail
  refine (taker_any _ _ _ _).mono ?_
  rintro e w1 ⟨rfl, hw1⟩
  obtain rfl : w1 = W0 := by rw [hw1, hW0]
  clear hw1 hW0
  simp only [World.size_alloc]
  obtain ⟨s0, hs0⟩ : ∃ s0 : RS, s0 = (l, false) := ⟨_, rfl⟩
  obtain ⟨s1, hs1⟩ : ∃ s, s = tkS 1 s0 := ⟨_, rfl⟩
  obtain ⟨v0, hv0⟩ : ∃ v, v = tkI 1 s0 := ⟨_, rfl⟩
  obtain ⟨s2, hs2⟩ : ∃ s, s = tkS 1 s1 := ⟨_, rfl⟩
  obtain ⟨v1, hv1⟩ : ∃ v, v = tkI 1 s1 := ⟨_, rfl⟩
  obtain ⟨s3, hs3⟩ : ∃ s, s = tkS 4 s2 := ⟨_, rfl⟩
  obtain ⟨v2, hv2⟩ : ∃ v, v = tkI 4 s2 := ⟨_, rfl⟩
  obtain ⟨s4, hs4⟩ : ∃ s, s = tkS 4 s3 := ⟨_, rfl⟩
  obtain ⟨v3, hv3⟩ : ∃ v, v = tkI 4 s3 := ⟨_, rfl⟩
  obtain ⟨s5, hs5⟩ : ∃ s, s = tkS 4 s4 := ⟨_, rfl⟩
  obtain ⟨v4, hv4⟩ : ∃ v, v = tkI 4 s4 := ⟨_, rfl⟩
  obtain ⟨s6, hs6⟩ : ∃ s, s = tkS 4 s5 := ⟨_, rfl⟩
  obtain ⟨v5, hv5⟩ : ∃ v, v = tkI 4 s5 := ⟨_, rfl⟩
  obtain ⟨m, hm⟩ : ∃ m, m = (rdM s6).1 := ⟨_, rfl⟩
  obtain ⟨s7, hs7⟩ : ∃ s, s = (rdM s6).2 := ⟨_, rfl⟩
  have HRP : Hid (rdP l = (⟨v0, v1, Wr.u32 v2, Wr.u32 v3, Wr.u32 v4, Wr.u32 v5, m⟩, s7)) := by
    subst hs0 hs1 hs2 hs3 hs4 hs5 hs6 hs7 hv0 hv1 hv2 hv3 hv4 hv5 hm
    rfl
  have hl0 : s0.1.length ≤ 100000 := by rw [hs0]; exact hl
  have hl1 : s1.1.length ≤ 100000 := by rw [hs1]; exact Nat.le_trans (tkS_len _ _) hl0
  have HT0 : Hid (∀ W, Rd (w.heap.size + 1 + 1) (w.heap.size + 1 + 1 + 1) s0 W → Calls Tryd.prog 32 #[.int .i64 (1 : Nat), .pointer (some ⟨w.heap.size + 1 + 1, 0, none⟩), .pointer (some ⟨w.heap.size + 1 + 1 + 1, 0, none⟩)] W fun e W' => e = .returned (.int .i64 v0) ∧ Rd (w.heap.size + 1 + 1) (w.heap.size + 1 + 1 + 1) s1 W' ∧ Kept (fun k => k = w.heap.size + 1 + 1 ∨ k = w.heap.size + 1 + 1 + 1) W W') := fun W h => by rw [hv0, hs1]; exact tkv_any h 1 (by omega) hl0 (by omega)
  have hl2 : s2.1.length ≤ 100000 := by rw [hs2]; exact Nat.le_trans (tkS_len _ _) hl1
  have HT1 : Hid (∀ W, Rd (w.heap.size + 1 + 1) (w.heap.size + 1 + 1 + 1) s1 W → Calls Tryd.prog 32 #[.int .i64 (1 : Nat), .pointer (some ⟨w.heap.size + 1 + 1, 0, none⟩), .pointer (some ⟨w.heap.size + 1 + 1 + 1, 0, none⟩)] W fun e W' => e = .returned (.int .i64 v1) ∧ Rd (w.heap.size + 1 + 1) (w.heap.size + 1 + 1 + 1) s2 W' ∧ Kept (fun k => k = w.heap.size + 1 + 1 ∨ k = w.heap.size + 1 + 1 + 1) W W') := fun W h => by rw [hv1, hs2]; exact tkv_any h 1 (by omega) hl1 (by omega)
  have hl3 : s3.1.length ≤ 100000 := by rw [hs3]; exact Nat.le_trans (tkS_len _ _) hl2
  have HT2 : Hid (∀ W, Rd (w.heap.size + 1 + 1) (w.heap.size + 1 + 1 + 1) s2 W → Calls Tryd.prog 32 #[.int .i64 (4 : Nat), .pointer (some ⟨w.heap.size + 1 + 1, 0, none⟩), .pointer (some ⟨w.heap.size + 1 + 1 + 1, 0, none⟩)] W fun e W' => e = .returned (.int .i64 v2) ∧ Rd (w.heap.size + 1 + 1) (w.heap.size + 1 + 1 + 1) s3 W' ∧ Kept (fun k => k = w.heap.size + 1 + 1 ∨ k = w.heap.size + 1 + 1 + 1) W W') := fun W h => by rw [hv2, hs3]; exact tkv_any h 4 (by omega) hl2 (by omega)
  have hl4 : s4.1.length ≤ 100000 := by rw [hs4]; exact Nat.le_trans (tkS_len _ _) hl3
  have HT3 : Hid (∀ W, Rd (w.heap.size + 1 + 1) (w.heap.size + 1 + 1 + 1) s3 W → Calls Tryd.prog 32 #[.int .i64 (4 : Nat), .pointer (some ⟨w.heap.size + 1 + 1, 0, none⟩), .pointer (some ⟨w.heap.size + 1 + 1 + 1, 0, none⟩)] W fun e W' => e = .returned (.int .i64 v3) ∧ Rd (w.heap.size + 1 + 1) (w.heap.size + 1 + 1 + 1) s4 W' ∧ Kept (fun k => k = w.heap.size + 1 + 1 ∨ k = w.heap.size + 1 + 1 + 1) W W') := fun W h => by rw [hv3, hs4]; exact tkv_any h 4 (by omega) hl3 (by omega)
  have hl5 : s5.1.length ≤ 100000 := by rw [hs5]; exact Nat.le_trans (tkS_len _ _) hl4
  have HT4 : Hid (∀ W, Rd (w.heap.size + 1 + 1) (w.heap.size + 1 + 1 + 1) s4 W → Calls Tryd.prog 32 #[.int .i64 (4 : Nat), .pointer (some ⟨w.heap.size + 1 + 1, 0, none⟩), .pointer (some ⟨w.heap.size + 1 + 1 + 1, 0, none⟩)] W fun e W' => e = .returned (.int .i64 v4) ∧ Rd (w.heap.size + 1 + 1) (w.heap.size + 1 + 1 + 1) s5 W' ∧ Kept (fun k => k = w.heap.size + 1 + 1 ∨ k = w.heap.size + 1 + 1 + 1) W W') := fun W h => by rw [hv4, hs5]; exact tkv_any h 4 (by omega) hl4 (by omega)
  have hl6 : s6.1.length ≤ 100000 := by rw [hs6]; exact Nat.le_trans (tkS_len _ _) hl5
  have HT5 : Hid (∀ W, Rd (w.heap.size + 1 + 1) (w.heap.size + 1 + 1 + 1) s5 W → Calls Tryd.prog 32 #[.int .i64 (4 : Nat), .pointer (some ⟨w.heap.size + 1 + 1, 0, none⟩), .pointer (some ⟨w.heap.size + 1 + 1 + 1, 0, none⟩)] W fun e W' => e = .returned (.int .i64 v5) ∧ Rd (w.heap.size + 1 + 1) (w.heap.size + 1 + 1 + 1) s6 W' ∧ Kept (fun k => k = w.heap.size + 1 + 1 ∨ k = w.heap.size + 1 + 1 + 1) W W') := fun W h => by rw [hv5, hs6]; exact tkv_any h 4 (by omega) hl5 (by omega)
  have HTM : Hid (∀ W, Below w.heap.size w W → Rd (w.heap.size + 1 + 1) (w.heap.size + 1 + 1 + 1) s6 W → Calls Tryd.prog 28 #[takeF (w.heap.size + 1 + 1) (w.heap.size + 1 + 1 + 1)] W fun e W' => ∃ A cap, e = .returned (msgA m A m.claims.length cap) ∧ ClaimsAt W' A m.claims ∧ Rd (w.heap.size + 1 + 1) (w.heap.size + 1 + 1 + 1) s7 W' ∧ Kept (fun k => k = w.heap.size + 1 + 1 ∨ k = w.heap.size + 1 + 1 + 1) W W' ∧ ∀ a, A = some a → ∃ c, W'.heap[a.block]? = some (.cells c 50 (0, 0))) := fun W hb h => by
    rw [hm, hs7]
    exact taken_any (HT.out.below hb) h (by omega) hl6 ⟨by omega, by omega, by omega, by omega⟩
  have hin6 : ∀ c ∈ s6.1, c < 256 := by
    subst hs6 hs5 hs4 hs3 hs2 hs1 hs0
    exact tkS_in (tkS_in (tkS_in (tkS_in (tkS_in (tkS_in hlt)))))
  have HMB : Hid (m.gen < 4294967296 ∧ m.stamp < 18446744073709551616 ∧ m.claims.length ≤ 255) := by rw [hm]; exact rdM_bd hin6
  clear hin6
  rw [← hs0] at HS0
  clear hs0 hs1 hv0 hs2 hv1 hs3 hv2 hs4 hv3 hs5 hv4 hs6 hv5 hm hs7 hl hl0 hl1 hl2 hl3 hl4 hl5 hl6 hB hcap hlt hAb hT
  have HTLT := Lib.hid HTL
  clear HTL
  go_wp2_with fail
  refine (HT0.out _ HS0.out.rd).mono ?_
  rintro e W1 ⟨rfl, hr, hk⟩
  have hS := HS0.out.take (by omega) (by omega) ⟨by omega, by omega⟩ hr hk
  have y := hS.cell (j := 0) rfl
  have z := hS.free 0
  have HP1 : Hid (PI w (w.heap.size + 1 + 1) (w.heap.size + 1 + 1 + 1) (w.heap.size + 1) #[.int .i64 v0, .int .i64 0, .int .u32 0, .int .u32 0, .int .u32 0, .int .u32 0, .int .i64 0, .int .i64 0, .int .u32 0, .int .u64 0, .int .i64 0, .int .i64 0, .int .i64 0, .int .i64 0, .slice none 0 0] s1 _) := hS.set (by omega) ⟨by omega, by omega⟩ 0 (u := .int .i64 v0) (fun n e => by cases e)
  clear hr hk hS
  go_wp2_with fail
  refine (HT1.out _ HP1.out.rd).mono ?_
  rintro e W2 ⟨rfl, hr, hk⟩
  have hS := HP1.out.take (by omega) (by omega) ⟨by omega, by omega⟩ hr hk
  have y := hS.cell (j := 1) rfl
  have z := hS.free 1
  have HP2 : Hid (PI w (w.heap.size + 1 + 1) (w.heap.size + 1 + 1 + 1) (w.heap.size + 1) #[.int .i64 v0, .int .i64 v1, .int .u32 0, .int .u32 0, .int .u32 0, .int .u32 0, .int .i64 0, .int .i64 0, .int .u32 0, .int .u64 0, .int .i64 0, .int .i64 0, .int .i64 0, .int .i64 0, .slice none 0 0] s2 _) := hS.set (by omega) ⟨by omega, by omega⟩ 1 (u := .int .i64 v1) (fun n e => by cases e)
  clear hr hk hS
  go_wp2_with fail
  refine (HT2.out _ HP2.out.rd).mono ?_
  rintro e W3 ⟨rfl, hr, hk⟩
  have hS := HP2.out.take (by omega) (by omega) ⟨by omega, by omega⟩ hr hk
  have y := hS.cell (j := 2) rfl
  have z := hS.free 2
  have HP3 : Hid (PI w (w.heap.size + 1 + 1) (w.heap.size + 1 + 1 + 1) (w.heap.size + 1) #[.int .i64 v0, .int .i64 v1, .int .u32 ((Wr.u32 v2 : Nat) : Int), .int .u32 0, .int .u32 0, .int .u32 0, .int .i64 0, .int .i64 0, .int .u32 0, .int .u64 0, .int .i64 0, .int .i64 0, .int .i64 0, .int .i64 0, .slice none 0 0] s3 _) := hS.set (by omega) ⟨by omega, by omega⟩ 2 (u := .int .u32 ((Wr.u32 v2 : Nat) : Int)) (fun n e => by cases e)
  have e4 : IntKind.u32.wrap v2 = ((Wr.u32 v2 : Nat) : Int) := by rw [IntKind.wrap_u32']; unfold Wr.u32; omega
  clear hr hk hS
  go_wp2_with fail
  refine (HT3.out _ HP3.out.rd).mono ?_
  rintro e W4 ⟨rfl, hr, hk⟩
  have hS := HP3.out.take (by omega) (by omega) ⟨by omega, by omega⟩ hr hk
  have y := hS.cell (j := 3) rfl
  have z := hS.free 3
  have HP4 : Hid (PI w (w.heap.size + 1 + 1) (w.heap.size + 1 + 1 + 1) (w.heap.size + 1) #[.int .i64 v0, .int .i64 v1, .int .u32 ((Wr.u32 v2 : Nat) : Int), .int .u32 ((Wr.u32 v3 : Nat) : Int), .int .u32 0, .int .u32 0, .int .i64 0, .int .i64 0, .int .u32 0, .int .u64 0, .int .i64 0, .int .i64 0, .int .i64 0, .int .i64 0, .slice none 0 0] s4 _) := hS.set (by omega) ⟨by omega, by omega⟩ 3 (u := .int .u32 ((Wr.u32 v3 : Nat) : Int)) (fun n e => by cases e)
  have e4 : IntKind.u32.wrap v3 = ((Wr.u32 v3 : Nat) : Int) := by rw [IntKind.wrap_u32']; unfold Wr.u32; omega
  clear hr hk hS
  go_wp2_with fail
  refine (HT4.out _ HP4.out.rd).mono ?_
  rintro e W5 ⟨rfl, hr, hk⟩
  have hS := HP4.out.take (by omega) (by omega) ⟨by omega, by omega⟩ hr hk
  have y := hS.cell (j := 4) rfl
  have z := hS.free 4
  have HP5 : Hid (PI w (w.heap.size + 1 + 1) (w.heap.size + 1 + 1 + 1) (w.heap.size + 1) #[.int .i64 v0, .int .i64 v1, .int .u32 ((Wr.u32 v2 : Nat) : Int), .int .u32 ((Wr.u32 v3 : Nat) : Int), .int .u32 ((Wr.u32 v4 : Nat) : Int), .int .u32 0, .int .i64 0, .int .i64 0, .int .u32 0, .int .u64 0, .int .i64 0, .int .i64 0, .int .i64 0, .int .i64 0, .slice none 0 0] s5 _) := hS.set (by omega) ⟨by omega, by omega⟩ 4 (u := .int .u32 ((Wr.u32 v4 : Nat) : Int)) (fun n e => by cases e)
  have e4 : IntKind.u32.wrap v4 = ((Wr.u32 v4 : Nat) : Int) := by rw [IntKind.wrap_u32']; unfold Wr.u32; omega
  clear hr hk hS
  go_wp2_with fail
  refine (HT5.out _ HP5.out.rd).mono ?_
  rintro e W6 ⟨rfl, hr, hk⟩
  have hS := HP5.out.take (by omega) (by omega) ⟨by omega, by omega⟩ hr hk
  have y := hS.cell (j := 5) rfl
  have z := hS.free 5
  have HP6 : Hid (PI w (w.heap.size + 1 + 1) (w.heap.size + 1 + 1 + 1) (w.heap.size + 1) #[.int .i64 v0, .int .i64 v1, .int .u32 ((Wr.u32 v2 : Nat) : Int), .int .u32 ((Wr.u32 v3 : Nat) : Int), .int .u32 ((Wr.u32 v4 : Nat) : Int), .int .u32 ((Wr.u32 v5 : Nat) : Int), .int .i64 0, .int .i64 0, .int .u32 0, .int .u64 0, .int .i64 0, .int .i64 0, .int .i64 0, .int .i64 0, .slice none 0 0] s6 _) := hS.set (by omega) ⟨by omega, by omega⟩ 5 (u := .int .u32 ((Wr.u32 v5 : Nat) : Int)) (fun n e => by cases e)
  have e4 : IntKind.u32.wrap v5 = ((Wr.u32 v5 : Nat) : Int) := by rw [IntKind.wrap_u32']; unfold Wr.u32; omega
  clear hr hk hS
  go_wp2_with fail
  clear y z
  refine (HTM.out _ HP6.out.below HP6.out.rd).mono ?_
  rintro e W7 ⟨A7, cap7, rfl, hcl, hr, hk, hty⟩
  have hS := HP6.out.take (by omega) (by omega) ⟨by omega, by omega⟩ hr hk
  have hpb7 := hS.pb
  obtain ⟨mk, mc, mg, ms, mp, mh, mo, mt, cl⟩ := m
  simp only [msgA]
  have y0 := hS.cell (j := 6) rfl
  have z0 := hS.free 6
  have y1 := hS.cell (j := 7) rfl
  have z1 := hS.free 7
  have y2 := hS.cell (j := 8) rfl
  have z2 := hS.free 8
  have y3 := hS.cell (j := 9) rfl
  have z3 := hS.free 9
  have y4 := hS.cell (j := 10) rfl
  have z4 := hS.free 10
  have y5 := hS.cell (j := 11) rfl
  have z5 := hS.free 11
  have y6 := hS.cell (j := 12) rfl
  have z6 := hS.free 12
  have y7 := hS.cell (j := 13) rfl
  have z7 := hS.free 13
  have y8 := hS.cell (j := 14) rfl
  have z8 := hS.free 14
  have g0 : PI w (w.heap.size + 1 + 1) (w.heap.size + 1 + 1 + 1) (w.heap.size + 1) #[.int .i64 v0, .int .i64 v1, .int .u32 ((Wr.u32 v2 : Nat) : Int), .int .u32 ((Wr.u32 v3 : Nat) : Int), .int .u32 ((Wr.u32 v4 : Nat) : Int), .int .u32 ((Wr.u32 v5 : Nat) : Int), .int .i64 mk, .int .i64 0, .int .u32 0, .int .u64 0, .int .i64 0, .int .i64 0, .int .i64 0, .int .i64 0, .slice none 0 0] s7 _ := hS.set (by omega) ⟨by omega, by omega⟩ 6 (u := .int .i64 mk) (fun n e => by cases e)
  have g1 : PI w (w.heap.size + 1 + 1) (w.heap.size + 1 + 1 + 1) (w.heap.size + 1) #[.int .i64 v0, .int .i64 v1, .int .u32 ((Wr.u32 v2 : Nat) : Int), .int .u32 ((Wr.u32 v3 : Nat) : Int), .int .u32 ((Wr.u32 v4 : Nat) : Int), .int .u32 ((Wr.u32 v5 : Nat) : Int), .int .i64 mk, .int .i64 mc, .int .u32 0, .int .u64 0, .int .i64 0, .int .i64 0, .int .i64 0, .int .i64 0, .slice none 0 0] s7 _ := g0.set (by omega) ⟨by omega, by omega⟩ 7 (u := .int .i64 mc) (fun n e => by cases e)
  have g2 : PI w (w.heap.size + 1 + 1) (w.heap.size + 1 + 1 + 1) (w.heap.size + 1) #[.int .i64 v0, .int .i64 v1, .int .u32 ((Wr.u32 v2 : Nat) : Int), .int .u32 ((Wr.u32 v3 : Nat) : Int), .int .u32 ((Wr.u32 v4 : Nat) : Int), .int .u32 ((Wr.u32 v5 : Nat) : Int), .int .i64 mk, .int .i64 mc, .int .u32 (mg : Nat), .int .u64 0, .int .i64 0, .int .i64 0, .int .i64 0, .int .i64 0, .slice none 0 0] s7 _ := g1.set (by omega) ⟨by omega, by omega⟩ 8 (u := .int .u32 (mg : Nat)) (fun n e => by cases e)
  have g3 : PI w (w.heap.size + 1 + 1) (w.heap.size + 1 + 1 + 1) (w.heap.size + 1) #[.int .i64 v0, .int .i64 v1, .int .u32 ((Wr.u32 v2 : Nat) : Int), .int .u32 ((Wr.u32 v3 : Nat) : Int), .int .u32 ((Wr.u32 v4 : Nat) : Int), .int .u32 ((Wr.u32 v5 : Nat) : Int), .int .i64 mk, .int .i64 mc, .int .u32 (mg : Nat), .int .u64 (ms : Nat), .int .i64 0, .int .i64 0, .int .i64 0, .int .i64 0, .slice none 0 0] s7 _ := g2.set (by omega) ⟨by omega, by omega⟩ 9 (u := .int .u64 (ms : Nat)) (fun n e => by cases e)
  have g4 : PI w (w.heap.size + 1 + 1) (w.heap.size + 1 + 1 + 1) (w.heap.size + 1) #[.int .i64 v0, .int .i64 v1, .int .u32 ((Wr.u32 v2 : Nat) : Int), .int .u32 ((Wr.u32 v3 : Nat) : Int), .int .u32 ((Wr.u32 v4 : Nat) : Int), .int .u32 ((Wr.u32 v5 : Nat) : Int), .int .i64 mk, .int .i64 mc, .int .u32 (mg : Nat), .int .u64 (ms : Nat), .int .i64 mp, .int .i64 0, .int .i64 0, .int .i64 0, .slice none 0 0] s7 _ := g3.set (by omega) ⟨by omega, by omega⟩ 10 (u := .int .i64 mp) (fun n e => by cases e)
  have g5 : PI w (w.heap.size + 1 + 1) (w.heap.size + 1 + 1 + 1) (w.heap.size + 1) #[.int .i64 v0, .int .i64 v1, .int .u32 ((Wr.u32 v2 : Nat) : Int), .int .u32 ((Wr.u32 v3 : Nat) : Int), .int .u32 ((Wr.u32 v4 : Nat) : Int), .int .u32 ((Wr.u32 v5 : Nat) : Int), .int .i64 mk, .int .i64 mc, .int .u32 (mg : Nat), .int .u64 (ms : Nat), .int .i64 mp, .int .i64 mh, .int .i64 0, .int .i64 0, .slice none 0 0] s7 _ := g4.set (by omega) ⟨by omega, by omega⟩ 11 (u := .int .i64 mh) (fun n e => by cases e)
  have g6 : PI w (w.heap.size + 1 + 1) (w.heap.size + 1 + 1 + 1) (w.heap.size + 1) #[.int .i64 v0, .int .i64 v1, .int .u32 ((Wr.u32 v2 : Nat) : Int), .int .u32 ((Wr.u32 v3 : Nat) : Int), .int .u32 ((Wr.u32 v4 : Nat) : Int), .int .u32 ((Wr.u32 v5 : Nat) : Int), .int .i64 mk, .int .i64 mc, .int .u32 (mg : Nat), .int .u64 (ms : Nat), .int .i64 mp, .int .i64 mh, .int .i64 mo, .int .i64 0, .slice none 0 0] s7 _ := g5.set (by omega) ⟨by omega, by omega⟩ 12 (u := .int .i64 mo) (fun n e => by cases e)
  have g7 : PI w (w.heap.size + 1 + 1) (w.heap.size + 1 + 1 + 1) (w.heap.size + 1) #[.int .i64 v0, .int .i64 v1, .int .u32 ((Wr.u32 v2 : Nat) : Int), .int .u32 ((Wr.u32 v3 : Nat) : Int), .int .u32 ((Wr.u32 v4 : Nat) : Int), .int .u32 ((Wr.u32 v5 : Nat) : Int), .int .i64 mk, .int .i64 mc, .int .u32 (mg : Nat), .int .u64 (ms : Nat), .int .i64 mp, .int .i64 mh, .int .i64 mo, .int .i64 mt, .slice none 0 0] s7 _ := g6.set (by omega) ⟨by omega, by omega⟩ 13 (u := .int .i64 mt) (fun n e => by cases e)
  have g8 : PI w (w.heap.size + 1 + 1) (w.heap.size + 1 + 1 + 1) (w.heap.size + 1) #[.int .i64 v0, .int .i64 v1, .int .u32 ((Wr.u32 v2 : Nat) : Int), .int .u32 ((Wr.u32 v3 : Nat) : Int), .int .u32 ((Wr.u32 v4 : Nat) : Int), .int .u32 ((Wr.u32 v5 : Nat) : Int), .int .i64 mk, .int .i64 mc, .int .u32 (mg : Nat), .int .u64 (ms : Nat), .int .i64 mp, .int .i64 mh, .int .i64 mo, .int .i64 mt, .slice A7 cl.length cap7] s7 _ := g7.set (by omega) ⟨by omega, by omega⟩ 14 (u := .slice A7 cl.length cap7) (fun n e => by cases e)
  have HP7 := Lib.hid g8
  clear hr hk hS g0 g1 g2 g3 g4 g5 g6 g7 g8
  go_wp2_with fail
  clear y0 z0 y1 z1 y2 z2 y3 z3 y4 z4 y5 z5 y6 z6 y7 z7 y8 z8
  have hkc : Kept (fun k => k = w.heap.size + 1) W7 (((((((((W7.setCell ⟨w.heap.size + 1, 6, none⟩ (.int .i64 mk)).setCell ⟨w.heap.size + 1, 7, none⟩ (.int .i64 mc)).setCell ⟨w.heap.size + 1, 8, none⟩ (.int .u32 (mg : Nat))).setCell ⟨w.heap.size + 1, 9, none⟩ (.int .u64 (ms : Nat))).setCell ⟨w.heap.size + 1, 10, none⟩ (.int .i64 mp)).setCell ⟨w.heap.size + 1, 11, none⟩ (.int .i64 mh)).setCell ⟨w.heap.size + 1, 12, none⟩ (.int .i64 mo)).setCell ⟨w.heap.size + 1, 13, none⟩ (.int .i64 mt)).setCell ⟨w.heap.size + 1, 14, none⟩ (.slice A7 cl.length cap7)) := ch9_kept W7 (w.heap.size + 1) (.int .i64 mk) (.int .i64 mc) (.int .u32 (mg : Nat)) (.int .u64 (ms : Nat)) (.int .i64 mp) (.int .i64 mh) (.int .i64 mo) (.int .i64 mt) (.slice A7 cl.length cap7)
  have HCL : Hid (ClaimsAt (((((((((W7.setCell ⟨w.heap.size + 1, 6, none⟩ (.int .i64 mk)).setCell ⟨w.heap.size + 1, 7, none⟩ (.int .i64 mc)).setCell ⟨w.heap.size + 1, 8, none⟩ (.int .u32 (mg : Nat))).setCell ⟨w.heap.size + 1, 9, none⟩ (.int .u64 (ms : Nat))).setCell ⟨w.heap.size + 1, 10, none⟩ (.int .i64 mp)).setCell ⟨w.heap.size + 1, 11, none⟩ (.int .i64 mh)).setCell ⟨w.heap.size + 1, 12, none⟩ (.int .i64 mo)).setCell ⟨w.heap.size + 1, 13, none⟩ (.int .i64 mt)).setCell ⟨w.heap.size + 1, 14, none⟩ (.slice A7 cl.length cap7)) A7 cl ∧ ∀ a, A7 = some a → ∃ c, (((((((((W7.setCell ⟨w.heap.size + 1, 6, none⟩ (.int .i64 mk)).setCell ⟨w.heap.size + 1, 7, none⟩ (.int .i64 mc)).setCell ⟨w.heap.size + 1, 8, none⟩ (.int .u32 (mg : Nat))).setCell ⟨w.heap.size + 1, 9, none⟩ (.int .u64 (ms : Nat))).setCell ⟨w.heap.size + 1, 10, none⟩ (.int .i64 mp)).setCell ⟨w.heap.size + 1, 11, none⟩ (.int .i64 mh)).setCell ⟨w.heap.size + 1, 12, none⟩ (.int .i64 mo)).setCell ⟨w.heap.size + 1, 13, none⟩ (.int .i64 mt)).setCell ⟨w.heap.size + 1, 14, none⟩ (.slice A7 cl.length cap7)).heap[a.block]? = some (.cells c 50 (0, 0))) := cl_kept ⟨hcl, hty⟩ hkc hpb7
  clear hkc hcl hty hpb7
  generalize (((((((((W7.setCell ⟨w.heap.size + 1, 6, none⟩ (.int .i64 mk)).setCell ⟨w.heap.size + 1, 7, none⟩ (.int .i64 mc)).setCell ⟨w.heap.size + 1, 8, none⟩ (.int .u32 (mg : Nat))).setCell ⟨w.heap.size + 1, 9, none⟩ (.int .u64 (ms : Nat))).setCell ⟨w.heap.size + 1, 10, none⟩ (.int .i64 mp)).setCell ⟨w.heap.size + 1, 11, none⟩ (.int .i64 mh)).setCell ⟨w.heap.size + 1, 12, none⟩ (.int .i64 mo)).setCell ⟨w.heap.size + 1, 13, none⟩ (.int .i64 mt)).setCell ⟨w.heap.size + 1, 14, none⟩ (.slice A7 cl.length cap7)) = W8 at *
  have HP8 : Hid (PI w (w.heap.size + 1 + 1) (w.heap.size + 1 + 1 + 1) (w.heap.size + 1) #[.int .i64 v0, .int .i64 v1, .int .u32 ((Wr.u32 v2 : Nat) : Int), .int .u32 ((Wr.u32 v3 : Nat) : Int), .int .u32 ((Wr.u32 v4 : Nat) : Int), .int .u32 ((Wr.u32 v5 : Nat) : Int), .int .i64 mk, .int .i64 mc, .int .u32 (mg : Nat), .int .u64 (ms : Nat), .int .i64 mp, .int .i64 mh, .int .i64 mo, .int .i64 mt, .slice A7 cl.length cap7] s7 W8) := HP7.out
  have HR8 : Hid (∀ j u, pktZ[j]? = some u → W8.cell? ⟨w.heap.size, j, none⟩ = some u) := fun j u hu => by rw [blk_cell HP8.out.rb]; exact hu
  clear HP7 HP6 HP5 HP4 HP3 HP2 HP1
  refine (whole_any HP8.out.rd).mono ?_
  rintro e w8 ⟨rfl, hw8⟩
  obtain rfl := hw8.symm
  have HRF : Hid (readF l = if whole s7 && okP (⟨v0, v1, Wr.u32 v2, Wr.u32 v3, Wr.u32 v4, Wr.u32 v5, ⟨mk, mc, mg, ms, mp, mh, mo, mt, cl⟩⟩ : Pkt) then some (⟨v0, v1, Wr.u32 v2, Wr.u32 v3, Wr.u32 v4, Wr.u32 v5, ⟨mk, mc, mg, ms, mp, mh, mo, mt, cl⟩⟩ : Pkt) else none) := by rw [Hid, readF, HRP.out]
  cases hwh : whole s7 with
  | false =>
    rw [hwh] at HRF
    have r0 := HR8.out 0 _ rfl
    have fz0 := blk_free HP8.out.rb 0
    have r1 := HR8.out 1 _ rfl
    have fz1 := blk_free HP8.out.rb 1
    have r2 := HR8.out 2 _ rfl
    have fz2 := blk_free HP8.out.rb 2
    have r3 := HR8.out 3 _ rfl
    have fz3 := blk_free HP8.out.rb 3
    have r4 := HR8.out 4 _ rfl
    have fz4 := blk_free HP8.out.rb 4
    have r5 := HR8.out 5 _ rfl
    have fz5 := blk_free HP8.out.rb 5
    have r6 := HR8.out 6 _ rfl
    have fz6 := blk_free HP8.out.rb 6
    have r7 := HR8.out 7 _ rfl
    have fz7 := blk_free HP8.out.rb 7
    have r8 := HR8.out 8 _ rfl
    have fz8 := blk_free HP8.out.rb 8
    have r9 := HR8.out 9 _ rfl
    have fz9 := blk_free HP8.out.rb 9
    have r10 := HR8.out 10 _ rfl
    have fz10 := blk_free HP8.out.rb 10
    have r11 := HR8.out 11 _ rfl
    have fz11 := blk_free HP8.out.rb 11
    have r12 := HR8.out 12 _ rfl
    have fz12 := blk_free HP8.out.rb 12
    have r13 := HR8.out 13 _ rfl
    have fz13 := blk_free HP8.out.rb 13
    have r14 := HR8.out 14 _ rfl
    have fz14 := blk_free HP8.out.rb 14
    have h15 := wr15_facts HP8.out.rb (.int .i64 0) (.int .i64 0) (.int .u32 0) (.int .u32 0) (.int .u32 0) (.int .u32 0) (.int .i64 0) (.int .i64 0) (.int .u32 0) (.int .u64 0) (.int .i64 0) (.int .i64 0) (.int .i64 0) (.int .i64 0) (.slice none 0 0)
    obtain ⟨W9, hW9⟩ : ∃ W9, W9 = (wr15 W8 w.heap.size (.int .i64 0) (.int .i64 0) (.int .u32 0) (.int .u32 0) (.int .u32 0) (.int .u32 0) (.int .i64 0) (.int .i64 0) (.int .u32 0) (.int .u64 0) (.int .i64 0) (.int .i64 0) (.int .i64 0) (.int .i64 0) (.slice none 0 0)) := ⟨_, rfl⟩
    rw [← hW9] at h15
    have HFIN := Lib.hid (HQ1.out HRF.out W9 (HP8.out.below.trans (h15.2.below (fun k e => by omega) HP8.out.below.size)))
    have q0 : W9.cell? ⟨w.heap.size, 0, none⟩ = some (.int .i64 0) := by rw [blk_cell h15.1]; rfl
    have q1 : W9.cell? ⟨w.heap.size, 1, none⟩ = some (.int .i64 0) := by rw [blk_cell h15.1]; rfl
    have q2 : W9.cell? ⟨w.heap.size, 2, none⟩ = some (.int .u32 0) := by rw [blk_cell h15.1]; rfl
    have q3 : W9.cell? ⟨w.heap.size, 3, none⟩ = some (.int .u32 0) := by rw [blk_cell h15.1]; rfl
    have q4 : W9.cell? ⟨w.heap.size, 4, none⟩ = some (.int .u32 0) := by rw [blk_cell h15.1]; rfl
    have q5 : W9.cell? ⟨w.heap.size, 5, none⟩ = some (.int .u32 0) := by rw [blk_cell h15.1]; rfl
    have q6 : W9.cell? ⟨w.heap.size, 6, none⟩ = some (.int .i64 0) := by rw [blk_cell h15.1]; rfl
    have q7 : W9.cell? ⟨w.heap.size, 7, none⟩ = some (.int .i64 0) := by rw [blk_cell h15.1]; rfl
    have q8 : W9.cell? ⟨w.heap.size, 8, none⟩ = some (.int .u32 0) := by rw [blk_cell h15.1]; rfl
    have q9 : W9.cell? ⟨w.heap.size, 9, none⟩ = some (.int .u64 0) := by rw [blk_cell h15.1]; rfl
    have q10 : W9.cell? ⟨w.heap.size, 10, none⟩ = some (.int .i64 0) := by rw [blk_cell h15.1]; rfl
    have q11 : W9.cell? ⟨w.heap.size, 11, none⟩ = some (.int .i64 0) := by rw [blk_cell h15.1]; rfl
    have q12 : W9.cell? ⟨w.heap.size, 12, none⟩ = some (.int .i64 0) := by rw [blk_cell h15.1]; rfl
    have q13 : W9.cell? ⟨w.heap.size, 13, none⟩ = some (.int .i64 0) := by rw [blk_cell h15.1]; rfl
    have q14 : W9.cell? ⟨w.heap.size, 14, none⟩ = some (.slice none 0 0) := by rw [blk_cell h15.1]; rfl
    clear h15
    go_wp2
    change bodyPost _ _ _ _ _ (wr15 W8 w.heap.size (.int .i64 0) (.int .i64 0) (.int .u32 0) (.int .u32 0) (.int .u32 0) (.int .u32 0) (.int .i64 0) (.int .i64 0) (.int .u32 0) (.int .u64 0) (.int .i64 0) (.int .i64 0) (.int .i64 0) (.int .i64 0) (.slice none 0 0))
    rw [← hW9]
    clear hW9
    refine bodyPost_ret (v := .tuple #[.agg #[.int .i64 0, .int .i64 0, .int .u32 0, .int .u32 0, .int .u32 0, .int .u32 0, .int .i64 0, .int .i64 0, .int .u32 0, .int .u64 0, .int .i64 0, .int .i64 0, .int .i64 0, .int .i64 0, .slice none 0 0], .int .i64 70]) (by simp [results, Tryd.results12, go_sem, q0, q1, q2, q3, q4, q5, q6, q7, q8, q9, q10, q11, q12, q13, q14]) rfl HFIN.out
  | true =>
    rw [hwh] at HRF
    have x0 := HP8.out.cell (j := 0) rfl
    have x1 := HP8.out.cell (j := 1) rfl
    have x2 := HP8.out.cell (j := 2) rfl
    have x3 := HP8.out.cell (j := 3) rfl
    have x4 := HP8.out.cell (j := 4) rfl
    have x5 := HP8.out.cell (j := 5) rfl
    have x6 := HP8.out.cell (j := 6) rfl
    have x7 := HP8.out.cell (j := 7) rfl
    have x8 := HP8.out.cell (j := 8) rfl
    have x9 := HP8.out.cell (j := 9) rfl
    have x10 := HP8.out.cell (j := 10) rfl
    have x11 := HP8.out.cell (j := 11) rfl
    have x12 := HP8.out.cell (j := 12) rfl
    have x13 := HP8.out.cell (j := 13) rfl
    have x14 := HP8.out.cell (j := 14) rfl
    have HCK := Lib.hid (checkP_any (HT.out.below HP8.out.below) (⟨v0, v1, Wr.u32 v2, Wr.u32 v3, Wr.u32 v4, Wr.u32 v5, ⟨mk, mc, mg, ms, mp, mh, mo, mt, cl⟩⟩ : Pkt) cap7 HCL.out.1 (by have := HMB.out.2.2; simp at this ⊢; omega) HMB.out.1)
    generalize hn : (if okP (⟨v0, v1, Wr.u32 v2, Wr.u32 v3, Wr.u32 v4, Wr.u32 v5, ⟨mk, mc, mg, ms, mp, mh, mo, mt, cl⟩⟩ : Pkt) = true then (0 : Int) else 71) = n0 at HCK
    simp only [pktA] at HCK
    go_wp2_with fail
    refine HCK.out.mono ?_
    rintro e W10 ⟨rfl, hb10⟩
    have HB10 := Lib.hid hb10
    have HP9 : Hid (PI w (w.heap.size + 1 + 1) (w.heap.size + 1 + 1 + 1) (w.heap.size + 1) #[.int .i64 v0, .int .i64 v1, .int .u32 ((Wr.u32 v2 : Nat) : Int), .int .u32 ((Wr.u32 v3 : Nat) : Int), .int .u32 ((Wr.u32 v4 : Nat) : Int), .int .u32 ((Wr.u32 v5 : Nat) : Int), .int .i64 mk, .int .i64 mc, .int .u32 (mg : Nat), .int .u64 (ms : Nat), .int .i64 mp, .int .i64 mh, .int .i64 mo, .int .i64 mt, .slice A7 cl.length cap7] s7 W10) := by
      have hk := Kept.of_below (X := fun _ => False) hb10 (Nat.le_refl _)
      exact ⟨HP8.out.below.trans (hb10.mono HP8.out.below.size), (hk.block _ (blk_lt HP8.out.rb) id).trans HP8.out.rb, (hk.block _ (blk_lt HP8.out.pb) id).trans HP8.out.pb, HP8.out.rd.kept hk (fun _ h => h.elim), HP8.out.nb⟩
    have HCL9 : Hid (ClaimsAt W10 A7 cl ∧ ∀ a, A7 = some a → ∃ c, W10.heap[a.block]? = some (.cells c 50 (0, 0))) := ⟨HCL.out.1.below hb10, fun a ha => by obtain ⟨c, hc⟩ := HCL.out.2 a ha; exact ⟨c, (hb10.block _ (blk_lt hc)).trans hc⟩⟩
    clear hb10 x0 x1 x2 x3 x4 x5 x6 x7 x8 x9 x10 x11 x12 x13 x14 HCK
    clear HB10 HP8 HR8 HCL
    have HR10 : Hid (∀ j u, pktZ[j]? = some u → W10.cell? ⟨w.heap.size, j, none⟩ = some u) := fun j u hu => by rw [blk_cell HP9.out.rb]; exact hu
    cases hok : okP (⟨v0, v1, Wr.u32 v2, Wr.u32 v3, Wr.u32 v4, Wr.u32 v5, ⟨mk, mc, mg, ms, mp, mh, mo, mt, cl⟩⟩ : Pkt) with
    | false =>
      rw [hok] at hn HRF
      obtain rfl : n0 = 71 := hn.symm
      clear hn hok
      have r0 := HR10.out 0 _ rfl
      have fz0 := blk_free HP9.out.rb 0
      have r1 := HR10.out 1 _ rfl
      have fz1 := blk_free HP9.out.rb 1
      have r2 := HR10.out 2 _ rfl
      have fz2 := blk_free HP9.out.rb 2
      have r3 := HR10.out 3 _ rfl
      have fz3 := blk_free HP9.out.rb 3
      have r4 := HR10.out 4 _ rfl
      have fz4 := blk_free HP9.out.rb 4
      have r5 := HR10.out 5 _ rfl
      have fz5 := blk_free HP9.out.rb 5
      have r6 := HR10.out 6 _ rfl
      have fz6 := blk_free HP9.out.rb 6
      have r7 := HR10.out 7 _ rfl
      have fz7 := blk_free HP9.out.rb 7
      have r8 := HR10.out 8 _ rfl
      have fz8 := blk_free HP9.out.rb 8
      have r9 := HR10.out 9 _ rfl
      have fz9 := blk_free HP9.out.rb 9
      have r10 := HR10.out 10 _ rfl
      have fz10 := blk_free HP9.out.rb 10
      have r11 := HR10.out 11 _ rfl
      have fz11 := blk_free HP9.out.rb 11
      have r12 := HR10.out 12 _ rfl
      have fz12 := blk_free HP9.out.rb 12
      have r13 := HR10.out 13 _ rfl
      have fz13 := blk_free HP9.out.rb 13
      have r14 := HR10.out 14 _ rfl
      have fz14 := blk_free HP9.out.rb 14
      have h15 := wr15_facts HP9.out.rb (.int .i64 0) (.int .i64 0) (.int .u32 0) (.int .u32 0) (.int .u32 0) (.int .u32 0) (.int .i64 0) (.int .i64 0) (.int .u32 0) (.int .u64 0) (.int .i64 0) (.int .i64 0) (.int .i64 0) (.int .i64 0) (.slice none 0 0)
      obtain ⟨W9, hW9⟩ : ∃ W9, W9 = (wr15 W10 w.heap.size (.int .i64 0) (.int .i64 0) (.int .u32 0) (.int .u32 0) (.int .u32 0) (.int .u32 0) (.int .i64 0) (.int .i64 0) (.int .u32 0) (.int .u64 0) (.int .i64 0) (.int .i64 0) (.int .i64 0) (.int .i64 0) (.slice none 0 0)) := ⟨_, rfl⟩
      rw [← hW9] at h15
      have HFIN := Lib.hid (HQ1.out HRF.out W9 (HP9.out.below.trans (h15.2.below (fun k e => by omega) HP9.out.below.size)))
      have q0 : W9.cell? ⟨w.heap.size, 0, none⟩ = some (.int .i64 0) := by rw [blk_cell h15.1]; rfl
      have q1 : W9.cell? ⟨w.heap.size, 1, none⟩ = some (.int .i64 0) := by rw [blk_cell h15.1]; rfl
      have q2 : W9.cell? ⟨w.heap.size, 2, none⟩ = some (.int .u32 0) := by rw [blk_cell h15.1]; rfl
      have q3 : W9.cell? ⟨w.heap.size, 3, none⟩ = some (.int .u32 0) := by rw [blk_cell h15.1]; rfl
      have q4 : W9.cell? ⟨w.heap.size, 4, none⟩ = some (.int .u32 0) := by rw [blk_cell h15.1]; rfl
      have q5 : W9.cell? ⟨w.heap.size, 5, none⟩ = some (.int .u32 0) := by rw [blk_cell h15.1]; rfl
      have q6 : W9.cell? ⟨w.heap.size, 6, none⟩ = some (.int .i64 0) := by rw [blk_cell h15.1]; rfl
      have q7 : W9.cell? ⟨w.heap.size, 7, none⟩ = some (.int .i64 0) := by rw [blk_cell h15.1]; rfl
      have q8 : W9.cell? ⟨w.heap.size, 8, none⟩ = some (.int .u32 0) := by rw [blk_cell h15.1]; rfl
      have q9 : W9.cell? ⟨w.heap.size, 9, none⟩ = some (.int .u64 0) := by rw [blk_cell h15.1]; rfl
      have q10 : W9.cell? ⟨w.heap.size, 10, none⟩ = some (.int .i64 0) := by rw [blk_cell h15.1]; rfl
      have q11 : W9.cell? ⟨w.heap.size, 11, none⟩ = some (.int .i64 0) := by rw [blk_cell h15.1]; rfl
      have q12 : W9.cell? ⟨w.heap.size, 12, none⟩ = some (.int .i64 0) := by rw [blk_cell h15.1]; rfl
      have q13 : W9.cell? ⟨w.heap.size, 13, none⟩ = some (.int .i64 0) := by rw [blk_cell h15.1]; rfl
      have q14 : W9.cell? ⟨w.heap.size, 14, none⟩ = some (.slice none 0 0) := by rw [blk_cell h15.1]; rfl
      clear h15
      go_wp2
      change bodyPost _ _ _ _ _ (wr15 W10 w.heap.size (.int .i64 0) (.int .i64 0) (.int .u32 0) (.int .u32 0) (.int .u32 0) (.int .u32 0) (.int .i64 0) (.int .i64 0) (.int .u32 0) (.int .u64 0) (.int .i64 0) (.int .i64 0) (.int .i64 0) (.int .i64 0) (.slice none 0 0))
      rw [← hW9]
      clear hW9
      refine bodyPost_ret (v := .tuple #[.agg #[.int .i64 0, .int .i64 0, .int .u32 0, .int .u32 0, .int .u32 0, .int .u32 0, .int .i64 0, .int .i64 0, .int .u32 0, .int .u64 0, .int .i64 0, .int .i64 0, .int .i64 0, .int .i64 0, .slice none 0 0], .int .i64 70]) (by simp [results, Tryd.results12, go_sem, q0, q1, q2, q3, q4, q5, q6, q7, q8, q9, q10, q11, q12, q13, q14]) rfl HFIN.out
    | true =>
      rw [hok] at hn HRF
      obtain rfl : n0 = 0 := hn.symm
      clear hn hok
      have x0 := HP9.out.cell (j := 0) rfl
      have x1 := HP9.out.cell (j := 1) rfl
      have x2 := HP9.out.cell (j := 2) rfl
      have x3 := HP9.out.cell (j := 3) rfl
      have x4 := HP9.out.cell (j := 4) rfl
      have x5 := HP9.out.cell (j := 5) rfl
      have x6 := HP9.out.cell (j := 6) rfl
      have x7 := HP9.out.cell (j := 7) rfl
      have x8 := HP9.out.cell (j := 8) rfl
      have x9 := HP9.out.cell (j := 9) rfl
      have x10 := HP9.out.cell (j := 10) rfl
      have x11 := HP9.out.cell (j := 11) rfl
      have x12 := HP9.out.cell (j := 12) rfl
      have x13 := HP9.out.cell (j := 13) rfl
      have x14 := HP9.out.cell (j := 14) rfl
      have r0 := HR10.out 0 _ rfl
      have fz0 := blk_free HP9.out.rb 0
      have r1 := HR10.out 1 _ rfl
      have fz1 := blk_free HP9.out.rb 1
      have r2 := HR10.out 2 _ rfl
      have fz2 := blk_free HP9.out.rb 2
      have r3 := HR10.out 3 _ rfl
      have fz3 := blk_free HP9.out.rb 3
      have r4 := HR10.out 4 _ rfl
      have fz4 := blk_free HP9.out.rb 4
      have r5 := HR10.out 5 _ rfl
      have fz5 := blk_free HP9.out.rb 5
      have r6 := HR10.out 6 _ rfl
      have fz6 := blk_free HP9.out.rb 6
      have r7 := HR10.out 7 _ rfl
      have fz7 := blk_free HP9.out.rb 7
      have r8 := HR10.out 8 _ rfl
      have fz8 := blk_free HP9.out.rb 8
      have r9 := HR10.out 9 _ rfl
      have fz9 := blk_free HP9.out.rb 9
      have r10 := HR10.out 10 _ rfl
      have fz10 := blk_free HP9.out.rb 10
      have r11 := HR10.out 11 _ rfl
      have fz11 := blk_free HP9.out.rb 11
      have r12 := HR10.out 12 _ rfl
      have fz12 := blk_free HP9.out.rb 12
      have r13 := HR10.out 13 _ rfl
      have fz13 := blk_free HP9.out.rb 13
      have r14 := HR10.out 14 _ rfl
      have fz14 := blk_free HP9.out.rb 14
      have h15 := wr15_facts HP9.out.rb (.int .i64 v0) (.int .i64 v1) (.int .u32 ((Wr.u32 v2 : Nat) : Int)) (.int .u32 ((Wr.u32 v3 : Nat) : Int)) (.int .u32 ((Wr.u32 v4 : Nat) : Int)) (.int .u32 ((Wr.u32 v5 : Nat) : Int)) (.int .i64 mk) (.int .i64 mc) (.int .u32 (mg : Nat)) (.int .u64 (ms : Nat)) (.int .i64 mp) (.int .i64 mh) (.int .i64 mo) (.int .i64 mt) (.slice A7 cl.length cap7)
      obtain ⟨W9, hW9⟩ : ∃ W9, W9 = (wr15 W10 w.heap.size (.int .i64 v0) (.int .i64 v1) (.int .u32 ((Wr.u32 v2 : Nat) : Int)) (.int .u32 ((Wr.u32 v3 : Nat) : Int)) (.int .u32 ((Wr.u32 v4 : Nat) : Int)) (.int .u32 ((Wr.u32 v5 : Nat) : Int)) (.int .i64 mk) (.int .i64 mc) (.int .u32 (mg : Nat)) (.int .u64 (ms : Nat)) (.int .i64 mp) (.int .i64 mh) (.int .i64 mo) (.int .i64 mt) (.slice A7 cl.length cap7)) := ⟨_, rfl⟩
      rw [← hW9] at h15
      have HFIN := Lib.hid (HQ2.out (⟨v0, v1, Wr.u32 v2, Wr.u32 v3, Wr.u32 v4, Wr.u32 v5, ⟨mk, mc, mg, ms, mp, mh, mo, mt, cl⟩⟩ : Pkt) A7 cap7 W9 HRF.out (HP9.out.below.trans (h15.2.below (fun k e => by omega) HP9.out.below.size)) (cl_kept HCL9.out h15.2 HP9.out.rb).1)
      have q0 : W9.cell? ⟨w.heap.size, 0, none⟩ = some (.int .i64 v0) := by rw [blk_cell h15.1]; rfl
      have q1 : W9.cell? ⟨w.heap.size, 1, none⟩ = some (.int .i64 v1) := by rw [blk_cell h15.1]; rfl
      have q2 : W9.cell? ⟨w.heap.size, 2, none⟩ = some (.int .u32 ((Wr.u32 v2 : Nat) : Int)) := by rw [blk_cell h15.1]; rfl
      have q3 : W9.cell? ⟨w.heap.size, 3, none⟩ = some (.int .u32 ((Wr.u32 v3 : Nat) : Int)) := by rw [blk_cell h15.1]; rfl
      have q4 : W9.cell? ⟨w.heap.size, 4, none⟩ = some (.int .u32 ((Wr.u32 v4 : Nat) : Int)) := by rw [blk_cell h15.1]; rfl
      have q5 : W9.cell? ⟨w.heap.size, 5, none⟩ = some (.int .u32 ((Wr.u32 v5 : Nat) : Int)) := by rw [blk_cell h15.1]; rfl
      have q6 : W9.cell? ⟨w.heap.size, 6, none⟩ = some (.int .i64 mk) := by rw [blk_cell h15.1]; rfl
      have q7 : W9.cell? ⟨w.heap.size, 7, none⟩ = some (.int .i64 mc) := by rw [blk_cell h15.1]; rfl
      have q8 : W9.cell? ⟨w.heap.size, 8, none⟩ = some (.int .u32 (mg : Nat)) := by rw [blk_cell h15.1]; rfl
      have q9 : W9.cell? ⟨w.heap.size, 9, none⟩ = some (.int .u64 (ms : Nat)) := by rw [blk_cell h15.1]; rfl
      have q10 : W9.cell? ⟨w.heap.size, 10, none⟩ = some (.int .i64 mp) := by rw [blk_cell h15.1]; rfl
      have q11 : W9.cell? ⟨w.heap.size, 11, none⟩ = some (.int .i64 mh) := by rw [blk_cell h15.1]; rfl
      have q12 : W9.cell? ⟨w.heap.size, 12, none⟩ = some (.int .i64 mo) := by rw [blk_cell h15.1]; rfl
      have q13 : W9.cell? ⟨w.heap.size, 13, none⟩ = some (.int .i64 mt) := by rw [blk_cell h15.1]; rfl
      have q14 : W9.cell? ⟨w.heap.size, 14, none⟩ = some (.slice A7 cl.length cap7) := by rw [blk_cell h15.1]; rfl
      clear h15
      go_wp2
      change bodyPost _ _ _ _ _ (wr15 W10 w.heap.size (.int .i64 v0) (.int .i64 v1) (.int .u32 ((Wr.u32 v2 : Nat) : Int)) (.int .u32 ((Wr.u32 v3 : Nat) : Int)) (.int .u32 ((Wr.u32 v4 : Nat) : Int)) (.int .u32 ((Wr.u32 v5 : Nat) : Int)) (.int .i64 mk) (.int .i64 mc) (.int .u32 (mg : Nat)) (.int .u64 (ms : Nat)) (.int .i64 mp) (.int .i64 mh) (.int .i64 mo) (.int .i64 mt) (.slice A7 cl.length cap7))
      rw [← hW9]
      clear hW9
      refine bodyPost_ret (v := .tuple #[.agg #[.int .i64 v0, .int .i64 v1, .int .u32 ((Wr.u32 v2 : Nat) : Int), .int .u32 ((Wr.u32 v3 : Nat) : Int), .int .u32 ((Wr.u32 v4 : Nat) : Int), .int .u32 ((Wr.u32 v5 : Nat) : Int), .int .i64 mk, .int .i64 mc, .int .u32 (mg : Nat), .int .u64 (ms : Nat), .int .i64 mp, .int .i64 mh, .int .i64 mo, .int .i64 mt, .slice A7 cl.length cap7], .int .i64 0]) (by simp [results, Tryd.results12, go_sem, q0, q1, q2, q3, q4, q5, q6, q7, q8, q9, q10, q11, q12, q13, q14]) rfl HFIN.out
end Go.Proofs.YtmfbokaaoffdnaaDoor
