/-
  taken: a message's fields, one by one.
-/
import Derived.Test.YtmfbokaaoffdnaaDoorWrA
import Derived.Test.YtmfbokaaoffdnaaDoorWr5
import Derived.Test.YtmfbokaaoffdnaaDoorInv
import Derived.Laws.EntriesVeiled
namespace Go.Proofs.YtmfbokaaoffdnaaDoor
set_option maxRecDepth 100000
set_option linter.unusedSimpArgs false
open Go Go.RowKit Wr
attribute [local go_sem] Oper.semAt_some

theorem wpIn_inv_round {P : Program} {ops : Array Oper} {Q : Exit → Act → World → Prop} {l0 n : Nat} (Inv : Array Bool → Act → World → Prop) {id : Nat} {a : Act} {w : World} (hm : P.follows .mixedOrders = true) (hnd : noDefer ops = true) (hord : ordered ops = true) (hsz : ∀ l a w, Inv l a w → l.size = ops.size)
    (hstep : ∀ l a w i o, Inv l a w → l.getD i true = false → ops[i]? = some o → (∀ e ∈ o.after, Region.binds .any e = true → l.getD e.on false = true) → o.wp P a w (Inv (l.setIfInBounds i true)) (Calm Q))
    (hdone : ∀ l a w, Inv l a w → (∀ i, i < ops.size → l.getD i true = true) → Q .normal a w) (h0 : Inv (Array.replicate ops.size false) a w.drew) : (Code.region id ops true).wpIn (Fence.wide.inRound l0) n P Q a w :=
  wpIn_region_any hm (wpAnyIn_of_any hnd _ _ _ _ (wpAny_inv (Q := Calm Q) Inv (ordered_spec hord) hsz hstep hdone _ _ _ _ h0 (by rw [Array.toList_replicate]; have := Gq.cnt_le (List.replicate ops.size false); simpa using this)))

@[reducible] def takeF (q f : Nat) : Value := .func (.func 32) #[] #[.pointer (some ⟨q, 0, none⟩), .pointer (some ⟨f, 0, none⟩)]
@[reducible] def msgZ : Array Value := #[.int .i64 0, .int .i64 0, .int .u32 0, .int .u64 0, .int .i64 0, .int .i64 0, .int .i64 0, .int .i64 0, .slice none 0 0]

theorem rdF_snoc (l : List Nat) (s : RS) (x : Nat) : rdF (l ++ [x]) s = rdF1 (rdF l s) x := by simp [rdF]
theorem foldF_len (l : List Nat) : ∀ a : (Nat → Int) × RS, (l.foldl rdF1 a).2.1.length ≤ a.2.1.length := by
  induction l with
  | nil => exact fun a => Nat.le_refl _
  | cons x l ih => exact fun a => Nat.le_trans (ih _) (tkS_len _ _)
theorem rdF_len (l : List Nat) (s : RS) : (rdF l s).2.1.length ≤ s.1.length := foldF_len l _
theorem foldF_in (l : List Nat) : ∀ a : (Nat → Int) × RS, (∀ c ∈ a.2.1, c < 256) → ∀ c ∈ (l.foldl rdF1 a).2.1, c < 256 := by
  induction l with
  | nil => exact fun a h => h
  | cons x l ih => exact fun a h => ih _ (tkS_in h)
theorem rdF_in (l : List Nat) (s : RS) (h : ∀ c ∈ s.1, c < 256) : ∀ c ∈ (rdF l s).2.1, c < 256 := foldF_in l _ h
theorem byte_mem {W : World} {p : Addr} {n : Nat} (h : W.cell? p = some (byV n)) : ∃ c t fz, W.heap[p.block]? = some (.cells c t fz) ∧ byV n ∈ c := by
  cases hb : W.heap[p.block]? with
  | none => simp [World.cell?, hb] at h
  | some o =>
    cases o with
    | cells c t fz =>
      simp [World.cell?, hb] at h
      exact ⟨c, t, fz, rfl, Array.mem_of_getElem? h.2⟩
    | _ => simp [World.cell?, hb] at h

theorem Rd.from {q f B : Nat} : OwnFrom B (fun s W => Rd q f s W) := by
  rintro s W W' row ⟨⟨A, cap, h1, h2, h3, h9⟩, h4, h5⟩ hg hr
  have hne : ∀ {k : Nat} {c : Array Value} {t : TypeId} {f : Nat × Nat}, W.heap[k]? = some (.cells c t f) → W'.heap[k]? = some (.cells c t f) := fun {k c t f} h =>
    (hg.block k (blk_lt h) (fun e => by obtain ⟨_, o, ho, hc⟩ := hr k e.symm; rw [h] at ho; cases ho; cases hc)).trans h
  refine ⟨⟨A, cap, hne h1, fun j hj => ?_, h3, h9⟩, hne h4, h5⟩
  obtain ⟨a, ha, hc⟩ := h2 j hj
  exact ⟨a, ha, cell_kept hc hg (fun r e => (hr r e).2)⟩
theorem Rd.kept {q f : Nat} {s : RS} {W W' : World} {X : Nat → Prop} (h : Rd q f s W) (hk : Kept X W W') (hX : ∀ k, X k → q < k ∧ k ≠ f) : Rd q f s W' := by
  obtain ⟨⟨A, cap, h1, h2, h3, h9⟩, h4, h5⟩ := h
  refine ⟨⟨A, cap, (hk.block _ (blk_lt h1) (fun h => by have := (hX _ h).1; omega)).trans h1, h2.kept hk (fun j hj a ha hx => ?_), h3, h9⟩, (hk.block _ (blk_lt h4) (fun h => (hX _ h).2 rfl)).trans h4, h5⟩
  rw [add_blk] at hx
  have := h9 a ha (by intro e; rw [e] at hj; simp at hj)
  have := (hX _ hx).1
  omega
theorem Rd.alloc {q f : Nat} {s : RS} {W : World} (h : Rd q f s W) (o : Obj) : Rd q f s (W.alloc o) := h.kept ((Kept.refl (fun _ => False) W).alloc o) (fun _ hx => hx.elim)

structure TI (w : World) (q f : Nat) (s0 : RS) (bn : Nat) (pre : List Nat) (W : World) : Prop where
  kept : Kept (fun k => k = q ∨ k = f) w W
  fb : W.heap[w.heap.size]? = some (.cells #[takeF q f] 65 (0, 0))
  rb : W.heap[w.heap.size + 1]? = some (.cells msgZ 26 (0, 0))
  nb : W.heap[bn]? = some (.cells (arr9 (rdF pre s0).1) 53 (0, 0))
  rd : Rd q f (rdF pre s0).2 W
theorem TI.from {w : World} {q f bn B : Nat} {s0 : RS} (hB : w.heap.size ≤ B) : OwnFrom B (fun pre W => TI w q f s0 bn pre W) := by
  rintro pre W W' row ⟨h1, h2, h3, h4, h5⟩ hg hr
  have hne : ∀ {k : Nat} {c : Array Value} {t : TypeId} {f : Nat × Nat}, W.heap[k]? = some (.cells c t f) → W'.heap[k]? = some (.cells c t f) := fun {k c t f} h =>
    (hg.block k (blk_lt h) (fun e => by obtain ⟨_, o, ho, hc⟩ := hr k e.symm; rw [h] at ho; cases ho; cases hc)).trans h
  exact ⟨h1.grown hg (fun k e => .inr (by have := (hr k e).1; omega)), hne h2, hne h3, hne h4, Rd.from _ _ _ _ h5 hg hr⟩

/-- What a round of taken comes to. -/
theorem ti_on {w W w1 : World} {q f bn : Nat} {s0 : RS} {pre : List Nat} {x : Nat} (h : TI w q f s0 bn pre W) (hx : x < 9) (hq : q < w.heap.size) (hf : f < w.heap.size) (hbn : w.heap.size + 1 < bn)
    (hr : Rd q f (tkS (wid x) (rdF pre s0).2) w1) (hk : Kept (fun k => k = q ∨ k = f) W.drew w1) (B : Nat) (hB : bn < B) :
    KeepsFrom B W (w1.setCell ⟨bn, x, none⟩ (.int .i64 (tkI (wid x) (rdF pre s0).2))) ∧ True ∧ TI w q f s0 bn (pre ++ [x]) (w1.setCell ⟨bn, x, none⟩ (.int .i64 (tkI (wid x) (rdF pre s0).2))) := by
  obtain ⟨h1, h2, h3, h4, h5⟩ := h
  have hqf : ∀ k, w.heap.size ≤ k → ¬ (k = q ∨ k = f) := by rintro k hk (e | e) <;> omega
  have b4 : w1.heap[bn]? = some (.cells (arr9 (rdF pre s0).1) 53 (0, 0)) := (hk.block bn (blk_lt h4) (hqf _ (by omega))).trans h4
  have hs := (Kept.refl (fun k => k = bn) w1).setCell (p := ⟨bn, x, none⟩) (.inl rfl) (.int .i64 (tkI (wid x) (rdF pre s0).2))
  have hlt := h1.size
  refine ⟨⟨Nat.le_trans hk.size hs.size, fun k o hk2 ho _ => (hs.block k (Nat.lt_of_lt_of_le (blk_lt ho) hk.size) (by omega)).trans ((hk.block k (blk_lt ho) (hqf k (by omega))).trans ho)⟩, trivial, ?_, ?_, ?_, ?_, ?_⟩
  · have hk' : Kept (fun k => k = q ∨ k = f) W w1 := ⟨hk.os, hk.tape, hk.output, hk.size, hk.block⟩
    exact (h1.trans hk' (fun _ _ h => h)).trans hs (fun i hi e => by omega)
  · exact (hs.block _ (Nat.lt_of_lt_of_le (blk_lt h2) hk.size) (by omega)).trans ((hk.block _ (blk_lt h2) (hqf _ (by omega))).trans h2)
  · exact (hs.block _ (Nat.lt_of_lt_of_le (blk_lt h3) hk.size) (by omega)).trans ((hk.block _ (blk_lt h3) (hqf _ (by omega))).trans h3)
  · rw [blk_set b4, rdF_snoc]
    rw [arr9_set (rdF pre s0).1 (rdF1 (rdF pre s0) x).1 x (tkI (wid x) (rdF pre s0).2) hx (by simp [rdF1]) (fun i hi => by simp [rdF1, hi])]
  · rw [rdF_snoc]
    refine Rd.kept (X := fun k => k = bn) hr hs ?_
    rintro k rfl
    exact ⟨by omega, by omega⟩
end Go.Proofs.YtmfbokaaoffdnaaDoor
