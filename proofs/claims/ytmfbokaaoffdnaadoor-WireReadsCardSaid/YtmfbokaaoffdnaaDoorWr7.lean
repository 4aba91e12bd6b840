/-
  Bytes: what a packet's bytes are while they come.
-/
import Derived.Test.YtmfbokaaoffdnaaDoorWr5
import Derived.Test.YtmfbokaaoffdnaaDoorWr6
import Derived.Laws.MakeOwn
namespace Go.Proofs.YtmfbokaaoffdnaaDoor
set_option maxRecDepth 100000
set_option linter.unusedSimpArgs false
open Go Go.RowKit Wr
attribute [local go_sem] Oper.semAt_some

@[reducible] def pktC (p : Pkt) (A : Option Addr) (n cap : Nat) : Array Value := #[.int .i64 p.from_, .int .i64 p.to_, .int .u32 (p.fe : Nat), .int .u32 (p.te : Nat), .int .u32 (p.seq : Nat), .int .u32 (p.met : Nat), .int .i64 p.msg.kind, .int .i64 p.msg.cell, .int .u32 (p.msg.gen : Nat), .int .u64 (p.msg.stamp : Nat), .int .i64 p.msg.prio, .int .i64 p.msg.hops, .int .i64 p.msg.origin, .int .i64 p.msg.other, .slice A n cap]
@[reducible] def putF (q : Nat) : Value := .func (.func 25) #[] #[.pointer (some ⟨q, 0, none⟩)]

structure BS (w : World) (p : Pkt) (A : Option Addr) (cap q pf : Nat) (l : List Nat) (W : World) : Prop where
  below : Below w.heap.size w W
  box : W.heap[w.heap.size]? = some (.cells (pktC p A p.msg.claims.length cap) 28 (0, 0))
  fn : W.heap[pf]? = some (.cells #[putF q] 63 (0, 0))
  buf : ∃ v, Buf q (w.heap.size + 1) v l W
  qlt : w.heap.size < q

section
variable {w W W' : World} {p : Pkt} {A : Option Addr} {cap q pf : Nat} {l : List Nat}
theorem BS.alloc (h : BS w p A cap q pf l W) (o : Obj) : BS w p A cap q pf l (W.alloc o) := by
  obtain ⟨h1, h2, h3, ⟨v, h4, h5⟩, h6⟩ := h
  have hk := (Kept.refl (fun _ => False) W).alloc o
  exact ⟨h1.alloc h1.size o, (hk.block _ (blk_lt h2) id).trans h2, (hk.block _ (blk_lt h3) id).trans h3, ⟨v, (hk.block _ (blk_lt h4) id).trans h4, hk.row h5 (fun _ _ => id)⟩, h6⟩
theorem BS.fnc (h : BS w p A cap q pf l W) : W.cell? ⟨pf, 0, none⟩ = some (putF q) := by rw [blk_cell h.fn]; rfl
theorem BS.stays (h : BS w p A cap q pf l W) (hb : Below W.heap.size W W') : BS w p A cap q pf l W' := by
  obtain ⟨h1, h2, h3, ⟨v, h4, h5⟩, h6⟩ := h
  have hk := Kept.of_below (X := fun _ => False) hb (Nat.le_refl _)
  exact ⟨h1.trans (hb.mono h1.size), (hk.block _ (blk_lt h2) id).trans h2, (hk.block _ (blk_lt h3) id).trans h3, ⟨v, (hk.block _ (blk_lt h4) id).trans h4, hk.row h5 (fun _ _ => id)⟩, h6⟩
theorem BS.drew (h : BS w p A cap q pf l W) : BS w p A cap q pf l W.drew := ⟨h.below.drew, h.box, h.fn, (by obtain ⟨v, h1, h2⟩ := h.buf; exact ⟨v, h1, h2⟩), h.qlt⟩
theorem BS.from {B : Nat} (hB : w.heap.size ≤ B) : OwnFrom B (fun l W => BS w p A cap q pf l W) := by
  rintro l W W' row ⟨h1, h2, h3, ⟨v, h4, h5⟩, h6⟩ hg hr
  have hne : ∀ {k : Nat} {c : Array Value} {t : TypeId} {f : Nat × Nat}, W.heap[k]? = some (.cells c t f) → W'.heap[k]? = some (.cells c t f) := fun {k c t f} h =>
    (hg.block k (blk_lt h) (fun e => by obtain ⟨_, o, ho, hc⟩ := hr k e.symm; rw [h] at ho; cases ho; cases hc)).trans h
  refine ⟨h1.grown hg h1.size (fun k e => by have := (hr k e).1; omega), hne h2, hne h3, ⟨v, hne h4, h5.kept hg ?_⟩, h6⟩
  by_cases hv : ∃ g, v.ownBlock = some g
  · obtain ⟨g, hv⟩ := hv
    obtain ⟨c, hc⟩ := row_block h5 hv
    refine .inr (fun e => ?_)
    rw [hv] at e
    obtain ⟨_, o, ho, hoc⟩ := hr g e.symm
    rw [hc] at ho
    cases ho
    cases hoc
  · left
    cases hvo : v.ownBlock with
    | none => rfl
    | some g => exact absurd ⟨g, hvo⟩ hv
end

/-- Behind one call of put: what else lies there, of another type, stays. -/
structure PB (w : World) (p : Pkt) (A : Option Addr) (cap q pf : Nat) (l : List Nat) (W W' : World) : Prop where
  bs : BS w p A cap q pf l W'
  other : ∀ (k : Nat) (c : Array Value) (t : TypeId) (f : Nat × Nat), W.heap[k]? = some (.cells c t f) → t ≠ 5 → t ≠ 34 → W'.heap[k]? = some (.cells c t f)
  keeps : ∀ B, KeepsFrom B W W'
theorem BS.put {w W W' : World} {p : Pkt} {A : Option Addr} {cap q pf : Nat} {l l' : List Nat} {v : Value} {e : Ending} (h : BS w p A cap q pf l W) (hv : Buf q (w.heap.size + 1) v l W) (hp : PutPost q (w.heap.size + 1) v l' W e W') : e = .returned (.tuple #[]) ∧ PB w p A cap q pf l' W W' := by
  obtain ⟨rfl, v', hb, hk, _⟩ := hp
  have hX : ∀ (k : Nat) (c : Array Value) (t : TypeId) (f : Nat × Nat), W.heap[k]? = some (.cells c t f) → t ≠ 5 → t ≠ 34 → W'.heap[k]? = some (.cells c t f) := by
    intro k c t f hc h1 h2
    refine (hk.block k (blk_lt hc) ?_).trans hc
    rintro (rfl | e)
    · rw [hv.var] at hc
      injection hc with hc
      injection hc with _ h3 _
      exact h2 h3.symm
    · exact row_apart hv.own hc h1 e
  refine ⟨rfl, ⟨?_, hX _ _ _ _ h.box (by decide) (by decide), hX _ _ _ _ h.fn (by decide) (by decide), ⟨v', hb⟩, h.qlt⟩, hX, fun B => ⟨hk.size, fun k o _ ho hc => ?_⟩⟩
  · refine h.below.trans (hk.below ?_ h.below.size)
    rintro k (rfl | e)
    · have := h.qlt; omega
    · have := (hv.own.lt k e).1; omega
  · refine (hk.block k (blk_lt ho) ?_).trans ho
    rintro (rfl | e)
    · rw [hv.var] at ho; cases ho; cases hc
    · obtain ⟨c, hc'⟩ := row_block hv.own e
      rw [hc'] at ho; cases ho; cases hc
theorem put_at {w W : World} {p : Pkt} {A : Option Addr} {cap q pf : Nat} {l : List Nat} (h : BS w p A cap q pf l W) (hl : l.length ≤ 1000000) (wd : Nat) (hw : wd ≤ 8) (n : Int) :
    Calls Tryd.prog 25 #[.int .i64 (wd : Nat), .int .i64 n, .pointer (some ⟨q, 0, none⟩)] W fun e W' => e = .returned (.tuple #[]) ∧ PB w p A cap q pf (l ++ dbl (be wd n)) W W' := by
  obtain ⟨v, hv⟩ := h.buf
  have hB : w.heap.size + 1 ≤ W.heap.size := blk_lt h.box
  exact (put_any hv hB hl wd hw n).mono fun e W' hp => h.put hv hp
end Go.Proofs.YtmfbokaaoffdnaaDoor
