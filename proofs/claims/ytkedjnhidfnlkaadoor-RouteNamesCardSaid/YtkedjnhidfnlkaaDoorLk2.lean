/-
  look: what stands in its loop, from step to step.
-/
import Derived.Test.YtkedjnhidfnlkaaDoorLk1
namespace Go.Proofs.YtkedjnhidfnlkaaDoor
set_option maxRecDepth 100000
open Go Go.RowKit Rq

theorem EM.tcells {bm gm cm R C : Nat} {ms : List UInt8} {w : World} (h : EM bm gm cm R C ms w) (hN : 0 < ms.length) : ∀ k, TS bm gm w k → ∀ o, w.heap[k]? = some o → o.isCells = true := by
  rintro k hk o ho
  rcases hk with rfl | rfl | rfl | ⟨f, hf, q, n, c, hc, hh⟩
  · exact cells_of_cell (h.ways 0 _ rfl) ho
  · exact cells_of_cell h.c0 ho
  · exact cells_of_cell (h.mark 0 hN) ho
  · rcases h.st with hr' | hd
    · rcases hf with rfl | rfl <;> (rw [blk_cell hr'] at hc; simp [cellsE] at hc)
    · obtain ⟨B, gn, gb, T, hM, h6, h7⟩ := hd.tables
      cases hcl : o.isCells with
      | true => rfl
      | false =>
        rcases hf with rfl | rfl
        · rw [h6] at hc
          simp only [Option.some.injEq, Value.slice.injEq] at hc
          obtain ⟨rfl, rfl, _⟩ := hc
          rcases hh with rfl | ⟨j, hj, v, hv, hvk⟩
          · have h1 := hM.cell 0 (by omega)
            rw [loc_lo hN] at h1
            have := cells_of_cell h1 ho
            rw [hcl] at this; cases this
          · have h1 := hM.cell j (by omega)
            rw [loc_lo hj] at h1
            obtain rfl := Option.some.inj (h1.symm.trans hv)
            exact absurd hvk (not_own (hM.own j (by omega)) ho hcl)
        · rw [h7] at hc
          simp only [Option.some.injEq, Value.slice.injEq] at hc
          obtain ⟨rfl, rfl, _⟩ := hc
          rcases hh with rfl | ⟨j, hj, v, hv, hvk⟩
          · have h1 := hM.cell (ms.length + 0) (by omega)
            rw [loc_hi] at h1
            have := cells_of_cell h1 ho
            rw [hcl] at this; cases this
          · have h1 := hM.cell (ms.length + j) (by omega)
            rw [loc_hi] at h1
            obtain rfl := Option.some.inj (h1.symm.trans hv)
            exact absurd hvk (not_own (hM.own (ms.length + j) (by omega)) ho hcl)

theorem PileS.cells {w : World} {b j : Nat} {r : Option Nat} {s : List Pq.It} (h : PileS w b j r s) {k : Nat} (hk : Of b r k) {o : Obj} (ho : w.heap[k]? = some o) : o.isCells = true := by
  obtain ⟨l, ⟨v, hc, hf, hr, hne, hown⟩, _⟩ := h
  rcases hk with rfl | hkr
  · exact cells_of_cell hc ho
  · cases hcl : o.isCells with
    | true => rfl
    | false =>
      rcases hown.2 with ⟨rfl, _⟩ | ⟨g, cap, cur, rfl, _, hg, _⟩
      · rw [← hr] at hkr; cases hkr
      · rw [← hr] at hkr
        have : k = g := by simpa [Value.ownBlock] using hkr
        subst this
        rw [ho] at hg
        cases hg
        cases hcl

/-- What look begins with. -/
structure LoH (E : Env) (w0 : World) : Prop where
  obj : ObjAt E w0
  em : EM E.bm E.gm E.cm E.R E.C E.ms w0
  map : MapM w0 E.m []
  fr : E.fr < E.N
  to_ : E.to_ < E.N
  n1 : E.bm ≠ E.bs
  n2 : E.bm ≠ E.bb
  n3 : E.bm ≠ E.m
  n4 : E.m ≠ E.bs
  n5 : E.m ≠ E.bb
  tm : ∀ k, TS E.bm E.gm w0 k → k ≠ E.m ∧ k ≠ E.bs ∧ k ≠ E.bb

/-- What stands in its loop: cells met, items that wait. -/
structure Lo (E : Env) (w0 : World) (M : List (Nat × Nat)) (s : List Pq.It) (W : World) : Prop where
  obj : ObjAt E W
  em : EM E.bm E.gm E.cm E.R E.C E.ms W
  ts : ∀ k, TS E.bm E.gm W k → TS E.bm E.gm w0 k ∨ w0.heap.size + 5 ≤ k
  map : MapM W E.m M
  c2 : W.cell? ⟨w0.heap.size, 0, none⟩ = some (.pointer (some ⟨E.bs, 0, none⟩))
  cl : W.cell? ⟨w0.heap.size + 2, 0, none⟩ = some (.pointer (some ⟨E.bs, 0, none⟩))
  c6 : W.cell? ⟨w0.heap.size + 3, 0, none⟩ = some (.func (.func 91) #[] #[.pointer (some ⟨w0.heap.size + 2, 0, none⟩)])
  c7 : W.cell? ⟨w0.heap.size + 4, 0, none⟩ = some (.func (.func 71) #[] #[.pointer (some ⟨w0.heap.size + 1, 0, none⟩), .pointer (some ⟨w0.heap.size + 3, 0, none⟩)])
  pile : ∃ r, PileS W (w0.heap.size + 1) 0 r s ∧ (∀ k, some k = r → w0.heap.size + 5 ≤ k) ∧ ∀ k, TS E.bm E.gm W k → ¬ Of (w0.heap.size + 1) r k
  kp : Kept (fun k => k = E.bm ∨ k = E.m) w0 W
  sz : w0.heap.size + 5 ≤ W.heap.size

section
variable {E : Env} {w0 W W' : World} {M M' : List (Nat × Nat)} {s s' : List Pq.It}

theorem LoH.N (H : LoH E w0) : E.N ≤ 1024 := by
  have h1 : E.N = E.ms.length := rfl
  rw [h1, ← H.em.hN]
  exact Nat.mul_le_mul H.em.hR H.em.hC2
theorem LoH.lts (H : LoH E w0) : E.bs < w0.heap.size ∧ E.bb < w0.heap.size ∧ E.m < w0.heap.size ∧ E.bm < w0.heap.size :=
  ⟨World.block_lt_of_cell? w0 ⟨E.bs, 0, none⟩ H.obj.c0, blk_lt H.obj.bans, H.map.lt, World.block_lt_of_cell? w0 ⟨E.bm, 0, none⟩ H.em.c0⟩

theorem Lo.turn (h : Lo E w0 M s W) {X : Nat → Prop} (hk : Kept X W W') (hf : ∀ k, X k → k ≠ E.bs ∧ k ≠ E.bb ∧ k ≠ w0.heap.size ∧ k ≠ w0.heap.size + 2 ∧ k ≠ w0.heap.size + 3 ∧ k ≠ w0.heap.size + 4) (hts : ∀ k, TS E.bm E.gm W k → ¬ X k) (hx : ∀ k, X k → k < w0.heap.size → k = E.m)
    (hm : MapM W' E.m M') (hp : ∃ r, PileS W' (w0.heap.size + 1) 0 r s' ∧ (∀ k, some k = r → w0.heap.size + 5 ≤ k) ∧ ∀ k, TS E.bm E.gm W k → ¬ Of (w0.heap.size + 1) r k) : Lo E w0 M' s' W' := by
  obtain ⟨e1, t1⟩ := h.em.keptX hk hts
  obtain ⟨r, p1, p2, p3⟩ := hp
  exact ⟨h.obj.kept hk (fun e => (hf _ e).1 rfl) (fun e => (hf _ e).2.1 rfl), e1, fun k hk' => h.ts k (t1 k hk'), hm, hk.cell h.c2 (fun e => (hf _ e).2.2.1 rfl), hk.cell h.cl (fun e => (hf _ e).2.2.2.1 rfl),
    hk.cell h.c6 (fun e => (hf _ e).2.2.2.2.1 rfl), hk.cell h.c7 (fun e => (hf _ e).2.2.2.2.2 rfl), ⟨r, p1, p2, fun k hk' => p3 k (t1 k hk')⟩, h.kp.trans hk (fun i hi e => .inr (hx i e hi)), Nat.le_trans h.sz hk.size⟩

theorem Lo.still (h : Lo E w0 M s W) (hk : Kept (fun _ => False) W W') : Lo E w0 M s W' := by
  obtain ⟨r, p1, p2, p3⟩ := h.pile
  exact h.turn hk (fun _ e => e.elim) (fun _ _ e => e) (fun _ e => e.elim) (h.map.kept hk id) ⟨r, p1.kept hk (fun _ _ => id), p2, p3⟩

theorem Lo.asked (H : LoH E w0) (h : Lo E w0 M s W) (hx : EmX E.bm E.gm E.cm E.R E.C E.ms W W') : Lo E w0 M s W' := by
  obtain ⟨r, p1, p2, p3⟩ := h.pile
  have hl := H.lts
  have hsz := h.sz
  have hne : ∀ k, E.bm < k → k ≠ E.bm := fun k hk e => by omega
  refine ⟨h.obj.kept hx.kp (fun e => H.n1 e.symm) (fun e => H.n2 e.symm), hx.em, fun k hk => ?_, h.map.kept hx.kp (fun e => H.n3 e.symm), hx.kp.cell h.c2 (hne _ (by simp; omega)), hx.kp.cell h.cl (hne _ (by simp; omega)), hx.kp.cell h.c6 (hne _ (by simp; omega)), hx.kp.cell h.c7 (hne _ (by simp; omega)),
    ⟨r, p1.kept hx.kp (fun k hk e => p3 k (.inr (.inl e)) hk), p2, fun k hk ho => ?_⟩, h.kp.trans hx.kp (fun i _ e => .inl e), Nat.le_trans hsz hx.kp.size⟩
  · rcases hx.ts k hk with h1 | h1
    · exact h.ts k h1
    · exact .inr (by omega)
  · rcases hx.ts k hk with h1 | h1
    · exact p3 k h1 ho
    · have := p1.lt k ho; omega

theorem Lo.others (H : LoH E w0) (h : Lo E w0 M s W) {row : Option Nat} (hg : W.grownBy W' row) (hr : ∀ r, row = some r → w0.heap.size ≤ r ∧ ∃ o, W.heap[r]? = some o ∧ o.isCells = false) : Lo E w0 M s W' := by
  obtain ⟨r, p1, p2, p3⟩ := h.pile
  have hl := H.lts
  have hk : Kept (fun k => some k = row) W W' := (Kept.refl _ W).grown hg (fun k e => .inl e.symm)
  have hN0 : 0 < E.ms.length := by have := H.fr; have h1 : E.N = E.ms.length := rfl; omega
  have hcell : ∀ (p : Addr) (v : Value), W.cell? p = some v → some p.block ≠ row := fun p v hv e => by
    obtain ⟨_, o, ho, hc⟩ := hr _ e.symm
    rw [cells_of_cell hv ho] at hc; cases hc
  refine h.turn hk (fun k e => ⟨?_, ?_, ?_, ?_, ?_, ?_⟩) (fun k ht e => ?_) (fun k e hlt => ?_) (h.map.kept hk (fun e => ?_)) ⟨r, p1.kept hk (fun k ho e => ?_), p2, p3⟩
  · rintro rfl; exact hcell _ _ h.obj.c0 e
  · rintro rfl
    obtain ⟨_, o, ho, hc⟩ := hr _ e.symm
    rw [h.obj.bans] at ho; cases ho; cases hc
  · rintro rfl; exact hcell _ _ h.c2 e
  · rintro rfl; exact hcell _ _ h.cl e
  · rintro rfl; exact hcell _ _ h.c6 e
  · rintro rfl; exact hcell _ _ h.c7 e
  · obtain ⟨_, o, ho, hc⟩ := hr _ e.symm
    rw [h.em.tcells hN0 k ht o ho] at hc; cases hc
  · have := (hr _ e.symm).1; omega
  · have := (hr _ e.symm).1; omega
  · obtain ⟨_, o, ho2, hc⟩ := hr _ e.symm
    rw [p1.cells ho ho2] at hc; cases hc

/-- A call that turns the pile alone. -/
structure LoP (E : Env) (w0 : World) (M : List (Nat × Nat)) (s' : List Pq.It) (W W' : World) : Prop where
  lo : Lo E w0 M s' W'
  kp : KeepP (w0.heap.size + 1) W W'
  non : ∀ (k : Nat) (o : Obj), W.heap[k]? = some o → o.isCells = false → W'.heap[k]? = some o

theorem Lo.piled (H : LoH E w0) (h : Lo E w0 M s W) {r r' : Option Nat} (p1 : PileS W (w0.heap.size + 1) 0 r s) (p2 : ∀ k, some k = r → w0.heap.size + 5 ≤ k) (p3 : ∀ k, TS E.bm E.gm W k → ¬ Of (w0.heap.size + 1) r k)
    (q1 : PileS W' (w0.heap.size + 1) 0 r' s') (hk : Kp (w0.heap.size + 1) 0 r W W') (hn : Newer W r r') : LoP E w0 M s' W W' := by
  have hl := H.lts
  have hsz := h.sz
  have hN0 : 0 < E.ms.length := by have := H.fr; have h1 : E.N = E.ms.length := rfl; omega
  have hOf : ∀ k, Of (w0.heap.size + 1) r k → k = w0.heap.size + 1 ∨ w0.heap.size + 5 ≤ k := fun k hk => hk.imp id (p2 k)
  have hOf' : ∀ k, Of (w0.heap.size + 1) r' k → Of (w0.heap.size + 1) r k ∨ W.heap.size ≤ k := fun k hk => by
    rcases hk with e | e
    · exact .inl (.inl e)
    · exact (hn k e).imp (fun h => .inr h) id
  refine ⟨h.turn hk.kept (fun k e => by have := hOf k e; omega) (fun k ht e => p3 k ht e) (fun k e hlt => by have := hOf k e; omega) (h.map.kept hk.kept (fun e => by have := hOf _ e; omega)) ⟨r', q1, fun k e => ?_, fun k ht ho => ?_⟩, ⟨hk.kept.size, fun k o ho _ hp => ?_, fun k hp => ?_⟩, fun k o ho hc => ?_⟩
  · rcases hn k e with h1 | h1
    · exact p2 k h1
    · omega
  · rcases hOf' k ho with h1 | h1
    · exact p3 k ht h1
    · have := h.em.tlt hN0 k ht; omega
  · exact (hk.kept.block k (blk_lt ho) (fun e => hp ((p1.pb k).2 e))).trans ho
  · exact (hOf' k ((q1.pb k).1 hp)).imp (fun h => (p1.pb k).2 h) id
  · exact p1.others hk.kept k o ho (by rintro c t f rfl; cases hc)

theorem lo_push (H : LoH E w0) (h : Lo E w0 M s W) {c d : Nat} (hc : c < E.N) (hd : d ≤ 5000) (hs : s.length ≤ 10000) :
    Calls Tryd.prog 71 #[.int .i64 (c : Int), .int .i64 (d : Int), .pointer (some ⟨w0.heap.size + 1, 0, none⟩), .pointer (some ⟨w0.heap.size + 3, 0, none⟩)] W fun e W' => e = .returned (.tuple #[]) ∧ LoP E w0 M (Pq.ins (item (lftF E) d c) s) W W' := by
  obtain ⟨r, p1, p2, p3⟩ := h.pile
  refine (pusher_any ⟨h.obj, h.em, h.c6, h.cl, p1⟩ H.fr H.N hc hd hs (fun ho => ?_)).mono ?_
  · rcases ho with e | e
    · omega
    · have := p2 _ e; omega
  · rintro e W' ⟨rfl, r', q1, q2, q3⟩
    exact ⟨rfl, h.piled H p1 p2 p3 q1 q2 q3⟩

theorem lo_pop (H : LoH E w0) {x : Pq.It} (h : Lo E w0 M (x :: s) W) (hs : s.length ≤ 9999) :
    Calls Tryd.prog 74 #[.pointer (some ⟨w0.heap.size + 1, 0, none⟩)] W fun e W' => e = .returned (.tuple #[.agg #[.int .i64 x.c, .int .i64 x.t, .int .i64 x.i], .bool true]) ∧ LoP E w0 M s W W' := by
  obtain ⟨r, p1, p2, p3⟩ := h.pile
  refine (pop_s p1 hs).mono ?_
  rintro e W' ⟨rfl, q1, q2⟩
  exact ⟨rfl, h.piled H p1 p2 p3 q1 q2 (fun k e => .inl e)⟩

theorem lo_none (h : Lo E w0 M [] W) :
    Calls Tryd.prog 74 #[.pointer (some ⟨w0.heap.size + 1, 0, none⟩)] W fun e W' => e = .returned (.tuple #[.agg #[.int .i64 0, .int .i64 0, .int .i64 0], .bool false]) ∧ Lo E w0 M [] W' ∧ Kept (fun _ => False) W W' := by
  obtain ⟨r, p1, p2, p3⟩ := h.pile
  refine (pop_nil p1).mono ?_
  rintro e W' ⟨rfl, hb⟩
  have hk : Kept (fun _ => False) W W' := Kept.of_below hb (Nat.le_refl _)
  exact ⟨rfl, h.still hk, hk⟩

theorem lo_met (h : Lo E w0 M s W) {c : Nat} (hc : c ≤ 100000) :
    Calls Tryd.prog 75 #[.pointer (some ⟨E.bs, 0, none⟩), .int .i64 (c : Int)] W fun e w' => e = .returned (.bool (metB M c)) ∧ W = w' := met_any h.obj.c4 h.map hc

/-- One more is met. -/
theorem Lo.store (H : LoH E w0) (h : Lo E w0 M s W) {c d : Nat} {D : DataW Unit} (hD : MapD W E.m M D) (hc : ¬ met M c) (hg : W.grownBy W' (some E.m))
    (ho : W'.ownsMap Tryd.prog 3 (plainElem Tryd.prog 3) E.m (M.length + 1) (D.put (.int .i64 (c : Int)) (.lit (.int .i64 (d : Int))))) : Lo E w0 (M ++ [(c, d)]) s W' := by
  obtain ⟨r, p1, p2, p3⟩ := h.pile
  have hl := H.lts
  have hk : Kept (fun k => k = E.m) W W' := (Kept.refl _ W).grown hg (fun k e => .inl (by injection e with e; exact e.symm))
  refine h.turn hk (fun k e => ?_) (fun k ht e => ?_) (fun k e _ => e) (MapM.put hD hc ho) ⟨r, p1.kept hk (fun k ho e => ?_), p2, p3⟩
  · subst e
    exact ⟨H.n4, H.n5, by omega, by omega, by omega, by omega⟩
  · rcases h.ts k ht with h1 | h1
    · exact (H.tm k h1).1 e
    · omega
  · rcases ho with h1 | h1
    · omega
    · have := p2 k h1; omega
end
end Go.Proofs.YtkedjnhidfnlkaaDoor
