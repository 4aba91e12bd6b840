/-
  route.Around: its walk.
-/
import Derived.Test.YtkfijjjnidiejaaDoorQ2
import Derived.Test.YtkfijjjnidiejaaDoorQSort
import Derived.Test.YtkfijjjnidiejaaDoorQPure3
namespace Go.Proofs.YtkfijjjnidiejaaDoor
set_option maxRecDepth 100000
open Go Go.RowKit Rq

/-- What stands while cells are gone through. -/
structure AR (bm gm cm R C : Nat) (ms : List UInt8) (w : World) (g m : Nat) (ban : List Int) (v : Value) (Qm Q : List (Nat × Nat)) (wr : World) : Prop where
  ex : EmX bm gm cm R C ms w wr
  mp : MapM wr m Qm
  own : wr.ownsRow w.heap.size 3 1 v Q.length ((Q.map (·.1)).map natV)
  bans : wr.heap[g]? = some (.cells (bz (banL ms.length ban)) 4 (0, 0))
  dis : ∀ k, TS bm gm wr k → k ≠ m ∧ k ≠ g ∧ v.ownBlock ≠ some k
  mg : m ≠ g
  vm : v.ownBlock ≠ some m
  vg : v.ownBlock ≠ some g
  ml : w.heap.size ≤ m
  gl : w.heap.size ≤ g

section
variable {bm gm cm R C g m : Nat} {ms : List UInt8} {w wr w1 w2 : World} {ban : List Int} {v : Value} {Qm Q : List (Nat × Nat)}

theorem AR.tbm (h : AR bm gm cm R C ms w g m ban v Qm Q wr) : bm ≠ m ∧ bm ≠ g ∧ v.ownBlock ≠ some bm := h.dis bm (.inr (.inl rfl))
/-- A question on edges. -/
theorem AR.asked (h : AR bm gm cm R C ms w g m ban v Qm Q wr) (hx : EmX bm gm cm R C ms wr w1) : AR bm gm cm R C ms w g m ban v Qm Q w1 := by
  have hb := h.tbm
  refine ⟨h.ex.trans hx, h.mp.kept hx.kp (fun e => hb.1 e.symm), hx.kp.row h.own (fun k hk e => hb.2.2 (by rw [← e]; exact hk)), (hx.kp.block g (blk_lt h.bans) (fun e => hb.2.1 e.symm)).trans h.bans, fun k hk => ?_, h.mg, h.vm, h.vg, h.ml, h.gl⟩
  rcases hx.ts k hk with h1 | h1
  · exact h.dis k h1
  · refine ⟨fun e => ?_, fun e => ?_, fun e => ?_⟩
    · have := h.mp.lt; omega
    · have := blk_lt h.bans; omega
    · have := (h.own.lt k e).2; omega
theorem AR.still (h : AR bm gm cm R C ms w g m ban v Qm Q wr) (hk : Kept (fun _ => False) wr w1) : AR bm gm cm R C ms w g m ban v Qm Q w1 :=
  h.asked ((EmX.refl h.ex.em).still hk)
/-- The map turns. -/
theorem AR.upd {y d : Nat} {D : DataW Unit} (h : AR bm gm cm R C ms w g m ban v Q Q wr) (hD : MapD wr m Q D) (hy : ¬ met Q y) (hg : wr.grownBy w1 (some m))
    (ho : w1.ownsMap Tryd.prog 3 (plainElem Tryd.prog 3) m (Q.length + 1) (D.put (.int .i64 (y : Int)) (.lit (.int .i64 (d : Int))))) : AR bm gm cm R C ms w g m ban v (Q ++ [(y, d)]) Q w1 := by
  have hk : Kept (fun k => k = m) wr w1 := (Kept.refl _ wr).grown hg (fun k e => .inl (by injection e with e; exact e.symm))
  obtain ⟨h1, h2⟩ := h.ex.em.keptX hk (fun k hk => (h.dis k hk).1)
  refine ⟨⟨h1, fun k hk' => h.ex.ts k (h2 k hk'), ?_⟩, MapM.put hD hy ho, hk.row h.own (fun k hk e => h.vm (by rw [← e]; exact hk)), (hk.block g (blk_lt h.bans) (fun e => h.mg e.symm)).trans h.bans, fun k hk' => h.dis k (h2 k hk'), h.mg, h.vm, h.vg, h.ml, h.gl⟩
  exact h.ex.kp.trans hk (fun i hi e => by have := h.ml; omega)
/-- The list grows. -/
theorem AR.app {y d g2 cap2 : Nat} {o : Obj} (hN : 0 < ms.length) (h : AR bm gm cm R C ms w g m ban v Qm Q wr) (hg : (wr.alloc o).grownBy w2 v.ownBlock)
    (ho : w2.ownsRow w.heap.size 3 1 (.slice (some ⟨g2, 0, none⟩) (Q.length + 1) cap2) (Q.length + 1) ((Q.map (·.1)).map natV ++ [natV y])) (hat : v.ownBlock = some g2 ∨ g2 = wr.heap.size + 1) : AR bm gm cm R C ms w g m ban (.slice (some ⟨g2, 0, none⟩) (Q.length + 1) cap2) Qm (Q ++ [(y, d)]) w2 := by
  have hk : Kept (fun k => v.ownBlock = some k) wr w2 := ((Kept.refl _ wr).alloc o).trans ((Kept.refl (fun k => v.ownBlock = some k) (wr.alloc o)).grown hg (fun k h => .inl h)) (fun _ _ h => h)
  obtain ⟨h1, h2⟩ := h.ex.em.keptX hk (fun k hk => (h.dis k hk).2.2)
  have hml := h.mp.lt
  have hgl := blk_lt h.bans
  have hne : ∀ k, k < wr.heap.size → v.ownBlock ≠ some k → (Value.slice (some ⟨g2, 0, none⟩) (Q.length + 1) cap2).ownBlock ≠ some k := by
    intro k hk hv e
    simp only [Value.ownBlock, Option.some.injEq] at e
    rcases hat with h3 | h3
    · exact hv (by rw [h3, e])
    · omega
  have hlt : ∀ k, TS bm gm wr k → k < wr.heap.size := h.ex.em.tlt hN
  refine ⟨⟨h1, fun k hk' => h.ex.ts k (h2 k hk'), ?_⟩, h.mp.kept hk h.vm, ?_, (hk.block g hgl h.vg).trans h.bans, fun k hk' => ⟨(h.dis k (h2 k hk')).1, (h.dis k (h2 k hk')).2.1, hne k (hlt k (h2 k hk')) (h.dis k (h2 k hk')).2.2⟩, h.mg, hne m hml h.vm, hne g hgl h.vg, h.ml, h.gl⟩
  · exact h.ex.kp.trans hk (fun i hi e => by have := (h.own.lt i e).1; omega)
  · simpa using ho
end
/-- Is it banned? -/
def banF (ban : List Int) (y : Nat) : Bool := decide ((y : Int) ∈ ban)
/-- What Around tells. -/
def AroundP (bm gm cm R C : Nat) (ms : List UInt8) (c far : Nat) (ban : List Int) (w : World) (e : Ending) (w' : World) : Prop :=
  ∃ (v : Value) (l : List Nat), e = .returned v ∧ EmX bm gm cm R C ms w w' ∧ w'.ownsRow w.heap.size 3 1 v l.length (l.map natV) ∧ l.Pairwise (· < ·) ∧ ∀ x, x ∈ l ↔ ∃ n, n ≤ far ∧ Fw (outs R C ms) (banF ban) c n x

theorem srtQ_mem {l : List Nat} {x : Nat} : x ∈ srtQ l ↔ x ∈ l := by
  simp [srtQ]
theorem srtQ_rise {l : List Nat} (h : l.Nodup) : (srtQ l).Pairwise (· < ·) := by
  have h1 : (srtQ l).Pairwise (· ≤ ·) := by
    have := List.pairwise_mergeSort (le := fun a b : Nat => decide (a ≤ b)) (by intro a b c; simp; omega) (by intro a b; simp; omega) l
    refine List.Pairwise.imp ?_ this
    intro a b hab; simpa using hab
  have h2 : (srtQ l).Nodup := (List.mergeSort_perm l _).nodup_iff.2 h
  rw [List.nodup_iff_pairwise_ne] at h2
  exact (h1.and h2).imp (fun ⟨h3, h4⟩ => Nat.lt_of_le_of_ne h3 h4)

section
variable {bm gm cm R C g m : Nat} {ms : List UInt8} {w wr w1 w2 : World} {ban : List Int} {v : Value} {Q : List (Nat × Nat)}

theorem AR.start {c : Nat} {D : DataW Unit} (hE : EM bm gm cm R C ms w) (hN : 0 < ms.length) (hb1 : Below w.heap.size w w1) (hg1 : w1.heap[g]? = some (.cells (bz (banL ms.length ban)) 4 (0, 0))) (hg2 : w.heap.size ≤ g) (hD : MapD (w1.alloc (.map #[] 0)) w1.heap.size [] D)
    (ho2 : w2.ownsMap Tryd.prog 3 (plainElem Tryd.prog 3) w1.heap.size 1 (D.put (.int .i64 (c : Int)) (.lit (.int .i64 ((0 : Nat) : Int))))) (hgr : (w1.alloc (.map #[] 0)).grownBy w2 (some w1.heap.size)) :
    AR bm gm cm R C ms w g w1.heap.size ban (.slice (some ⟨w2.heap.size, 0, none⟩) 1 1) [(c, 0)] [(c, 0)] (w2.alloc (.cells #[natV c] 3)) := by
  have hk0 : Kept (fun _ => False) w w1 := Kept.of_below hb1 (Nat.le_refl _)
  have hk : Kept (fun k => k = w1.heap.size) w1 w2 := ((Kept.refl _ w1).alloc _).trans ((Kept.refl (fun k => k = w1.heap.size) (w1.alloc (.map #[] 0))).grown hgr (fun k e => .inl (by injection e with e; exact e.symm))) (fun _ _ h => h)
  have hk2 : Kept (fun _ => False) w2 (w2.alloc (.cells #[natV c] 3)) := (Kept.refl _ w2).alloc _
  obtain ⟨e1, t1⟩ := hE.keptX hk0 (fun _ _ => id)
  have l1 := e1.tlt hN
  have l0 := hE.tlt hN
  have s0 := hk0.size
  have s1 := hk.size
  obtain ⟨e2, t2⟩ := e1.keptX hk (fun k hk' e => by have := l1 k hk'; omega)
  obtain ⟨e3, t3⟩ := e2.keptX hk2 (fun _ _ => id)
  have hgl := blk_lt hg1
  have hgne : g ≠ w1.heap.size := by omega
  refine ⟨⟨e3, fun k hk' => .inl (t1 k (t2 k (t3 k hk'))), ?_⟩, ?_, ?_, ?_, fun k hk' => ?_, fun e => hgne e.symm, ?_, ?_, s0, hg2⟩
  · exact ((((Kept.refl (fun k => k = bm) w).trans hk0 (fun _ _ h => h.elim)).trans hk (fun i hi e => by omega)).trans hk2 (fun _ _ h => h.elim))
  · exact (MapM.put hD (by simp [met]) (by simpa using ho2)).kept hk2 id
  · have hnew := heap_alloc_new w2 (.cells #[natV c] 3)
    have := rowQ_of_cells (base := w.heap.size) (cap := 1) (ys := [c]) hnew (by omega) rfl (by simp) (by unfold maxLen; omega) (fun j hj => by
      have : j = 0 := by simp at hj; omega
      subst this
      rw [blk_cell hnew]
      rfl)
    simpa using this
  · exact (hk2.block g (by omega) id).trans ((hk.block g hgl hgne).trans hg1)
  · have h1 := l0 k (t1 k (t2 k (t3 k hk')))
    refine ⟨by omega, by omega, ?_⟩
    simp only [Value.ownBlock, ne_eq, Option.some.injEq]
    omega
  · simp only [Value.ownBlock, ne_eq, Option.some.injEq]
    have := ho2.lt
    omega
  · simp only [Value.ownBlock, ne_eq, Option.some.injEq]
    omega

theorem AR.sorted {c far : Nat} (h : AR bm gm cm R C ms w g m ban v Q Q wr) (hN : Q.length ≤ 100000) (hnd : (Q.map (·.1)).Nodup) (hm : ∀ x, met Q x ↔ ∃ n, n ≤ far ∧ Fw (outs R C ms) (banF ban) c n x) :
    Calls Tryd.prog 84 #[v] wr fun e w' => e = .returned (.tuple #[]) ∧ AroundP bm gm cm R C ms c far ban w (.returned v) w' := by
  have ho := h.own
  rw [show Q.length = (Q.map (·.1)).length by simp] at ho
  refine (sortQ_any ho (by simpa using hN)).mono ?_
  rintro e w' ⟨rfl, h1, hk⟩
  obtain ⟨h2, h3⟩ := h.ex.em.keptX hk (fun k hk => (h.dis k hk).2.2)
  refine ⟨rfl, v, _, rfl, ⟨h2, fun k hk' => h.ex.ts k (h3 k hk'), h.ex.kp.trans hk (fun i hi e => by have := (h.own.lt i e).1; omega)⟩, h1, srtQ_rise hnd, fun x => ?_⟩
  rw [srtQ_mem, ← hm x]
  unfold met
  simp
end

theorem own_shape {w : World} {base n : Nat} {v : Value} {xs : List Value} (h : w.ownsRow base 3 1 v n xs) (hn : 0 < n) : ∃ g cap, v = .slice (some ⟨g, 0, none⟩) n cap := by
  rcases h.2 with ⟨rfl, h0⟩ | ⟨g, cap, cur, rfl, _⟩
  · omega
  · exact ⟨g, cap, rfl⟩

/-- A slot's list, what Around's outer loop has. -/
def OutA (bm gm cm R C : Nat) (ms : List UInt8) (c far : Nat) (ban : List Int) (w : World) (g m : Nat) (v u : Value) (wr : World) : Prop :=
  ∃ (Q : List (Nat × Nat)) (i gq cap : Nat), i ≤ Q.length ∧ v = .slice (some ⟨gq, 0, none⟩) Q.length cap ∧ u = .int .i64 (i : Int) ∧ AR bm gm cm R C ms w g m ban v Q Q wr ∧ Qu ms.length (outs R C ms) (banF ban) c far Q i []
/-- What the inner one has. -/
def InA (bm gm cm R C : Nat) (ms : List UInt8) (c far : Nat) (ban : List Int) (w : World) (g m : Nat) (i x d : Nat) (A : Option Addr) (v u : Value) (wr : World) : Prop :=
  ∃ (Q : List (Nat × Nat)) (j gq cap : Nat), j ≤ (outs R C ms x).length ∧ v = .slice (some ⟨gq, 0, none⟩) Q.length cap ∧ u = .int .i64 (j : Int) ∧ AR bm gm cm R C ms w g m ban v Q Q wr ∧ Qu ms.length (outs R C ms) (banF ban) c far Q i ((outs R C ms x).take j) ∧ Q[i]? = some (x, d) ∧ IntsAt wr A (intsQ (outs R C ms x)) ∧ ∀ a, A = some a → a.block ≠ m ∧ v.ownBlock ≠ some a.block

end Go.Proofs.YtkfijjjnidiejaaDoor
