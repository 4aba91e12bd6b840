/-
  A number is met: what holds while messages are told.
-/
import Derived.Test.YtfgajjfcjlejmaaDoorLkD
import Derived.Maps.OwnIn
namespace Go.Proofs.YtfgajjfcjlejmaaDoor
set_option maxRecDepth 100000
set_option linter.unusedSimpArgs false
open Go Go.RowKit Wr
attribute [local go_sem] Oper.semAt_some

/-- Messages of a call's own; their claims' blocks are none of T. -/
def MsgsR (w : World) (T : Nat → Prop) (base : Nat) (v : Value) (L : List Msg) : Prop :=
  ∃ E : List En, E.map (·.1) = L ∧ w.ownsRow base 37 9 v E.length (csM E) ∧ ∀ e ∈ E, ClT w T e.2.1 e.1.claims e.2.2
theorem MsgsR.nil (w : World) (T : Nat → Prop) (B : Nat) : MsgsR w T B (.slice none 0 0) [] := ⟨[], rfl, World.ownsRow_nil _ _ _ _, fun e he => by cases he⟩

/-- What stays while messages are told: of blocks and sets. -/
structure MH (w W0 : World) (T2 S : Nat → Prop) (o mb bu bs : Nat) (v : Value) : Prop where
  t0 : ∀ k, W0.heap.size ≤ k → T2 k
  tu : T2 bu
  st : ∀ k, S k → T2 k
  sl : ∀ k, S k → k < w.heap.size
  u1 : w.heap.size ≤ bu
  u2 : bu < W0.heap.size
  b1 : w.heap.size ≤ bs
  b2 : bs < W0.heap.size
  ub : bs ≠ bu
  so : S o
  sm : S mb
  mo : mb ≠ o
  vo : ∀ g, v.ownBlock = some g → S g ∧ g ≠ o ∧ g ≠ mb
structure MI (w W0 : World) (T2 S : Nat → Prop) (o mb bu bs N : Nat) (v : Value) (E : List En) (s1 : Lk.S) (f : Nat → Option Msg) (uv : Value) (U : List En) (W : World) : Prop where
  kp : Kept S w W
  sz : W0.heap.size ≤ W.heap.size
  obj : W.heap[o]? = some (.cells (objL s1 v mb) 102 (0, 0))
  opn : OpnAt W T2 v E
  erl : ErlAt W T2 mb N f
  bsc : W.heap[bs]? = some (.cells #[.pointer (some ⟨o, 6, none⟩)] 141 (0, 0))
  buc : W.heap[bu]? = some (.cells #[uv] 50 (0, 0))
  row : W.ownsRow W0.heap.size 37 9 uv U.length (csM U)
  cl : ∀ e ∈ U, ClT W T2 e.2.1 e.1.claims e.2.2

section
variable {w W0 W W' : World} {T2 S X : Nat → Prop} {o mb bu bs N : Nat} {v uv : Value} {E U : List En} {s1 : Lk.S} {f : Nat → Option Msg}
/-- Blocks of the call's own turn, none of them a list. -/
theorem MI.other (hH : MH w W0 T2 S o mb bu bs v) (h : MI w W0 T2 S o mb bu bs N v E s1 f uv U W) (hk : Kept X W W') (hX : ∀ k, X k → W0.heap.size ≤ k) (hX2 : ∀ k, X k → ∀ cur t z, W.heap[k]? ≠ some (.cells cur t z)) : MI w W0 T2 S o mb bu bs N v E s1 f uv U W' := by
  have hT : ∀ k, X k → T2 k := fun k hk => hH.t0 k (hX k hk)
  have hw : w.heap.size ≤ W0.heap.size := Nat.le_trans hH.u1 (Nat.le_of_lt hH.u2)
  have hS : ∀ k, S k → ¬ X k := fun k hk hx => by have := hH.sl k hk; have := hX k hx; omega
  refine ⟨h.kp.trans hk (fun i hi hx => by have := hX i hx; omega), Nat.le_trans h.sz hk.size, (hk.block _ (blk_lt h.obj) (hS _ hH.so)).trans h.obj, h.opn.kept hk hT (fun g hg => hS g (hH.vo g hg).1), h.erl.kept hk hT (hS _ hH.sm), (hk.block _ (blk_lt h.bsc) (fun hx => by have := hX _ hx; have := hH.b2; omega)).trans h.bsc, (hk.block _ (blk_lt h.buc) (fun hx => by have := hX _ hx; have := hH.u2; omega)).trans h.buc, hk.row h.row (fun g hg hx => ?_), fun e he => (h.cl e he).kept hk hT⟩
  rcases h.row.2 with ⟨e, _⟩ | ⟨g', cap, cur, e, _, hg', _⟩
  · rw [e] at hg; cases hg
  · rw [e] at hg
    simp [Value.ownBlock] at hg
    subst hg
    exact hX2 _ hx _ _ _ hg'
theorem MI.alloc (hH : MH w W0 T2 S o mb bu bs v) (h : MI w W0 T2 S o mb bu bs N v E s1 f uv U W) (x : Obj) : MI w W0 T2 S o mb bu bs N v E s1 f uv U (W.alloc x) :=
  h.other hH (X := fun _ => False) ((Kept.refl _ W).alloc x) (fun _ h => h.elim) (fun _ h => h.elim)
theorem kept_put (W : World) (l : Nat) (x : Obj) : Kept (fun k => k = l) W (W.putObj l x) := ⟨rfl, rfl, rfl, by simp [World.putObj], fun k _ hk => World.putObj_heap_other hk⟩
theorem MI.put (hH : MH w W0 T2 S o mb bu bs v) (h : MI w W0 T2 S o mb bu bs N v E s1 f uv U W) {l : Nat} (hl : W0.heap.size ≤ l) {ob : Obj} (ho : W.heap[l]? = some ob) (hc : ob.isCells = false) (x : Obj) : MI w W0 T2 S o mb bu bs N v E s1 f uv U (W.putObj l x) := by
  refine h.other hH (kept_put W l x) (fun k e => by rw [e]; exact hl) (fun k e cur t z => ?_)
  rw [e, ho]
  intro e2
  cases e2
  simp [Obj.isCells] at hc
/-- The iterator's own step: a box, and the map without a number. -/
theorem MI.own (hH : MH w W0 T2 S o mb bu bs v) (h : MI w W0 T2 S o mb bu bs N v E s1 f uv U W) {g : Nat → Option En} (hg : ∀ n, (g n).map (·.1) = f n) (hc : ∀ n e, g n = some e → ClT W T2 e.2.1 e.1.claims e.2.2) (x : Obj) (q : Nat)
    (hk : Kept (fun i => i = mb) (W.alloc x) W') (hm : MapV W' 22 litU mb N (fun n => (wo g q n).map enA)) : MI w W0 T2 S o mb bu bs N v E s1 (fun n => if n = q then none else f n) uv U W' ∧ ∀ n e, g n = some e → ClT W' T2 e.2.1 e.1.claims e.2.2 := by
  have ha := h.alloc hH x
  have hT : ∀ k, k = mb → T2 k := fun k e => by rw [e]; exact hH.st _ hH.sm
  have hml := hH.sl _ hH.sm
  have hw : w.heap.size ≤ W0.heap.size := Nat.le_trans hH.u1 (Nat.le_of_lt hH.u2)
  have hcl : ∀ n e, g n = some e → ClT W' T2 e.2.1 e.1.claims e.2.2 := fun n e he => ((hc n e he).below ((Below.refl _ W).alloc (Nat.le_refl _) x)).kept hk hT
  refine ⟨⟨ha.kp.trans hk (fun i _ e => by rw [e]; exact hH.sm), Nat.le_trans ha.sz hk.size, (hk.block _ (blk_lt ha.obj) (fun e => hH.mo e.symm)).trans ha.obj, ha.opn.kept hk hT (fun g hg => (hH.vo g hg).2.2), ⟨wo g q, fun n => ?_, hm, fun n e he => ?_⟩, (hk.block _ (blk_lt ha.bsc) (fun e => by have := hH.b1; omega)).trans ha.bsc, (hk.block _ (blk_lt ha.buc) (fun e => by have := hH.u1; omega)).trans ha.buc, hk.row ha.row (fun g hg e => by have := (ha.row.lt g hg).1; omega), fun e he => (ha.cl e he).kept hk hT⟩, hcl⟩
  · by_cases hnq : n = q
    · simp [wo, hnq]
    · simp only [wo, if_neg hnq]; exact hg n
  · unfold wo at he
    split at he
    · cases he
    · exact hcl n e he
/-- One more is told. -/
theorem MI.push (hH : MH w W0 T2 S o mb bu bs v) (h : MI w W0 T2 S o mb bu bs N v E s1 f uv U W) {e : En} (hc : ClT W T2 e.2.1 e.1.claims e.2.2) {x : Obj} {W4 : World} {v' : Value} (hg : (W.alloc x).grownBy W4 uv.ownBlock) (hr : W4.ownsRow W0.heap.size 37 9 v' (U.length + 1) (csM U ++ msC e.1 (En.v e))) :
    (W4.cell? ⟨bu, 0, none⟩ = some uv ∧ W4.frozen? ⟨bu, 0, none⟩ = false) ∧ MI w W0 T2 S o mb bu bs N v E s1 f v' (U ++ [e]) (W4.setCell ⟨bu, 0, none⟩ v') ∧
    ∀ (k : Nat) (ob : Obj), W.heap[k]? = some ob → ob.isCells = false → (W4.setCell ⟨bu, 0, none⟩ v').heap[k]? = some ob := by
  have ha := h.alloc hH x
  have hw : w.heap.size ≤ W0.heap.size := Nat.le_trans hH.u1 (Nat.le_of_lt hH.u2)
  have huv : ∀ g, uv.ownBlock = some g → W0.heap.size ≤ g := fun g hg => (ha.row.lt g hg).1
  have hk : Kept (fun k => uv.ownBlock = some k) (W.alloc x) W4 := (Kept.refl (fun k => uv.ownBlock = some k) _).grown hg (fun k e => .inl e)
  have hTk : ∀ k, uv.ownBlock = some k → T2 k := fun k e => hH.t0 k (huv k e)
  have hs : Kept (fun k => k = bu) W4 (W4.setCell ⟨bu, 0, none⟩ v') := (Kept.refl (fun k => k = bu) W4).setCell (p := ⟨bu, 0, none⟩) (.inl rfl) v'
  have hTb : ∀ k, k = bu → T2 k := fun k e => by rw [e]; exact hH.tu
  have hb4 : W4.heap[bu]? = _ := (hk.block _ (blk_lt ha.buc) (fun e => by have := huv _ e; have := hH.u2; omega)).trans ha.buc
  have hS1 : ∀ k, S k → uv.ownBlock ≠ some k := fun k hk e => by have := hH.sl k hk; have := huv _ e; omega
  have hS2 : ∀ k, S k → k ≠ bu := fun k hk e => by have := hH.sl k hk; have := hH.u1; omega
  have hcs : csM (U ++ [e]) = csM U ++ msC e.1 (En.v e) := by rw [csM_append]; simp [csM]
  refine ⟨⟨by rw [blk_cell hb4]; rfl, blk_free hb4 0⟩, ⟨(ha.kp.trans hk (fun i hi e => by have := huv _ e; omega)).trans hs (fun i hi e => by have := hH.u1; omega), by simp only [World.size_setCell]; exact Nat.le_trans ha.sz hk.size,
    (hs.block _ (Nat.lt_of_lt_of_le (blk_lt ha.obj) hk.size) (hS2 _ hH.so)).trans ((hk.block _ (blk_lt ha.obj) (hS1 _ hH.so)).trans ha.obj),
    (ha.opn.kept hk hTk (fun g hg => hS1 g (hH.vo g hg).1)).kept hs hTb (fun g hg => hS2 g (hH.vo g hg).1),
    (ha.erl.kept hk hTk (hS1 _ hH.sm)).kept hs hTb (hS2 _ hH.sm),
    (hs.block _ (Nat.lt_of_lt_of_le (blk_lt ha.bsc) hk.size) hH.ub).trans ((hk.block _ (blk_lt ha.bsc) (fun e => by have := huv _ e; have := hH.b2; omega)).trans ha.bsc),
    blk_set hb4 0 v', ?_, fun e' he => ?_⟩, fun k ob hob hcc => ?_⟩
  · rw [hcs, List.length_append]
    exact hs.row hr (fun g hg => by have := (hr.lt g hg).1; have := hH.u2; omega)
  · rcases List.mem_append.1 he with he | he
    · exact ((ha.cl e' he).kept hk hTk).kept hs hTb
    · rw [List.mem_singleton] at he; subst he
      exact ((hc.below ((Below.refl _ W).alloc (Nat.le_refl _) x)).kept hk hTk).kept hs hTb
  · have hka : (W.alloc x).heap[k]? = some ob := (Below.heap_alloc _ _ _ (blk_lt hob)).trans hob
    have hk1 : uv.ownBlock ≠ some k := by
      intro e2
      rcases ha.row.2 with ⟨e3, _⟩ | ⟨g', cap, cur, e3, _, hg', _⟩
      · rw [e3] at e2; cases e2
      · rw [e3] at e2
        simp [Value.ownBlock] at e2
        subst e2
        rw [hg'] at hka
        cases hka
        simp [Obj.isCells] at hcc
    have hk2 : k ≠ bu := by
      intro e2
      rw [e2, ha.buc] at hka
      cases hka
      simp [Obj.isCells] at hcc
    exact (hs.block _ (Nat.lt_of_lt_of_le (blk_lt hka) hk.size) hk2).trans ((hk.block _ (blk_lt hka) hk1).trans hka)
end
end Go.Proofs.YtfgajjfcjlejmaaDoor
