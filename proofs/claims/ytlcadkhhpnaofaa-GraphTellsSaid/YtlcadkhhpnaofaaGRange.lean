/-
  A range over an iterator that turns memory of its own between two rounds (what is its own may grow), in a loop whose body never leaves; by itself, and in a round of another loop.
-/
import Derived.Test.YtlcadkhhpnaofaaGMem
import Derived.RangeFuncNested
import Derived.RangeFuncCalls
import Derived.RangeFuncLeaves
namespace Go.Proofs.Ytlcadkhhpnaofaa
set_option maxRecDepth 100000
open Go Go.RowKit

/-- What a round keeps: the blocks of X. -/
def KeepB (X : Nat → Prop) (A B : World) : Prop := A.heap.size ≤ B.heap.size ∧ ∀ k, X k → k < A.heap.size → B.heap[k]? = A.heap[k]?
theorem KeepB.refl (X : Nat → Prop) (A : World) : KeepB X A A := ⟨Nat.le_refl _, fun _ _ _ => rfl⟩
theorem KeepB.trans {X : Nat → Prop} {A B C : World} (h : KeepB X A B) (k : KeepB X B C) : KeepB X A C :=
  ⟨Nat.le_trans h.1 k.1, fun i hx hi => (k.2 i hx (Nat.lt_of_lt_of_le hi h.1)).trans (h.2 i hx hi)⟩
theorem KeepB.of_kept {X Y : Nat → Prop} {A B : World} (h : Kept Y A B) (hX : ∀ k, X k → k < A.heap.size → ¬ Y k) : KeepB X A B := ⟨h.size, fun k hx hk => h.block k hk (hX k hx hk)⟩
theorem KeepB.putObj {X : Nat → Prop} (W : World) {l : Nat} (o : Obj) (h : ¬ X l) : KeepB X W (W.putObj l o) :=
  ⟨by simp [World.putObj], fun k hx _ => World.putObj_heap_other (fun e => h (e ▸ hx))⟩

/-- A step of an iterator's own: of what was its own it may turn, and new blocks may be its own. -/
def Stp (G G' : Nat → Prop) (A B : World) : Prop := Kept G A B ∧ ∀ k, G' k → G k ∨ (A.heap.size ≤ k ∧ k < B.heap.size)
theorem Stp.refl (G : Nat → Prop) (A : World) : Stp G G A A := ⟨Kept.refl _ _, fun _ h => .inl h⟩

/-- How a round ends. -/
def roundEnd {α : Type} (B : Nat) (X G : Nat → Prop) (I : (Nat → Prop) → List α → World → Prop) (xs : List α) (W : World) : Exit → Act → World → Prop
  | .normal, _, W' => KeepsFrom B W W' ∧ KeepB (fun k => X k ∨ G k) W W' ∧ I G xs W'
  | _, _, _ => False

/-- What an iterator (it reads X, and G is its own) is asked: at every J that its own steps leave alone, it comes to its end having told xs. -/
def Tells {α : Type} (n : Nat) (P : Program) (gf : Nat) (lb : Array Value) (encs : α → Array Value) (X G0 : Nat → Prop) (S : (Nat → Prop) → World → Prop) (xs : List α) (w : World) : Prop :=
  ∀ (l : Nat) (J : (Nat → Prop) → List α → World → Prop) (W : World), Below w.heap.size w W → (∀ G G' s A B, J G s A → Stp G G' A B → J G' s B) →
    (∀ G pre x W1, J G pre W1 → pre ++ [x] <+: xs → YieldAt Fence.wide (n - 1) P l (encs x) W1 fun e W' => e = .returned (.bool true) ∧ J G (pre ++ [x]) W' ∧ KeepB (fun k => X k ∨ G k) W1 W') →
    J G0 [] W → CallsIn Fence.wide n P gf (#[.func (.yield l) #[] #[]] ++ lb) W fun e W' => (∃ v, e = .returned v) ∧ ∃ G, S G W' ∧ J G xs W'

theorem range_wide {α : Type} {P : Program} {n : Nat} {g : Operand} {ps : Array Tmp} {assign body : Code} {Q : Exit → Act → World → Prop} {a : Act} {w w0 : World}
    (h1 : 1 ≤ n) {gf : Nat} {lb : Array Value} (hg : a.eval g = .func (.func gf) #[] lb) (eg : ∀ args w, (callFunc gf args).run P w = .ok (.enter gf args) w)
    {encs : α → Array Value} (hps : ∀ x, (encs x).size = ps.size) {X G0 : Nat → Prop} {S : (Nat → Prop) → World → Prop} {xs : List α}
    (hseq : Tells (n - 1) P gf lb encs X G0 S xs w0) (hb0 : Below w0.heap.size w0 w) (hX : ∀ k, X k → k < w.heap.size) (hG0 : ∀ k, G0 k → k < w.heap.size)
    (I : (Nat → Prop) → List α → World → Prop) (hI : ∀ G, OwnFrom w.heap.size (I G)) (hIT : ∀ G G' s A B, I G s A → Stp G G' A B → I G' s B) (hS : ∀ G, OwnFrom w.heap.size (fun (_ : Unit) W => S G W)) (h0 : I G0 [] w)
    (Ax : α → Act → World → Prop) (hAx : ∀ x a', OwnFrom w.heap.size (fun (_ : Unit) W => Ax x a' W))
    (hassign : ∀ (l : Nat) (G : Nat → Prop) (pre : List α) (x : α) (W : World) (K : Act → World → Prop), I G pre W → (∀ a' W', KeepsFrom w.heap.size W W' → KeepB (fun k => X k ∨ G k) W W' → I G pre W' → Ax x a' W' → K a' W') →
      assign.wpIn (Fence.wide.inRound l) (n - 1 - 1) P (Exit.then K (fun _ _ _ => False)) { tmps := (ps.zip (encs x)).foldl (fun t (p, v) => t.setIfInBounds p v) a.tmps, defers := [] } W)
    (hbody : ∀ (l : Nat) (G : Nat → Prop) (pre : List α) (x : α) (a' : Act) (W : World), w.heap.size ≤ l → (∃ r, W.heap[l]? = some (.loop r)) → I G pre W → Ax x a' W → pre ++ [x] <+: xs → body.wpIn (Fence.wide.inRound l) (n - 1 - 1) P (roundEnd w.heap.size X G I (pre ++ [x]) W) a' W)
    (hdone : ∀ (D : Nat) (G : Nat → Prop) (W : World), w.heap.size ≤ D → S G W → I G xs W → W.heap[D]? = some (.deferred (some [])) → Q .normal { a with defers := { target := .collected D, args := #[] } :: a.defers } W) :
    (Code.rangeFunc g ps assign body).wpIn Fence.wide n P Q a w := by
  refine wpIn_rangeFunc fun fn hfn => ?_
  obtain ⟨rc, hrc⟩ : ∃ rc : LoopState → Option Code → Loop, rc = fun st pe => { state := st, pending := pe, fn, tmps := a.tmps, params := ps, assign, body, defers := w.heap.size } := ⟨_, rfl⟩
  obtain ⟨W1, hW1, hd1, hl1, hi1, hb1⟩ : ∃ W1, (w.alloc (.deferred (some []))).alloc (.loop (rc .ready none)) = W1 ∧ W1.heap[w.heap.size]? = some (.deferred (some [])) ∧ W1.heap[w.heap.size + 1]? = some (.loop (rc .ready none)) ∧ I G0 [] W1 ∧ Below w0.heap.size w0 W1 := by
    refine ⟨_, rfl, ?_, ?_, (hI G0).alloc _ ((hI G0).alloc _ h0), ?_⟩
    · rw [Below.heap_alloc _ _ _ (by simp)]; exact World.alloc_heap_new w _
    · have := World.alloc_heap_new (w.alloc (.deferred (some []))) (.loop (rc .ready none)); rwa [World.size_alloc] at this
    · exact hb0.trans ((((Below.refl _ w).alloc (Nat.le_refl _) _).alloc (by simp) _).mono hb0.size)
  refine ⟨w.heap.size + 1, [{ target := .collected w.heap.size, args := #[] }], W1, { target := .fn (.func gf) lb, args := #[.func (.yield (w.heap.size + 1)) #[] #[]] }, W1, gf,
    #[.func (.yield (w.heap.size + 1)) #[] #[]] ++ lb, W1, ?_, ?_, fun _ _ => trivial, ?_, fun _ => h1, ?_⟩
  · rw [← hW1, hrc]; exact run_enterLoop_outer _ _ _ _ _
  · simp only [resolve, hg]
    simp [go_sem]
  · simp [invoke, go_sem, eg]
  refine (hseq (w.heap.size + 1) (fun G pre W => I G pre W ∧ W.heap[w.heap.size + 1]? = some (.loop (rc .ready none)) ∧ W.heap[w.heap.size]? = some (.deferred (some [])) ∧ ¬ G w.heap.size ∧ ¬ G (w.heap.size + 1)) W1 hb1
    (fun G G' s A B hs ht => by
      obtain ⟨h1, h2, h3, h4, h5⟩ := hs
      have z2 : w.heap.size + 1 < A.heap.size := (Array.getElem?_eq_some_iff.1 h2).1
      refine ⟨hIT G G' s A B h1 ht, (ht.1.block _ z2 h5).trans h2, (ht.1.block _ (by omega) h4).trans h3, fun h => ?_, fun h => ?_⟩
      · rcases ht.2 _ h with h | h
        · exact h4 h
        · omega
      · rcases ht.2 _ h with h | h
        · exact h5 h
        · omega) ?_ ⟨hi1, hl1, hd1, fun h => by have := hG0 _ h; omega, fun h => by have := hG0 _ h; omega⟩).mono ?_
  · -- a round
    rintro G pre x W ⟨hi, hl, hd, hgl⟩ hpre
    have hy := run_yield (P := P) (args := encs x) hl (by rw [hrc]; exact hps x)
    rw [hrc] at hy
    refine ⟨fn, _, assign, body, hy, roundIn_of_wpIn hfn (hassign _ G pre x W _ hi ?_)⟩
    clear hy
    intro a' W2 hf2 hp2 hi2 hx2
    have hl2 := hf2.same _ _ (by omega) hl rfl
    have hd2 := hf2.same _ _ (Nat.le_refl _) hd rfl
    have hz2 : w.heap.size + 1 < W2.heap.size := (Array.getElem?_eq_some_iff.1 hl2).1
    refine ⟨_, run_beginRound hl2 (by rw [hrc]), ?_⟩
    have hl3 : (W2.putObj (w.heap.size + 1) (.loop { rc .ready none with state := .busy })).heap[w.heap.size + 1]? = some (.loop { rc .ready none with state := .busy }) := World.putObj_heap_same hz2
    have hd3 : (W2.putObj (w.heap.size + 1) (.loop { rc .ready none with state := .busy })).heap[w.heap.size]? = some (.deferred (some [])) := (World.putObj_heap_other (by omega)).trans hd2
    have hp3 : KeepB (fun k => X k ∨ G k) W2 (W2.putObj (w.heap.size + 1) (.loop { rc .ready none with state := .busy })) := KeepB.putObj _ _ (fun h => h.elim (fun h => by have := hX _ h; omega) hgl.2)
    refine wpIn_mono (hbody _ G pre x a' _ (by omega) ⟨_, hl3⟩ ((hI G).putObj _ hi2 (by omega) hl2 rfl) ((hAx x a').putObj (s := ()) _ hx2 (by omega) hl2 rfl) hpre) ?_
    intro e a3 W3 hp
    cases e with
    | normal =>
      obtain ⟨hk4, hp4, hi4⟩ := hp
      have hl4 := hk4.same _ _ (by omega) hl3 rfl
      have hd4 := hk4.same _ _ (Nat.le_refl _) hd3 rfl
      have he := run_endRound (P := P) none hl4
      have hz4 : w.heap.size + 1 < W3.heap.size := (Array.getElem?_eq_some_iff.1 hl4).1
      rw [hrc] at he hl4
      refine ⟨_, _, he, rfl, ⟨(hI G).putObj _ hi4 (by omega) hl4 rfl, ?_, (World.putObj_heap_other (by omega)).trans hd4, hgl⟩, hp2.trans ((hp3.trans hp4).trans (KeepB.putObj _ _ (fun h => h.elim (fun h => by have := hX _ h; omega) hgl.2)))⟩
      rw [hrc]; exact World.putObj_heap_same hz4
    | ret => exact hp.elim
    | exit id => exact hp.elim
    | goto t => exact hp.elim
    | panic ch => exact hp.elim
    | outgrown => exact hp.elim
  · -- the iterator has come to its end
    rintro e W2 ⟨⟨v, rfl⟩, G, hs, hi, hl, hd, hgl⟩
    have he := run_endLoop (P := P) hl (by rw [hrc]; simp)
    rw [hrc] at he hl
    exact ⟨none, _, he, hdone _ G _ (Nat.le_refl _) ((hS G).putObj (s := ()) _ hs (by omega) hl rfl) ((hI G).putObj _ hi (by omega) hl rfl) ((World.putObj_heap_other (by omega)).trans hd)⟩

theorem range_nested {α : Type} {P : Program} {n : Nat} {g : Operand} {ps : Array Tmp} {assign body : Code} {Q : Exit → Act → World → Prop} {a : Act} {w w0 : World} {l₀ : Nat} {r₀ : Loop} (hl₀ : w.heap[l₀]? = some (.loop r₀))
    (h1 : 1 ≤ n) {gf : Nat} {lb : Array Value} (hg : a.eval g = .func (.func gf) #[] lb) (eg : ∀ args w, (callFunc gf args).run P w = .ok (.enter gf args) w)
    {encs : α → Array Value} (hps : ∀ x, (encs x).size = ps.size) {X G0 : Nat → Prop} {S : (Nat → Prop) → World → Prop} {xs : List α}
    (hseq : Tells (n - 1) P gf lb encs X G0 S xs w0) (hb0 : Below w0.heap.size w0 w) (hX : ∀ k, X k → k < w.heap.size) (hG0 : ∀ k, G0 k → k < w.heap.size)
    (I : (Nat → Prop) → List α → World → Prop) (hI : ∀ G, OwnFrom w.heap.size (I G)) (hIT : ∀ G G' s A B, I G s A → Stp G G' A B → I G' s B) (hS : ∀ G, OwnFrom w.heap.size (fun (_ : Unit) W => S G W)) (h0 : I G0 [] w)
    (Ax : α → Act → World → Prop) (hAx : ∀ x a', OwnFrom w.heap.size (fun (_ : Unit) W => Ax x a' W))
    (hassign : ∀ (l : Nat) (G : Nat → Prop) (pre : List α) (x : α) (W : World) (K : Act → World → Prop), I G pre W → (∀ a' W', KeepsFrom w.heap.size W W' → KeepB (fun k => X k ∨ G k) W W' → I G pre W' → Ax x a' W' → K a' W') →
      assign.wpIn (Fence.wide.inRound l) (n - 1 - 1) P (Exit.then K (fun _ _ _ => False)) { tmps := (ps.zip (encs x)).foldl (fun t (p, v) => t.setIfInBounds p v) a.tmps, defers := [] } W)
    (hbody : ∀ (l : Nat) (G : Nat → Prop) (pre : List α) (x : α) (a' : Act) (W : World), w.heap.size ≤ l → (∃ r, W.heap[l]? = some (.loop r)) → I G pre W → Ax x a' W → pre ++ [x] <+: xs → body.wpIn (Fence.wide.inRound l) (n - 1 - 1) P (roundEnd w.heap.size X G I (pre ++ [x]) W) a' W)
    (hdone : ∀ (G : Nat → Prop) (W : World), S G W → I G xs W → Q .normal a W) :
    (Code.rangeFunc g ps assign body).wpIn (Fence.wide.inRound l₀) n P Q a w := by
  refine wpIn_rangeFunc fun fn hfn => ?_
  obtain ⟨rc, hrc⟩ : ∃ rc : LoopState → Option Code → Loop, rc = fun st pe => { state := st, pending := pe, fn, tmps := a.tmps, params := ps, assign, body, defers := r₀.defers } := ⟨_, rfl⟩
  obtain ⟨W1, hW1, hl1, hi1, hb1⟩ : ∃ W1, w.alloc (.loop (rc .ready none)) = W1 ∧ W1.heap[w.heap.size]? = some (.loop (rc .ready none)) ∧ I G0 [] W1 ∧ Below w0.heap.size w0 W1 := by
    refine ⟨_, rfl, World.alloc_heap_new w _, (hI G0).alloc _ h0, hb0.trans (((Below.refl _ w).alloc (Nat.le_refl _) _).mono hb0.size)⟩
  refine ⟨w.heap.size, [], W1, { target := .fn (.func gf) lb, args := #[.func (.yield w.heap.size) #[] #[]] }, W1, gf,
    #[.func (.yield w.heap.size) #[] #[]] ++ lb, W1, ?_, ?_, fun _ _ => trivial, ?_, fun _ => h1, ?_⟩
  · rw [← hW1, hrc]; exact run_enterLoop_inner hl₀ _ _ _ _ _
  · simp only [resolve, hg]
    simp [go_sem]
  · simp [invoke, go_sem, eg]
  refine (hseq w.heap.size (fun G pre W => I G pre W ∧ W.heap[w.heap.size]? = some (.loop (rc .ready none)) ∧ ¬ G w.heap.size) W1 hb1
    (fun G G' s A B hs ht => by
      obtain ⟨h1, h2, h5⟩ := hs
      have z2 : w.heap.size < A.heap.size := (Array.getElem?_eq_some_iff.1 h2).1
      refine ⟨hIT G G' s A B h1 ht, (ht.1.block _ z2 h5).trans h2, fun h => ?_⟩
      rcases ht.2 _ h with h | h
      · exact h5 h
      · omega) ?_ ⟨hi1, hl1, fun h => by have := hG0 _ h; omega⟩).mono ?_
  · -- a round
    rintro G pre x W ⟨hi, hl, hgl⟩ hpre
    have hy := run_yield (P := P) (args := encs x) hl (by rw [hrc]; exact hps x)
    rw [hrc] at hy
    refine ⟨fn, _, assign, body, hy, roundIn_of_wpIn hfn (hassign _ G pre x W _ hi ?_)⟩
    clear hy
    intro a' W2 hf2 hp2 hi2 hx2
    have hl2 := hf2.same _ _ (by omega) hl rfl
    skip
    have hz2 : w.heap.size < W2.heap.size := (Array.getElem?_eq_some_iff.1 hl2).1
    refine ⟨_, run_beginRound hl2 (by rw [hrc]), ?_⟩
    have hl3 : (W2.putObj (w.heap.size) (.loop { rc .ready none with state := .busy })).heap[w.heap.size]? = some (.loop { rc .ready none with state := .busy }) := World.putObj_heap_same hz2
    skip
    have hp3 : KeepB (fun k => X k ∨ G k) W2 (W2.putObj (w.heap.size) (.loop { rc .ready none with state := .busy })) := KeepB.putObj _ _ (fun h => h.elim (fun h => by have := hX _ h; omega) hgl)
    refine wpIn_mono (hbody _ G pre x a' _ (by omega) ⟨_, hl3⟩ ((hI G).putObj _ hi2 (by omega) hl2 rfl) ((hAx x a').putObj (s := ()) _ hx2 (by omega) hl2 rfl) hpre) ?_
    intro e a3 W3 hp
    cases e with
    | normal =>
      obtain ⟨hk4, hp4, hi4⟩ := hp
      have hl4 := hk4.same _ _ (by omega) hl3 rfl
      skip
      have he := run_endRound (P := P) none hl4
      have hz4 : w.heap.size < W3.heap.size := (Array.getElem?_eq_some_iff.1 hl4).1
      rw [hrc] at he hl4
      refine ⟨_, _, he, rfl, ⟨(hI G).putObj _ hi4 (by omega) hl4 rfl, ?_, hgl⟩, hp2.trans ((hp3.trans hp4).trans (KeepB.putObj _ _ (fun h => h.elim (fun h => by have := hX _ h; omega) hgl)))⟩
      rw [hrc]; exact World.putObj_heap_same hz4
    | ret => exact hp.elim
    | exit id => exact hp.elim
    | goto t => exact hp.elim
    | panic ch => exact hp.elim
    | outgrown => exact hp.elim
  · -- the iterator has come to its end
    rintro e W2 ⟨⟨v, rfl⟩, G, hs, hi, hl, hgl⟩
    have he := run_endLoop (P := P) hl (by rw [hrc]; simp)
    rw [hrc] at he hl
    exact ⟨none, _, he, hdone G _ ((hS G).putObj (s := ()) _ hs (by omega) hl rfl) ((hI G).putObj _ hi (by omega) hl rfl)⟩
end Go.Proofs.Ytlcadkhhpnaofaa
