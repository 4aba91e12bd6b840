/-
  A map whose elements are any values, in memory.
-/
import Derived.Test.YtlmbbnkdiokabaaDoorHeap
import Derived.Test.YtlmbbnkdiokabaaDoorKp
import Derived.Maps.Views
import Derived.Maps.Own
import Derived.Maps.OwnSet
import Derived.Lib.Hide
namespace Go.Proofs.YtlmbbnkdiokabaaDoor
set_option maxRecDepth 100000
set_option linter.unusedSimpArgs false
open Go Go.RowKit
open Go.Maps (Keyed IsMap)

/-- An element is held as it is. -/
def heldV (v : Value) : Option (DataW Value × List MemPlace) := some (.held v, [])
/-- A map in memory: what lies by each key. -/
def MapV {κ : Type} (w : World) (k : TypeId) (lit : κ → Lit) (m N : Nat) (f : κ → Option Value) : Prop :=
  ∃ D : DataW Value, w.ownsMap Tryd.prog k heldV m N D ∧ IsMap D ∧ ∀ x, Maps.has D (lit x) = (f x).isSome ∧ ∀ v, f x = some v → ∀ z, D.atKey (lit x) z = .held v

section
variable {κ : Type} {k : TypeId} {lit : κ → Lit}
theorem MapV.made (w : World) (k : TypeId) (lit : κ → Lit) : MapV (w.alloc (.map #[] 0)) k lit w.heap.size 0 (fun _ => none) :=
  ⟨.map [], World.ownsMap_made w _ _ _, Maps.isMap_empty, fun x => ⟨rfl, fun v h => by cases h⟩⟩
theorem MapV.lt {w : World} {m N : Nat} {f : κ → Option Value} (h : MapV w k lit m N f) : m < w.heap.size := by
  obtain ⟨D, ho, _⟩ := h
  exact ho.lt
theorem MapV.same {w w' : World} {m N : Nat} {f : κ → Option Value} (h : MapV w k lit m N f) (hk : w'.heap[m]? = w.heap[m]?) : MapV w' k lit m N f := by
  obtain ⟨D, ho, h1, h2⟩ := h
  obtain ⟨es, clock, hb, F, hs, hD⟩ := ho
  exact ⟨D, ⟨es, clock, hk.trans hb, F, hs, hD⟩, h1, h2⟩
theorem MapV.kept {w w' : World} {m N : Nat} {f : κ → Option Value} {X : Nat → Prop} (h : MapV w k lit m N f) (hk : Kept X w w') (hm : ¬ X m) : MapV w' k lit m N f := h.same (hk.block m h.lt hm)
theorem MapV.mono {w : World} {m N N' : Nat} {f : κ → Option Value} (h : MapV w k lit m N f) (hN : N ≤ N') : MapV w k lit m N' f := by
  obtain ⟨D, ho, h1, h2⟩ := h
  exact ⟨D, ho.mono hN, h1, h2⟩
/-- v, ok := m[x] -/
theorem MapV.look {w : World} {m N : Nat} {f : κ → Option Value} (h : MapV w k lit m N f) (K : Keyed Tryd.prog k) {t e : TypeId} (ht : Tryd.prog.underlying t = some (.map k e)) {z : Value} (hz : (zeroValue e).run Tryd.prog w = .ok z w) {key : Value} {x : κ} (hx : keyOf Tryd.prog k key = some (lit x)) :
    (Instr.lookup t (.map (some m)) key true).run Tryd.prog w = .ok (.tuple #[(f x).getD z, .bool (f x).isSome]) w := by
  obtain ⟨D, ho, h1, h2⟩ := h
  obtain ⟨v, ps, hr, hv⟩ := ho.look_ok K ht hz (zd := .held z) (zp := []) rfl hx
  obtain ⟨h3, h4⟩ := h2 x
  rw [h3] at hr
  rw [hr]
  cases hf : f x with
  | none =>
    rw [hf] at h3
    rw [Maps.atKey_of_not_has h3] at hv
    simp only [heldV, Option.some.injEq, Prod.mk.injEq, DataW.held.injEq] at hv
    rw [hv.1]; rfl
  | some u =>
    rw [h4 u hf] at hv
    simp only [heldV, Option.some.injEq, Prod.mk.injEq, DataW.held.injEq] at hv
    rw [hv.1]; rfl
/-- m[x] -/
theorem MapV.look1 {w : World} {m N : Nat} {f : κ → Option Value} (h : MapV w k lit m N f) (K : Keyed Tryd.prog k) {t e : TypeId} (ht : Tryd.prog.underlying t = some (.map k e)) {z : Value} (hz : (zeroValue e).run Tryd.prog w = .ok z w) {key : Value} {x : κ} (hx : keyOf Tryd.prog k key = some (lit x)) :
    (Instr.lookup t (.map (some m)) key false).run Tryd.prog w = .ok ((f x).getD z) w := by
  obtain ⟨D, ho, h1, h2⟩ := h
  obtain ⟨v, ps, hr, hv⟩ := ho.lookup K ht hz (zd := .held z) (zp := []) rfl hx
  obtain ⟨h3, h4⟩ := h2 x
  rw [hr]
  cases hf : f x with
  | none =>
    rw [hf] at h3
    rw [Maps.atKey_of_not_has h3] at hv
    simp only [heldV, Option.some.injEq, Prod.mk.injEq, DataW.held.injEq] at hv
    rw [hv.1]; rfl
  | some u =>
    rw [h4 u hf] at hv
    simp only [heldV, Option.some.injEq, Prod.mk.injEq, DataW.held.injEq] at hv
    rw [hv.1]; rfl
/-- m[x] = v -/
theorem MapV.put {w : World} {m N : Nat} {f g : κ → Option Value} (h : MapV w k lit m N f) (K : Keyed Tryd.prog k) {t e : TypeId} (ht : Tryd.prog.underlying t = some (.map k e)) (hN : N < 100000000) {key : Value} {x : κ} (hx : keyOf Tryd.prog k key = some (lit x)) (hi : WideAt.IsKeyLit (lit x)) (v : Value)
    (hg : g x = some v) (hg2 : ∀ y, lit y ≠ lit x → g y = f y) (hinj : ∀ y, lit y = lit x → y = x) :
    ∃ w', (Instr.mapUpdate t (.map (some m)) key v).run Tryd.prog w = .ok () w' ∧ MapV w' k lit m (N + 1) g ∧ Kept (fun i => i = m) w w' := by
  obtain ⟨D, ho, h1, h2⟩ := h
  obtain ⟨w', hr, ho', hg'⟩ := ho.update K ht (by unfold maxLen; omega) hx (val := v) (d := .held v) (ps := []) rfl
  refine ⟨w', hr, ⟨_, ho', h1.put _ _, fun y => ?_⟩, ⟨hg'.os, hg'.tape, hg'.output, hg'.size, fun i hi hn => hg'.block i hi (fun e => hn (by simpa using e))⟩⟩
  by_cases e : lit y = lit x
  · obtain rfl := hinj y e
    rw [hg]
    refine ⟨Maps.has_put_same h1 hi _, fun u hu z => ?_⟩
    cases hu
    rw [Maps.atKey_put_same h1 hi]
  · rw [hg2 y e]
    refine ⟨by rw [Maps.has_put_other e]; exact (h2 y).1, fun u hu z => ?_⟩
    rw [Maps.atKey_put_other e]
    exact (h2 y).2 u hu z
/-- delete(m, x) -/
theorem MapV.del {w : World} {m N : Nat} {f g : κ → Option Value} (h : MapV w k lit m N f) (K : Keyed Tryd.prog k) {t e : TypeId} (ht : Tryd.prog.underlying t = some (.map k e)) {key : Value} {x : κ} (hx : keyOf Tryd.prog k key = some (lit x)) (ty : TypeId)
    (hg : g x = none) (hg2 : ∀ y, lit y ≠ lit x → g y = f y) (hinj : ∀ y, lit y = lit x → y = x) :
    ∃ w', (Builtin.delete_ #[t, k] ty #[.map (some m), key]).run Tryd.prog w = .ok (.tuple #[]) w' ∧ MapV w' k lit m N g ∧ Kept (fun i => i = m) w w' := by
  obtain ⟨D, ho, h1, h2⟩ := h
  obtain ⟨w', hr, ho', ht'⟩ := ho.drop K ht hx ty
  have hg' := ht'.grown
  refine ⟨w', hr, ⟨_, ho', h1.del _, fun y => ?_⟩, ⟨hg'.os, hg'.tape, hg'.output, hg'.size, fun i hi hn => hg'.block i hi (fun e => hn (by simpa using e))⟩⟩
  by_cases e : lit y = lit x
  · obtain rfl := hinj y e
    rw [hg]
    exact ⟨Maps.has_del_same, fun u hu => by cases hu⟩
  · rw [hg2 y e]
    refine ⟨by rw [Maps.has_del_other e]; exact (h2 y).1, fun u hu z => ?_⟩
    rw [Maps.atKey_del_other e]
    exact (h2 y).2 u hu z
end
end Go.Proofs.YtlmbbnkdiokabaaDoor
