/-
  Bytes, a map of them by place, and shelves in memory.
-/
import Derived.Test.YtgciibcngmimkaaHeap
import Derived.Test.YtgciibcngmimkaaKp
import Derived.Test.YtgciibcngmimkaaSf0
import Derived.WalkKit
import Derived.WalkSpells
import Derived.WalkLawsBesides
import Derived.Below
import Derived.Maps.Views
import Derived.Maps.Own
import Derived.Maps.OwnSet
import Derived.Lib.SlKeysI
import Derived.Laws.OwnMore
import Derived.Laws.AppendOwn
import Derived.Laws.AppendOwnNone
import Derived.Laws.MakeOwn
import Derived.Deep.AppendLies
import Derived.Deep.Draws
import Derived.Deep.OwnRows
import Derived.Lib.Hide
namespace Go.Proofs.Ytgciibcngmimkaa
set_option maxRecDepth 100000
set_option linter.unusedSimpArgs false
open Go Go.RowKit Sf
open Go.Maps (Keyed IsMap)

def byV (c : Nat) : Value := .int .u8 (c : Nat)
theorem byV_one (l : List Nat) : ∀ u ∈ l.map byV, u.oneCell' = true := by intro u hu; obtain ⟨z, _, rfl⟩ := List.mem_map.1 hu; rfl
/-- Bytes at an address. -/
def BytesAt (w : World) (A : Option Addr) (l : List Nat) : Prop := ∀ j, j < l.length → ∃ a, A = some a ∧ w.cell? (a.add j) = some (byV (l.getD j 0))
theorem add_block (a : Addr) (j : Nat) : (a.add j).block = a.block := by unfold Addr.add; split <;> rfl
theorem BytesAt.kept {w w' : World} {X : Nat → Prop} {A : Option Addr} {l : List Nat} (h : BytesAt w A l) (hk : Kept X w w') (hX : ∀ a, A = some a → ¬ X a.block) : BytesAt w' A l := by
  intro j hj
  obtain ⟨a, e, h1⟩ := h j hj
  exact ⟨a, e, hk.cell h1 (by rw [add_block]; exact hX a e)⟩
theorem BytesAt.below {w w' : World} {A : Option Addr} {l : List Nat} (h : BytesAt w A l) (hb : Below w.heap.size w w') : BytesAt w' A l := h.kept (Kept.of_below (X := fun _ => False) hb (Nat.le_refl _)) (fun _ _ => id)
/-- Bytes of a call's own: they are bytes at an address. -/
theorem row_bytes {w : World} {base : Nat} {v : Value} {l : List Nat} (h : w.ownsRow base 5 1 v l.length (l.map byV)) : ∃ A cap, v = .slice A l.length cap ∧ BytesAt w A l ∧ l.length ≤ cap ∧ cap ≤ maxLen ∧ (A = none → l = [] ∧ cap = 0) := by
  rcases h.2 with ⟨rfl, h0⟩ | ⟨g, cap, cur, rfl, hb, hg, hle, hmx, hsz, htk⟩
  · refine ⟨none, 0, by rw [h0], fun j hj => by omega, by omega, by simp [maxLen], fun _ => ⟨List.length_eq_zero_iff.1 h0, rfl⟩⟩
  · refine ⟨_, cap, rfl, fun j hj => ⟨_, rfl, ?_⟩, hle, hmx, fun e => by cases e⟩
    refine h.cells rfl j _ ?_
    simp [hj]

/-- Bytes of somebody's own, in a block of bytes. -/
def R8 (w : World) (v : Value) (l : List Nat) : Prop := w.ownsRow 0 5 1 v l.length (l.map byV)
/-- X holds no block of bytes. -/
def No8 (X : Nat → Prop) (w : World) : Prop := ∀ k cur f, w.heap[k]? = some (.cells cur 5 f) → ¬ X k
theorem No8.none (w : World) : No8 (fun _ => False) w := fun _ _ _ _ => id
theorem R8.nil (w : World) : R8 w (.slice none 0 0) [] := World.ownsRow_nil _ _ _ _
theorem R8.blk {w : World} {v : Value} {l : List Nat} (h : R8 w v l) {g : Nat} (hg : v.ownBlock = some g) : ∃ cur f, w.heap[g]? = some (.cells cur 5 f) := by
  rcases h.2 with ⟨rfl, h0⟩ | ⟨g', cap, cur, rfl, hb, hgg, _⟩
  · cases hg
  · have : g' = g := by simpa [Value.ownBlock] using hg
    subst this; exact ⟨_, _, hgg⟩
theorem R8.kept {w w' : World} {X : Nat → Prop} {v : Value} {l : List Nat} (h : R8 w v l) (hk : Kept X w w') (hX : No8 X w) : R8 w' v l :=
  hk.row h (fun g hg => by obtain ⟨cur, f, hc⟩ := R8.blk h hg; exact hX g cur f hc)
theorem R8.below {w w' : World} {v : Value} {l : List Nat} (h : R8 w v l) (hb : Below w.heap.size w w') : R8 w' v l := R8.kept h (Kept.of_below (X := fun _ => False) hb (Nat.le_refl _)) (No8.none w)
theorem row_base {w : World} {b b' : Nat} {e : TypeId} {s : Nat} {v : Value} {n : Nat} {xs : List Value} (h : w.ownsRow b e s v n xs) (hb : b' ≤ b) : w.ownsRow b' e s v n xs := by
  obtain ⟨h1, h2⟩ := h
  refine ⟨h1, ?_⟩
  rcases h2 with h2 | ⟨g, cap, cur, h3, h4, h5⟩
  · exact .inl h2
  · exact .inr ⟨g, cap, cur, h3, by omega, h5⟩
theorem R8.of {w : World} {b : Nat} {v : Value} {l : List Nat} (h : w.ownsRow b 5 1 v l.length (l.map byV)) : R8 w v l := row_base h (Nat.zero_le _)

/-- A key. -/
def keyE (p : Nat) : Lit := .int .i64 (p : Int)
theorem keyE_inj {p q : Nat} (h : keyE p = keyE q) : p = q := by unfold keyE at h; injection h with _ h; omega
theorem keyE_lit (p : Nat) : WideAt.IsKeyLit (keyE p) := by simp [keyE, WideAt.IsKeyLit]
theorem keyE_of {p : Nat} (h : p < 1000000000000) : keyOf Try.prog 3 (.int .i64 (p : Int)) = some (keyE p) := by
  refine Maps.keyOf_int_mk Try.underlying3 ?_
  have h1 : IntKind.i64.min = -9223372036854775808 := rfl
  have h2 : IntKind.i64.max = 9223372036854775807 := rfl
  simp only [Lit.wf, Bool.and_eq_true, decide_eq_true_eq, h1, h2]
  omega
theorem keyE_keyed : Keyed Try.prog 3 := Maps.int_keyed Try.underlying3
/-- An element is held as it is. -/
def heldV (v : Value) : Option (DataW Value × List MemPlace) := some (.held v, [])
/-- A map of bytes. -/
def MapM (w : World) (m N : Nat) (M : List Ent) : Prop :=
  ∃ D : DataW Value, w.ownsMap Try.prog 3 heldV m N D ∧ IsMap D ∧ (∀ k, Maps.has D k = true ↔ ∃ e ∈ M, k = keyE e.1) ∧ ∀ e ∈ M, ∃ v, (∀ z, D.atKey (keyE e.1) z = .held v) ∧ R8 w v e.2

theorem own_same {w w' : World} {P : Program} {k : TypeId} {R : Value → Option (DataW Value × List MemPlace)} {b n : Nat} {D : DataW Value} (h : w.ownsMap P k R b n D) (e : w'.heap[b]? = w.heap[b]?) : w'.ownsMap P k R b n D := by
  obtain ⟨es, clock, hb, F, hs⟩ := h
  exact ⟨es, clock, e.trans hb, F, hs⟩
theorem zero_bytes (w : World) : (zeroValue 30).run Try.prog w = .ok (.slice none 0 0) w := by kernel_rfl

section
variable {w w' : World} {m N : Nat} {M : List Ent}
theorem MapM.made (w : World) : MapM (w.alloc (.map #[] 0)) w.heap.size 0 [] :=
  ⟨.map [], World.ownsMap_made w _ _ _, Maps.isMap_empty, fun k => ⟨fun h => (by cases h), fun ⟨e, h, _⟩ => (by cases h)⟩, fun e h => (by cases h)⟩
theorem MapM.lt (h : MapM w m N M) : m < w.heap.size := by
  obtain ⟨D, ho, _⟩ := h
  exact ho.lt
theorem MapM.isMap (h : MapM w m N M) : ∃ es cl, w.heap[m]? = some (.map es cl) := by
  obtain ⟨D, ⟨es, cl, hb, _⟩, _⟩ := h
  exact ⟨es, cl, hb⟩
theorem MapM.kept {X : Nat → Prop} (h : MapM w m N M) (hk : Kept X w w') (hm : ¬ X m) (h8 : No8 X w) : MapM w' m N M := by
  have hlt := h.lt
  obtain ⟨D, ho, h1, h2, h3⟩ := h
  refine ⟨D, own_same ho (hk.block m hlt hm), h1, h2, fun e he => ?_⟩
  obtain ⟨v, h4, h5⟩ := h3 e he
  exact ⟨v, h4, h5.kept hk h8⟩
theorem MapM.perm {D : DataW Value} (ho : w.ownsMap Try.prog 3 heldV m N D) (h : ∀ k, Maps.has D k = true ↔ ∃ e ∈ M, k = keyE e.1) (hs : M.Pairwise (fun a b => a.1 < b.1)) : (M.map fun e => (e.1 : Int)).Perm (intKeys D) := by
  refine CollectedI.perm (left := fun _ => false) ⟨?_, fun x => ?_⟩ ho keyE_keyed Try.underlying3 (fun _ => rfl)
  · refine List.pairwise_map.2 (hs.imp fun {a b} hab => ?_)
    omega
  · rw [h, List.mem_map]
    constructor
    · rintro ⟨e, he, rfl⟩; exact ⟨⟨e, he, rfl⟩, rfl⟩
    · rintro ⟨⟨e, he, h2⟩, _⟩
      refine ⟨e, he, ?_⟩
      unfold keyE at h2; injection h2 with _ h2; exact h2.symm
theorem size_keys {D : DataW Value} (h : IsMap D) : (intKeys D).length = Maps.size D := by
  obtain ⟨es, rfl⟩ := h
  simp [intKeys, Maps.size]
/-- m[x], and whether it is there: in whatever world the map lies so. -/
theorem MapM.look (h : MapM w m N M) (hs : M.Pairwise (fun a b => a.1 < b.1)) {p : Nat} (hp : p < 1000000000000) :
    ∃ v, (∀ W : World, W.heap[m]? = w.heap[m]? → (Instr.lookup 25 (.map (some m)) (.int .i64 (p : Int)) true).run Try.prog W = .ok (.tuple #[v, .bool (hasM M p)]) W ∧ (Instr.lookup 25 (.map (some m)) (.int .i64 (p : Int)) false).run Try.prog W = .ok v W) ∧ R8 w v (getM M p) := by
  obtain ⟨D, ho, h1, h2, h3⟩ := h
  have hH : Maps.has D (keyE p) = hasM M p := by
    rw [Bool.eq_iff_iff, h2, hasM_iff]
    constructor
    · rintro ⟨e, he, h⟩; exact ⟨e, he, (keyE_inj h).symm⟩
    · rintro ⟨e, he, h⟩; exact ⟨e, he, by rw [h]⟩
  have key : ∀ W : World, W.heap[m]? = w.heap[m]? → ∃ v, ((Instr.lookup 25 (.map (some m)) (.int .i64 (p : Int)) true).run Try.prog W = .ok (.tuple #[v, .bool (hasM M p)]) W ∧ (Instr.lookup 25 (.map (some m)) (.int .i64 (p : Int)) false).run Try.prog W = .ok v W) ∧ DataW.held v = D.atKey (keyE p) (.held (.slice none 0 0)) := by
    intro W hW
    have ho' := own_same ho hW
    obtain ⟨v, ps, hr, hv⟩ := ho'.look_ok keyE_keyed Try.underlying25 (zero_bytes W) (zd := .held (.slice none 0 0)) (zp := []) rfl (keyE_of hp)
    obtain ⟨v2, ps2, hr2, hv2⟩ := ho'.lookup keyE_keyed Try.underlying25 (zero_bytes W) (zd := .held (.slice none 0 0)) (zp := []) rfl (keyE_of hp)
    simp only [heldV, Option.some.injEq, Prod.mk.injEq] at hv hv2
    have hvv : v = v2 := by
      have := hv.1.trans hv2.1.symm
      injection this
    subst hvv
    exact ⟨v, ⟨by rw [hr, hH], hr2⟩, hv.1⟩
  obtain ⟨v, _, hv⟩ := key w rfl
  refine ⟨v, fun W hW => ?_, ?_⟩
  · obtain ⟨v', h4, hv'⟩ := key W hW
    have : v' = v := by
      have := hv'.trans hv.symm
      injection this
    rw [this] at h4; exact h4
  · cases hh : hasM M p with
    | false =>
      rw [Maps.atKey_of_not_has (hH.trans hh)] at hv
      simp only [DataW.held.injEq] at hv
      rw [hv, getM_none hh]; exact R8.nil w
    | true =>
      obtain ⟨e, he, rfl⟩ := hasM_iff.1 hh
      obtain ⟨u, hu, hr8⟩ := h3 e he
      rw [hu] at hv
      simp only [DataW.held.injEq] at hv
      rw [hv, getM_of hs he]; exact hr8
/-- len(m) -/
theorem MapM.len (h : MapM w m N M) (hs : M.Pairwise (fun a b => a.1 < b.1)) (ty : TypeId) : (Builtin.len_ #[25] ty #[.map (some m)]).run Try.prog w = .ok (.int .i64 (M.length : Nat)) w := by
  obtain ⟨D, ho, h1, h2, h3⟩ := h
  rw [ho.len Try.underlying25 ty, ← size_keys h1, ← (MapM.perm ho h2 hs).length_eq, List.length_map]
/-- m[x] = v -/
theorem MapM.put (h : MapM w m N M) (hN : N < 100000000) {p : Nat} (hp : p < 1000000000000) {v : Value} {d : List Nat} (hv : R8 w v d) :
    ∃ w', (Instr.mapUpdate 25 (.map (some m)) (.int .i64 (p : Int)) v).run Try.prog w = .ok () w' ∧ MapM w' m (N + 1) (putM M p d) ∧ Kept (fun i => i = m) w w' := by
  have hmm := h.isMap
  obtain ⟨D, ho, h1, h2, h3⟩ := h
  obtain ⟨w', hr, ho', hg'⟩ := ho.update keyE_keyed Try.underlying25 (by unfold maxLen; omega) (keyE_of hp) (val := v) (d := .held v) (ps := []) rfl
  have hk : Kept (fun i => i = m) w w' := ⟨hg'.os, hg'.tape, hg'.output, hg'.size, fun i hi hn => hg'.block i hi (fun e => hn (by simpa using e))⟩
  have h8 : No8 (fun i => i = m) w := by
    rintro k cur f hc rfl
    obtain ⟨es, cl, e⟩ := hmm
    rw [hc] at e; cases e
  refine ⟨w', hr, ⟨_, ho', h1.put _ _, fun k => ?_, fun e he => ?_⟩, hk⟩
  · by_cases e : k = keyE p
    · subst e
      exact ⟨fun _ => ⟨(p, d), mem_put.2 (.inl rfl), rfl⟩, fun _ => Maps.has_put_same h1 (keyE_lit p) _⟩
    · rw [Maps.has_put_other e, h2]
      constructor
      · rintro ⟨x, hx, rfl⟩; exact ⟨x, mem_put.2 (.inr ⟨hx, fun h => e (by rw [h])⟩), rfl⟩
      · rintro ⟨x, hx, rfl⟩
        rcases mem_put.1 hx with rfl | ⟨hx, _⟩
        · exact absurd rfl e
        · exact ⟨x, hx, rfl⟩
  · rcases mem_put.1 he with rfl | ⟨hx, hne⟩
    · exact ⟨v, fun z => Maps.atKey_put_same h1 (keyE_lit p) _ _, hv.kept hk h8⟩
    · obtain ⟨u, hu, hr8⟩ := h3 e hx
      exact ⟨u, fun z => by rw [Maps.atKey_put_other (fun h => hne (keyE_inj h))]; exact hu z, hr8.kept hk h8⟩
/-- delete(m, x) -/
theorem MapM.del (h : MapM w m N M) {p : Nat} (hp : p < 1000000000000) (ty : TypeId) :
    ∃ w', (Builtin.delete_ #[25, 3] ty #[.map (some m), .int .i64 (p : Int)]).run Try.prog w = .ok (.tuple #[]) w' ∧ MapM w' m N (cutM M p) ∧ Kept (fun i => i = m) w w' := by
  have hmm := h.isMap
  obtain ⟨D, ho, h1, h2, h3⟩ := h
  obtain ⟨w', hr, ho', ht'⟩ := ho.drop keyE_keyed Try.underlying25 (keyE_of hp) ty
  have hg' := ht'.grown
  have hk : Kept (fun i => i = m) w w' := ⟨hg'.os, hg'.tape, hg'.output, hg'.size, fun i hi hn => hg'.block i hi (fun e => hn (by simpa using e))⟩
  have h8 : No8 (fun i => i = m) w := by
    rintro k cur f hc rfl
    obtain ⟨es, cl, e⟩ := hmm
    rw [hc] at e; cases e
  refine ⟨w', hr, ⟨_, ho', h1.del _, fun k => ?_, fun e he => ?_⟩, hk⟩
  · by_cases e : k = keyE p
    · subst e
      rw [Maps.has_del_same]
      exact ⟨fun h => (by cases h), fun ⟨x, hx, h⟩ => absurd (keyE_inj h).symm (mem_cut.1 hx).2⟩
    · rw [Maps.has_del_other e, h2]
      constructor
      · rintro ⟨x, hx, rfl⟩; exact ⟨x, mem_cut.2 ⟨hx, fun h => e (by rw [h])⟩, rfl⟩
      · rintro ⟨x, hx, rfl⟩; exact ⟨x, (mem_cut.1 hx).1, rfl⟩
  · obtain ⟨hx, hne⟩ := mem_cut.1 he
    obtain ⟨u, hu, hr8⟩ := h3 e hx
    exact ⟨u, fun z => by rw [Maps.atKey_del_other (fun h => hne (keyE_inj h))]; exact hu z, hr8.kept hk h8⟩
end

/-- A shelf in memory: its map, if it has one, and what N bounds. -/
structure ShAt (w : World) (b : Nat) (mo : Option Nat) (N : Nat) (M : List Ent) : Prop where
  blk : w.heap[b]? = some (.cells #[.map mo] 27 (0, 0))
  none_ : mo = none → M = []
  some_ : ∀ m, mo = some m → MapM w m N M
  ok : Ok M
/-- The blocks of a shelf that may turn. -/
def OfS (b : Nat) (mo : Option Nat) (k : Nat) : Prop := k = b ∨ mo = some k
namespace ShAt
variable {w w' : World} {b N : Nat} {mo : Option Nat} {M : List Ent} {X : Nat → Prop}
theorem lt (h : ShAt w b mo N M) : b < w.heap.size := blk_lt h.blk
theorem no8 (h : ShAt w b mo N M) : No8 (OfS b mo) w := by
  rintro k cur f hc (rfl | e)
  · rw [h.blk] at hc
    injection hc with hc
    injection hc with _ h _
    exact absurd h (by decide)
  · obtain ⟨es, cl, e2⟩ := (h.some_ k e).isMap
    rw [hc] at e2; cases e2
theorem kept (h : ShAt w b mo N M) (hk : Kept X w w') (hX : ∀ k, OfS b mo k → ¬ X k) (h8 : No8 X w) : ShAt w' b mo N M :=
  ⟨(hk.block b h.lt (hX b (.inl rfl))).trans h.blk, h.none_, fun m e => (h.some_ m e).kept hk (hX m (.inr e)) h8, h.ok⟩
theorem below (h : ShAt w b mo N M) (hb : Below w.heap.size w w') : ShAt w' b mo N M := h.kept (Kept.of_below (X := fun _ => False) hb (Nat.le_refl _)) (fun _ _ => id) (No8.none w)
theorem mlt (h : ShAt w b mo N M) {k : Nat} (hk : OfS b mo k) : k < w.heap.size := by
  rcases hk with rfl | e
  · exact h.lt
  · exact (h.some_ k e).lt
end ShAt
end Go.Proofs.Ytgciibcngmimkaa
