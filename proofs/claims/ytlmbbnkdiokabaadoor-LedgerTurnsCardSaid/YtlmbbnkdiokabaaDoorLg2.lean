/-
  What is done, in memory: its three rows; write, post, deny, grant.
-/
import Derived.Test.YtlmbbnkdiokabaaDoorLg1
import Derived.Laws.AppendOwn
import Derived.Laws.AppendOwnNone
import Derived.Deep.AppendLies
namespace Go.Proofs.YtlmbbnkdiokabaaDoor
set_option maxRecDepth 100000
set_option linter.unusedSimpArgs false
open Go Go.RowKit Sp Lg

namespace Lg
/-- A message of a ledger's. -/
structure Mg where
  k : Int
  c : Int
  g : Int
  s : Int
  p : Int
  o : Int
deriving DecidableEq
/-- What is written of a cell: its entry, and the bytes' slice. -/
structure We where
  c : Int
  e : En
  d : Value
/-- What is posted. -/
structure Pe where
  t : Int
  m : Mg
/-- An entry's bytes. -/
def recB (e : En) : List Int := if e = e0 then [] else [e.r % 256, e.g / 16777216, e.g / 65536 % 256, e.g / 256 % 256, e.g % 256]
end Lg

def byI (x : Int) : Value := .int .u8 x
/-- Bytes of somebody's own, in a block of bytes. -/
def R8 (w : World) (v : Value) (l : List Int) : Prop := w.ownsRow 0 5 1 v l.length (l.map byI)
theorem R8.nil (w : World) : R8 w (.slice none 0 0) [] := World.ownsRow_nil _ _ _ _
theorem own_typ {w : World} {B : Nat} {e : TypeId} {n m : Nat} {v : Value} {xs : List Value} (h : w.ownsRow B e n v m xs) {g : Nat} (hg : v.ownBlock = some g) : Typ w g e ∧ B ≤ g ∧ g < w.heap.size := by
  rcases h.2 with ⟨rfl, h0⟩ | ⟨g', cap, cur, rfl, hb, hgg, _⟩
  · cases hg
  · have : g' = g := by simpa [Value.ownBlock] using hg
    subst this; exact ⟨⟨_, _, hgg⟩, hb, blk_lt hgg⟩
theorem R8.kept {w w' : World} {X : Nat → Prop} {v : Value} {l : List Int} (h : R8 w v l) (hk : Kept X w w') (hX : ∀ k, Typ w k 5 → ¬ X k) : R8 w' v l :=
  hk.row h (fun g hg => hX g (own_typ h hg).1)
theorem R8.below {w w' : World} {v : Value} {l : List Int} (h : R8 w v l) (hb : Below w.heap.size w w') : R8 w' v l := h.kept (Kept.of_below (X := fun _ => False) hb (Nat.le_refl _)) (fun _ _ => id)
theorem row_of_block {w : World} {g B : Nat} {e : TypeId} {sz : Nat} {cs : Array Value} {n : Nat} (h : w.heap[g]? = some (.cells cs e (0, 0))) (hB : B ≤ g) (hs : cs.size = n * sz) (hn : n ≤ maxLen) : w.ownsRow B e sz (.slice (some ⟨g, 0, none⟩) n n) n cs.toList :=
  ⟨by simpa using hs, .inr ⟨g, n, cs, rfl, hB, h, Nat.le_refl _, hn, hs, by rw [List.take_of_length_le (by simp [hs])]⟩⟩

def wcs (x : We) : List Value := [.int .i64 3, .int .i64 x.c, x.d]
def mgc (m : Mg) : List Value := [.int .i64 m.k, .int .i64 m.c, .int .u32 m.g, .int .u64 m.s, .int .i64 m.p, .int .i64 0, .int .i64 0, .int .i64 m.o, .slice none 0 0]
@[reducible] def mgv (k c g s p o : Int) : Value := .agg #[.int .i64 k, .int .i64 c, .int .u32 g, .int .u64 s, .int .i64 p, .int .i64 0, .int .i64 0, .int .i64 o, .slice none 0 0]
def pcs (x : Pe) : List Value := .int .i64 x.t :: mgc x.m
def bcs (n : Nat) : Value := .int .i64 (n : Int)
def csW (l : List We) : List Value := l.flatMap wcs
def csP (l : List Pe) : List Value := l.flatMap pcs
def csB (l : List Nat) : List Value := l.map bcs
theorem csW_snoc (l : List We) (x : We) : csW (l ++ [x]) = csW l ++ wcs x := by simp [csW]
theorem csP_snoc (l : List Pe) (x : Pe) : csP (l ++ [x]) = csP l ++ pcs x := by simp [csP]
theorem csB_snoc (l : List Nat) (x : Nat) : csB (l ++ [x]) = csB l ++ [bcs x] := by simp [csB]

/-- The three rows' slices. -/
structure OV where
  w : Value
  p : Value
  b : Value
/-- What is done, in memory. -/
structure OutAt (w : World) (B o : Nat) (v : OV) (ws : List We) (ps : List Pe) (bs : List Nat) : Prop where
  blk : w.heap[o]? = some (.cells #[v.w, v.p, v.b] 48 (0, 0))
  ge : B ≤ o
  rw_ : w.ownsRow B 54 3 v.w ws.length (csW ws)
  rp : w.ownsRow B 63 10 v.p ps.length (csP ps)
  rb : w.ownsRow B 3 1 v.b bs.length (csB bs)
  dat : ∀ x ∈ ws, R8 w x.d (recB x.e)
/-- Its blocks. -/
def OfO (o : Nat) (v : OV) (k : Nat) : Prop := k = o ∨ v.w.ownBlock = some k ∨ v.p.ownBlock = some k ∨ v.b.ownBlock = some k
namespace OutAt
variable {w w' : World} {B o : Nat} {v : OV} {ws : List We} {ps : List Pe} {bs : List Nat} {X : Nat → Prop}
theorem typ (h : OutAt w B o v ws ps bs) {k : Nat} (hk : OfO o v k) {t : TypeId} (ht : Typ w k t) : t = 48 ∨ t = 54 ∨ t = 63 ∨ t = 3 := by
  rcases hk with rfl | hk | hk | hk
  · exact .inl (ht.eq ⟨_, _, h.blk⟩)
  · exact .inr (.inl (ht.eq (own_typ h.rw_ hk).1))
  · exact .inr (.inr (.inl (ht.eq (own_typ h.rp hk).1)))
  · exact .inr (.inr (.inr (ht.eq (own_typ h.rb hk).1)))
theorem some_typ (h : OutAt w B o v ws ps bs) {k : Nat} (hk : OfO o v k) : (∃ t, Typ w k t) ∧ B ≤ k ∧ k < w.heap.size := by
  rcases hk with rfl | hk | hk | hk
  · exact ⟨⟨_, ⟨_, _, h.blk⟩⟩, h.ge, blk_lt h.blk⟩
  · exact ⟨⟨_, (own_typ h.rw_ hk).1⟩, (own_typ h.rw_ hk).2⟩
  · exact ⟨⟨_, (own_typ h.rp hk).1⟩, (own_typ h.rp hk).2⟩
  · exact ⟨⟨_, (own_typ h.rb hk).1⟩, (own_typ h.rb hk).2⟩
theorem kept (h : OutAt w B o v ws ps bs) (hk : Kept X w w') (hX : ∀ k, OfO o v k → ¬ X k) (h8 : ∀ k, Typ w k 5 → ¬ X k) : OutAt w' B o v ws ps bs :=
  ⟨(hk.block o (blk_lt h.blk) (hX o (.inl rfl))).trans h.blk, h.ge, hk.row h.rw_ (fun g hg => hX g (.inr (.inl hg))), hk.row h.rp (fun g hg => hX g (.inr (.inr (.inl hg)))), hk.row h.rb (fun g hg => hX g (.inr (.inr (.inr hg)))), fun x hx => (h.dat x hx).kept hk h8⟩
theorem below (h : OutAt w B o v ws ps bs) (hb : Below w.heap.size w w') : OutAt w' B o v ws ps bs := h.kept (Kept.of_below (X := fun _ => False) hb (Nat.le_refl _)) (fun _ _ => id) (fun _ _ => id)
theorem no8 (h : OutAt w B o v ws ps bs) : ∀ k, Typ w k 5 → ¬ OfO o v k := by
  intro k hk h2
  rcases h.typ h2 hk with e | e | e | e <;> exact absurd e (by decide)
end OutAt
/-- A ledger's blocks are none of what is done. -/
theorem led_out {w : World} {b me mq N : Nat} {P : Int → Option Nat} {s : S} {B o : Nat} {v : OV} {ws : List We} {ps : List Pe} {bs : List Nat} (h : LedAt w b me mq P N s) (k : OutAt w B o v ws ps bs) {i : Nat} (hi : LX b me mq P i) (ho : OfO o v i) : False := by
  obtain ⟨⟨t, ht⟩, _, _⟩ := k.some_typ ho
  rcases h.typ hi ht with rfl | rfl <;> rcases k.typ ho ht with e | e | e | e <;> exact absurd e (by decide)
theorem led_no8 {w : World} {b me mq N : Nat} {P : Int → Option Nat} {s : S} (h : LedAt w b me mq P N s) : ∀ k, Typ w k 5 → ¬ LX b me mq P k := by
  intro k hk h2
  rcases h.typ h2 hk with e | e <;> exact absurd e (by decide)

/-- A step of a row: what was appended, and the slice stored. -/
structure GrowP (w w3 : World) (o j : Nat) (v v' : Value) : Prop where
  kept : Kept (fun k => k = o ∨ v.ownBlock = some k) w w3
  row : ∀ {B : Nat} {e : TypeId} {n m : Nat} {u : Value} {xs : List Value}, w.ownsRow B e n u m xs → (∀ g, u.ownBlock = some g → g ≠ o ∧ v.ownBlock ≠ some g) → w3.ownsRow B e n u m xs
theorem grow_step {w W1 w2 : World} {o j : Nat} {cur : Array Value} {t : TypeId} {v v' : Value} (blk : w.heap[o]? = some (.cells cur t (0, 0))) (hk0 : Kept (fun _ => False) w W1) (hg : W1.grownBy w2 v.ownBlock) (hr : v.ownBlock ≠ some o) (hv : cur[j]? = some v) :
    (w2.cell? ⟨o, j, none⟩ = some v ∧ w2.frozen? ⟨o, j, none⟩ = false) ∧ (w2.setCell ⟨o, j, none⟩ v').heap[o]? = some (.cells (cur.setIfInBounds j v') t (0, 0)) ∧ GrowP w (w2.setCell ⟨o, j, none⟩ v') o j v v' ∧ Kept (fun k => k = o) w2 (w2.setCell ⟨o, j, none⟩ v') := by
  have hlt := blk_lt blk
  have hb2 : w2.heap[o]? = some (.cells cur t (0, 0)) := by
    rw [hg.block o (Nat.lt_of_lt_of_le hlt hk0.size) (fun e => hr e.symm), hk0.block o hlt id]; exact blk
  have hk2 : Kept (fun k => k = o ∨ v.ownBlock = some k) w w2 := (hk0.mono (fun _ _ h => h.elim)).grown hg (fun k hk => .inl (.inr hk))
  have hk3 : Kept (fun k => k = o ∨ v.ownBlock = some k) w (w2.setCell ⟨o, j, none⟩ v') := hk2.setCell (.inl (.inl rfl)) v'
  refine ⟨⟨by rw [blk_cell hb2]; exact hv, blk_free hb2 j⟩, blk_set hb2 j v', ⟨hk3, fun ho hne => hk3.row ho fun g hg' h => ?_⟩, (Kept.refl (fun k => k = o) w2).setCell (p := ⟨o, j, none⟩) (.inl rfl) v'⟩
  rcases h with h | h
  · exact (hne g hg').1 h
  · exact (hne g hg').2 h

section
variable {w W1 w2 : World} {B o g cap : Nat} {v : OV} {ws : List We} {ps : List Pe} {bs : List Nat}
theorem own_ne {w : World} {B B2 : Nat} {e e2 : TypeId} {n n2 m m2 : Nat} {u u2 : Value} {xs xs2 : List Value} (h : w.ownsRow B e n u m xs) (h2 : w.ownsRow B2 e2 n2 u2 m2 xs2) (hne : e ≠ e2) {g : Nat} (hg : u.ownBlock = some g) : u2.ownBlock ≠ some g := fun h3 => hne ((own_typ h hg).1.eq (own_typ h2 h3).1)
theorem own_no {w : World} {B : Nat} {e : TypeId} {n m : Nat} {u : Value} {xs : List Value} {o : Nat} {cur : Array Value} {t : TypeId} {f : Nat × Nat} (h : w.ownsRow B e n u m xs) (hb : w.heap[o]? = some (.cells cur t f)) (hne : e ≠ t) {g : Nat} (hg : u.ownBlock = some g) : g ≠ o := fun h3 => by
  subst h3
  exact hne ((own_typ h hg).1.eq ⟨_, _, hb⟩)
theorem OutAt.growW (h : OutAt w B o v ws ps bs) (hk0 : Kept (fun _ => False) w W1) (hg : W1.grownBy w2 v.w.ownBlock) {x : We} (hx : R8 w x.d (recB x.e)) (hr : w2.ownsRow B 54 3 (.slice (some ⟨g, 0, none⟩) (ws.length + 1) cap) (ws.length + 1) (csW ws ++ wcs x)) (hat : v.w.ownBlock = some g ∨ g = W1.heap.size) :
    (w2.cell? ⟨o, 0, none⟩ = some v.w ∧ w2.frozen? ⟨o, 0, none⟩ = false) ∧ OutAt (w2.setCell ⟨o, 0, none⟩ (.slice (some ⟨g, 0, none⟩) (ws.length + 1) cap)) B o { v with w := .slice (some ⟨g, 0, none⟩) (ws.length + 1) cap } (ws ++ [x]) ps bs ∧ Kept (OfO o v) w (w2.setCell ⟨o, 0, none⟩ (.slice (some ⟨g, 0, none⟩) (ws.length + 1) cap)) := by
  have hno : v.w.ownBlock ≠ some o := fun e => own_no h.rw_ h.blk (by decide) e rfl
  obtain ⟨h1, h2, h3, h4⟩ := grow_step (j := 0) (v' := .slice (some ⟨g, 0, none⟩) (ws.length + 1) cap) h.blk hk0 hg hno (by rfl)
  have h8 : ∀ k, Typ w k 5 → ¬ (k = o ∨ v.w.ownBlock = some k) := fun k hk e => h.no8 k hk (by rcases e with e | e; exact .inl e; exact .inr (.inl e))
  have hgo : g ≠ o := by
    rcases hat with e | e
    · exact own_no h.rw_ h.blk (by decide) e
    · have := blk_lt h.blk; have := hk0.size; omega
  refine ⟨h1, ⟨by simpa using h2, h.ge, ?_, h3.row h.rp (fun k hk => ⟨own_no h.rp h.blk (by decide) hk, own_ne h.rp h.rw_ (by decide) hk⟩), h3.row h.rb (fun k hk => ⟨own_no h.rb h.blk (by decide) hk, own_ne h.rb h.rw_ (by decide) hk⟩), fun y hy => ?_⟩, h3.kept.mono (fun k _ e => by rcases e with e | e; exact .inl e; exact .inr (.inl e))⟩
  · rw [csW_snoc, List.length_append]
    exact h4.row hr (fun k hk => by have : g = k := by simpa [Value.ownBlock] using hk
                                    subst this; exact hgo)
  · rcases List.mem_append.1 hy with hy | hy
    · exact (h.dat y hy).kept h3.kept h8
    · obtain rfl : y = x := by simpa using hy
      exact hx.kept h3.kept h8
theorem OutAt.growP (h : OutAt w B o v ws ps bs) (hk0 : Kept (fun _ => False) w W1) (hg : W1.grownBy w2 v.p.ownBlock) {x : Pe} (hr : w2.ownsRow B 63 10 (.slice (some ⟨g, 0, none⟩) (ps.length + 1) cap) (ps.length + 1) (csP ps ++ pcs x)) (hat : v.p.ownBlock = some g ∨ g = W1.heap.size) :
    (w2.cell? ⟨o, 1, none⟩ = some v.p ∧ w2.frozen? ⟨o, 1, none⟩ = false) ∧ OutAt (w2.setCell ⟨o, 1, none⟩ (.slice (some ⟨g, 0, none⟩) (ps.length + 1) cap)) B o { v with p := .slice (some ⟨g, 0, none⟩) (ps.length + 1) cap } ws (ps ++ [x]) bs ∧ Kept (OfO o v) w (w2.setCell ⟨o, 1, none⟩ (.slice (some ⟨g, 0, none⟩) (ps.length + 1) cap)) := by
  have hno : v.p.ownBlock ≠ some o := fun e => own_no h.rp h.blk (by decide) e rfl
  obtain ⟨h1, h2, h3, h4⟩ := grow_step (j := 1) (v' := .slice (some ⟨g, 0, none⟩) (ps.length + 1) cap) h.blk hk0 hg hno (by rfl)
  have h8 : ∀ k, Typ w k 5 → ¬ (k = o ∨ v.p.ownBlock = some k) := fun k hk e => h.no8 k hk (by rcases e with e | e; exact .inl e; exact .inr (.inr (.inl e)))
  have hgo : g ≠ o := by
    rcases hat with e | e
    · exact own_no h.rp h.blk (by decide) e
    · have := blk_lt h.blk; have := hk0.size; omega
  refine ⟨h1, ⟨by simpa using h2, h.ge, h3.row h.rw_ (fun k hk => ⟨own_no h.rw_ h.blk (by decide) hk, own_ne h.rw_ h.rp (by decide) hk⟩), ?_, h3.row h.rb (fun k hk => ⟨own_no h.rb h.blk (by decide) hk, own_ne h.rb h.rp (by decide) hk⟩), fun y hy => (h.dat y hy).kept h3.kept h8⟩, h3.kept.mono (fun k _ e => by rcases e with e | e; exact .inl e; exact .inr (.inr (.inl e)))⟩
  rw [csP_snoc, List.length_append]
  exact h4.row hr (fun k hk => by have : g = k := by simpa [Value.ownBlock] using hk
                                  subst this; exact hgo)
theorem OutAt.growB (h : OutAt w B o v ws ps bs) (hk0 : Kept (fun _ => False) w W1) (hg : W1.grownBy w2 v.b.ownBlock) {x : Nat} (hr : w2.ownsRow B 3 1 (.slice (some ⟨g, 0, none⟩) (bs.length + 1) cap) (bs.length + 1) (csB bs ++ [bcs x])) (hat : v.b.ownBlock = some g ∨ g = W1.heap.size) :
    (w2.cell? ⟨o, 2, none⟩ = some v.b ∧ w2.frozen? ⟨o, 2, none⟩ = false) ∧ OutAt (w2.setCell ⟨o, 2, none⟩ (.slice (some ⟨g, 0, none⟩) (bs.length + 1) cap)) B o { v with b := .slice (some ⟨g, 0, none⟩) (bs.length + 1) cap } ws ps (bs ++ [x]) ∧ Kept (OfO o v) w (w2.setCell ⟨o, 2, none⟩ (.slice (some ⟨g, 0, none⟩) (bs.length + 1) cap)) := by
  have hno : v.b.ownBlock ≠ some o := fun e => own_no h.rb h.blk (by decide) e rfl
  obtain ⟨h1, h2, h3, h4⟩ := grow_step (j := 2) (v' := .slice (some ⟨g, 0, none⟩) (bs.length + 1) cap) h.blk hk0 hg hno (by rfl)
  have h8 : ∀ k, Typ w k 5 → ¬ (k = o ∨ v.b.ownBlock = some k) := fun k hk e => h.no8 k hk (by rcases e with e | e; exact .inl e; exact .inr (.inr (.inr e)))
  have hgo : g ≠ o := by
    rcases hat with e | e
    · exact own_no h.rb h.blk (by decide) e
    · have := blk_lt h.blk; have := hk0.size; omega
  refine ⟨h1, ⟨by simpa using h2, h.ge, h3.row h.rw_ (fun k hk => ⟨own_no h.rw_ h.blk (by decide) hk, own_ne h.rw_ h.rb (by decide) hk⟩), h3.row h.rp (fun k hk => ⟨own_no h.rp h.blk (by decide) hk, own_ne h.rp h.rb (by decide) hk⟩), ?_, fun y hy => (h.dat y hy).kept h3.kept h8⟩, h3.kept.mono (fun k _ e => by rcases e with e | e; exact .inl e; exact .inr (.inr (.inr e)))⟩
  rw [csB_snoc, List.length_append]
  exact h4.row hr (fun k hk => by have : g = k := by simpa [Value.ownBlock] using hk
                                  subst this; exact hgo)
end
end Go.Proofs.YtlmbbnkdiokabaaDoor
