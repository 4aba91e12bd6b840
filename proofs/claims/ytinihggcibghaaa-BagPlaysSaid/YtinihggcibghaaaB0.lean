/-
  Bags: plain, and in memory.
-/
import Derived.Test.YtinihggcibghaaaHeap
import Derived.Test.YtinihggcibghaaaKp
import Derived.WalkKit
import Derived.WalkSpells
import Derived.WalkLawsBesides
import Derived.Below
import Derived.Laws.OwnMore
import Derived.Laws.AppendOwn
import Derived.Laws.AppendOwnNone
import Derived.Laws.MakeOwn
import Derived.Deep.AppendLies
import Derived.Deep.Draws
import Derived.Deep.OwnRows
import Derived.Lib.Hide
namespace Go.Proofs.Ytinihggcibghaaa
set_option maxRecDepth 100000
set_option linter.unusedSimpArgs false
open Go Go.RowKit

namespace Bg
/-- A packet; what became of packets; a bag. -/
structure Fl where
  n : Int
  f : Int
  t : Int
  d : List Nat
  s : Bool
deriving DecidableEq
structure Ct where
  sent : Nat
  del : Nat
  drp : Nat
  dbl : Nat
  spt : Nat
  lost : Nat
deriving DecidableEq
structure St where
  l : List Fl
  last : Nat
  c : Ct

def zero : St := ⟨[], 0, ⟨0, 0, 0, 0, 0, 0⟩⟩
def noFl : Fl := ⟨0, 0, 0, [], false⟩
def idx (l : List Fl) (n : Int) : Option Nat := l.findIdx? (fun x => x.n == n)
/-- One comes. -/
def comeV (b : St) : Int := if 256 ≤ b.l.length then 0 else ((b.last + 1 : Nat) : Int)
def comeS (b : St) (f t : Int) (d : List Nat) (s : Bool) : St := if 256 ≤ b.l.length then { b with c := { b.c with lost := b.c.lost + 1 } } else { b with l := b.l ++ [⟨((b.last + 1 : Nat) : Int), f, t, d, s⟩], last := b.last + 1 }
def sendS (b : St) (f t : Int) (d : List Nat) : St := comeS { b with c := { b.c with sent := b.c.sent + 1 } } f t d false
def delS (b : St) (n : Int) : St := match idx b.l n with | none => b | some i => { b with l := b.l.eraseIdx i, c := { b.c with del := b.c.del + 1 } }
def dropS (b : St) (n : Int) : St := match idx b.l n with | none => b | some i => { b with l := b.l.eraseIdx i, c := { b.c with drp := b.c.drp + 1 } }
def dblS (b : St) (n : Int) : St := match idx b.l n with | none => b | some i => comeS { b with c := { b.c with dbl := b.c.dbl + 1 } } (b.l.getD i noFl).f (b.l.getD i noFl).t (b.l.getD i noFl).d (b.l.getD i noFl).s
/-- May it be spoilt? -/
def canS (x : Fl) (at_ : Int) (v : Nat) : Bool := !x.s && decide (0 ≤ at_) && decide (at_ < (x.d.length : Int)) && !(v == 0)
def spoilt (x : Fl) (at_ : Nat) (v : Nat) : Fl := { x with d := x.d.set at_ ((x.d.getD at_ 0) ^^^ v), s := true }
def spoilS (b : St) (n at_ : Int) (v : Nat) : St := match idx b.l n with | none => b | some i => if canS (b.l.getD i noFl) at_ v then { b with l := b.l.set i (spoilt (b.l.getD i noFl) at_.toNat v), c := { b.c with spt := b.c.spt + 1 } } else b

/-- What bounds a bag's numbers. -/
structure Bd (k : Nat) (b : St) : Prop where
  last : b.last ≤ k
  len : b.l.length ≤ 256
  sent : b.c.sent ≤ k
  del : b.c.del ≤ k
  drp : b.c.drp ≤ k
  dbl : b.c.dbl ≤ k
  spt : b.c.spt ≤ k
  lost : b.c.lost ≤ k
  dat : ∀ x ∈ b.l, x.d.length ≤ 60 ∧ ∀ c ∈ x.d, c < 256

theorem idx_some {l : List Fl} {n : Int} {i : Nat} (h : idx l n = some i) : i < l.length ∧ (l.getD i noFl).n = n := by
  unfold idx at h
  obtain ⟨h1, h2, _⟩ := List.findIdx?_eq_some_iff_getElem.1 h
  refine ⟨h1, ?_⟩
  rw [List.getD_eq_getElem?_getD, List.getElem?_eq_getElem h1]
  simpa using h2
theorem idx_none {l : List Fl} {n : Int} (h : idx l n = none) : ∀ x ∈ l, x.n ≠ n := by
  intro x hx e
  unfold idx at h
  rw [List.findIdx?_eq_none_iff] at h
  have := h x hx
  simp [e] at this

theorem Bd.mono {k m : Nat} {b : St} (h : Bd k b) (hm : k ≤ m) : Bd m b :=
  ⟨Nat.le_trans h.last hm, h.len, Nat.le_trans h.sent hm, Nat.le_trans h.del hm, Nat.le_trans h.drp hm, Nat.le_trans h.dbl hm, Nat.le_trans h.spt hm, Nat.le_trans h.lost hm, h.dat⟩
theorem Bd.zero (k : Nat) : Bd k zero := ⟨Nat.zero_le _, Nat.zero_le _, Nat.zero_le _, Nat.zero_le _, Nat.zero_le _, Nat.zero_le _, Nat.zero_le _, Nat.zero_le _, fun x h => by cases h⟩
theorem Bd.at_ {k : Nat} {b : St} (h : Bd k b) {i : Nat} (hi : i < b.l.length) : (b.l.getD i noFl).d.length ≤ 60 ∧ ∀ c ∈ (b.l.getD i noFl).d, c < 256 := by
  have : b.l.getD i noFl ∈ b.l := by rw [List.getD_eq_getElem?_getD, List.getElem?_eq_getElem hi]; exact List.getElem_mem hi
  exact h.dat _ this
theorem Bd.come {k : Nat} {b : St} (h : Bd k b) (f t : Int) {d : List Nat} (s : Bool) (hd : d.length ≤ 60) (hc : ∀ c ∈ d, c < 256) : Bd (k + 1) (comeS b f t d s) := by
  obtain ⟨h1, h2, h3, h4, h5, h6, h7, h8, h9⟩ := h
  unfold comeS
  split
  · exact ⟨by first | omega | (simp; omega), h2, by first | omega | (simp; omega), by first | omega | (simp; omega), by first | omega | (simp; omega), by first | omega | (simp; omega), by first | omega | (simp; omega), by first | omega | (simp; omega), h9⟩
  · refine ⟨by first | omega | (simp; omega), by first | omega | (simp; omega), by first | omega | (simp; omega), by first | omega | (simp; omega), by first | omega | (simp; omega), by first | omega | (simp; omega), by first | omega | (simp; omega), by first | omega | (simp; omega), fun x hx => ?_⟩
    rcases List.mem_append.1 hx with hx | hx
    · exact h9 x hx
    · rw [List.mem_singleton] at hx; subst hx; exact ⟨hd, hc⟩
theorem Bd.send1 {k : Nat} {b : St} (h : Bd k b) : Bd (k + 1) { b with c := { b.c with sent := b.c.sent + 1 } } := by
  obtain ⟨h1, h2, h3, h4, h5, h6, h7, h8, h9⟩ := h
  exact ⟨by first | omega | (simp; omega), h2, by first | omega | (simp; omega), by first | omega | (simp; omega), by first | omega | (simp; omega), by first | omega | (simp; omega), by first | omega | (simp; omega), by first | omega | (simp; omega), h9⟩
theorem Bd.send {k : Nat} {b : St} (h : Bd k b) (f t : Int) {d : List Nat} (hd : d.length ≤ 60) (hc : ∀ c ∈ d, c < 256) : Bd (k + 2) (sendS b f t d) :=
  h.send1.come f t false hd hc
theorem Bd.dbl1 {k : Nat} {b : St} (h : Bd k b) : Bd (k + 1) { b with c := { b.c with dbl := b.c.dbl + 1 } } := by
  obtain ⟨h1, h2, h3, h4, h5, h6, h7, h8, h9⟩ := h
  exact ⟨by first | omega | (simp; omega), h2, by first | omega | (simp; omega), by first | omega | (simp; omega), by first | omega | (simp; omega), by first | omega | (simp; omega), by first | omega | (simp; omega), by first | omega | (simp; omega), h9⟩
theorem Bd.del1 {k : Nat} {b : St} (h : Bd k b) (n : Int) : Bd (k + 1) (delS b n) := by
  obtain ⟨h1, h2, h3, h4, h5, h6, h7, h8, h9⟩ := h
  unfold delS
  split
  · exact ⟨by omega, h2, by omega, by omega, by omega, by omega, by omega, by omega, h9⟩
  · exact ⟨by first | omega | (simp; omega), by simp only; exact Nat.le_trans (List.length_eraseIdx_le _ _) h2, by first | omega | (simp; omega), by first | omega | (simp; omega), by first | omega | (simp; omega), by first | omega | (simp; omega), by first | omega | (simp; omega), by first | omega | (simp; omega), fun x hx => h9 x (List.mem_of_mem_eraseIdx hx)⟩
theorem Bd.drop1 {k : Nat} {b : St} (h : Bd k b) (n : Int) : Bd (k + 1) (dropS b n) := by
  obtain ⟨h1, h2, h3, h4, h5, h6, h7, h8, h9⟩ := h
  unfold dropS
  split
  · exact ⟨by omega, h2, by omega, by omega, by omega, by omega, by omega, by omega, h9⟩
  · exact ⟨by first | omega | (simp; omega), by simp only; exact Nat.le_trans (List.length_eraseIdx_le _ _) h2, by first | omega | (simp; omega), by first | omega | (simp; omega), by first | omega | (simp; omega), by first | omega | (simp; omega), by first | omega | (simp; omega), by first | omega | (simp; omega), fun x hx => h9 x (List.mem_of_mem_eraseIdx hx)⟩
theorem Bd.dbl2 {k : Nat} {b : St} (h : Bd k b) (n : Int) : Bd (k + 2) (dblS b n) := by
  unfold dblS
  split
  · exact h.mono (by omega)
  · rename_i i hi
    have h1 := h.at_ (idx_some hi).1
    exact h.dbl1.come _ _ _ h1.1 h1.2
theorem xor_lt {a b : Nat} (ha : a < 256) (hb : b < 256) : a ^^^ b < 256 := Nat.xor_lt_two_pow (n := 8) ha hb
theorem Bd.spoil1 {k : Nat} {b : St} (h : Bd k b) (n at_ : Int) {v : Nat} (hv : v < 256) : Bd (k + 1) (spoilS b n at_ v) := by
  have h0 := h
  obtain ⟨h1, h2, h3, h4, h5, h6, h7, h8, h9⟩ := h
  unfold spoilS
  split
  · exact h0.mono (by omega)
  · rename_i i hi
    have ha := h0.at_ (idx_some hi).1
    split
    · refine ⟨by first | omega | (simp; omega), by first | omega | (simp; omega), by first | omega | (simp; omega), by first | omega | (simp; omega), by first | omega | (simp; omega), by first | omega | (simp; omega), by first | omega | (simp; omega), by first | omega | (simp; omega), fun x hx => ?_⟩
      rcases List.mem_or_eq_of_mem_set hx with hx | rfl
      · exact h9 x hx
      · refine ⟨by simp [spoilt]; exact ha.1, fun c hc => ?_⟩
        rcases List.mem_or_eq_of_mem_set hc with hc | rfl
        · exact ha.2 c hc
        · refine xor_lt ?_ hv
          rw [List.getD_eq_getElem?_getD]
          rcases Nat.lt_or_ge at_.toNat (b.l.getD i noFl).d.length with hlt | hge
          · rw [List.getElem?_eq_getElem hlt]; exact ha.2 _ (List.getElem_mem hlt)
          · rw [List.getElem?_eq_none hge]; simp
    · exact h0.mono (by omega)
end Bg
open Bg

def byV (c : Nat) : Value := .int .u8 (c : Nat)
theorem byV_one (l : List Nat) : ∀ u ∈ l.map byV, u.oneCell' = true := by intro u hu; obtain ⟨z, _, rfl⟩ := List.mem_map.1 hu; rfl
/-- Bytes at an address. -/
def BytesAt (w : World) (A : Option Addr) (l : List Nat) : Prop := ∀ j, j < l.length → ∃ a, A = some a ∧ w.cell? (a.add j) = some (byV (l.getD j 0))
theorem add_block (a : Addr) (j : Nat) : (a.add j).block = a.block := by unfold Addr.add; split <;> rfl
theorem BytesAt.kept {w w' : World} {X : Nat → Prop} {A : Option Addr} {l : List Nat} (h : BytesAt w A l) (hk : Kept X w w') (hX : ∀ a, A = some a → ¬ X a.block) : BytesAt w' A l := by
  intro j hj
  obtain ⟨a, e, h1⟩ := h j hj
  exact ⟨a, e, hk.cell h1 (by rw [add_block]; exact hX a e)⟩
theorem BytesAt.kept2 {w w' : World} {X : Nat → Prop} {A : Option Addr} {l : List Nat} (h : BytesAt w A l) (hk : Kept X w w') (hX : ∀ a, A = some a → 0 < l.length → ¬ X a.block) : BytesAt w' A l := by
  intro j hj
  obtain ⟨a, e, h1⟩ := h j hj
  exact ⟨a, e, hk.cell h1 (by rw [add_block]; exact hX a e (by omega))⟩
theorem BytesAt.lt {w : World} {A : Option Addr} {l : List Nat} (h : BytesAt w A l) : ∀ a, A = some a → 0 < l.length → a.block < w.heap.size := by
  intro a ha h0
  obtain ⟨a', e, h1⟩ := h 0 h0
  rw [ha] at e
  cases e
  have := World.block_lt_of_cell? w _ h1
  rwa [add_block] at this
theorem BytesAt.below {w w' : World} {A : Option Addr} {l : List Nat} (h : BytesAt w A l) (hb : Below w.heap.size w w') : BytesAt w' A l := h.kept (Kept.of_below (X := fun _ => False) hb (Nat.le_refl _)) (fun _ _ => id)

/-- Bytes of a call's own: they are bytes at an address. -/
theorem row_bytes {w : World} {base : Nat} {v : Value} {l : List Nat} (h : w.ownsRow base 5 1 v l.length (l.map byV)) : ∃ A cap, v = .slice A l.length cap ∧ BytesAt w A l ∧ l.length ≤ cap ∧ cap ≤ maxLen ∧ (A = none → l = [] ∧ cap = 0) := by
  rcases h.2 with ⟨rfl, h0⟩ | ⟨g, cap, cur, rfl, hb, hg, hle, hmx, hsz, htk⟩
  · refine ⟨none, 0, by rw [h0], fun j hj => by omega, by omega, by simp [maxLen], fun _ => ⟨List.length_eq_zero_iff.1 h0, rfl⟩⟩
  · refine ⟨_, cap, rfl, fun j hj => ⟨_, rfl, ?_⟩, hle, hmx, fun e => by cases e⟩
    refine h.cells rfl j _ ?_
    simp [hj]

/-- A packet's cells; a list's. -/
def Bg.Fl.cs (x : Fl) (u : Value) : List Value := [.int .i64 x.n, .int .i64 x.f, .int .i64 x.t, u, .bool x.s]
@[reducible] def flA (x : Fl) (u : Value) : Value := .agg #[.int .i64 x.n, .int .i64 x.f, .int .i64 x.t, u, .bool x.s]
abbrev Ent := Fl × (Option Addr × Nat)
def Ent.v (e : Ent) : Value := .slice e.2.1 e.1.d.length e.2.2
def noE : Ent := (noFl, none, 0)
def csE (E : List Ent) : List Value := E.flatMap fun e => e.1.cs (Ent.v e)
theorem csE_length (l : List Ent) : (csE l).length = l.length * 5 := by
  induction l with
  | nil => rfl
  | cons x l ih => show (x.1.cs (Ent.v x) ++ csE l).length = _; rw [List.length_append, ih]; simp [Fl.cs]; omega
theorem csE_append (l m : List Ent) : csE (l ++ m) = csE l ++ csE m := by simp [csE]
theorem csE_get {l : List Ent} {k j : Nat} (h : k < l.length) (hj : j < 5) : (csE l)[k * 5 + j]? = ((l.getD k noE).1.cs (Ent.v (l.getD k noE)))[j]? := by
  induction l generalizing k with
  | nil => simp at h
  | cons x l ih =>
    show (x.1.cs (Ent.v x) ++ csE l)[k * 5 + j]? = _
    cases k with
    | zero => rw [List.getElem?_append_left (by simp [Fl.cs]; omega)]; simp
    | succ k =>
      rw [List.getElem?_append_right (by simp [Fl.cs]; omega), List.getD_cons_succ, ← ih (by simpa using h)]
      congr 1
      simp [Fl.cs]; omega
theorem csE_take (l : List Ent) (n : Nat) : (csE l).take (n * 5) = csE (l.take n) := by
  induction l generalizing n with
  | nil => simp [csE]
  | cons x l ih =>
    cases n with
    | zero => simp [csE]
    | succ n =>
      show (x.1.cs (Ent.v x) ++ csE l).take _ = x.1.cs (Ent.v x) ++ csE (l.take n)
      have e : (n + 1) * 5 = (x.1.cs (Ent.v x)).length + n * 5 := by simp [Fl.cs]; omega
      rw [e, List.take_length_add_append, ih]
theorem csE_drop (l : List Ent) (n : Nat) : (csE l).drop (n * 5) = csE (l.drop n) := by
  induction l generalizing n with
  | nil => simp [csE]
  | cons x l ih =>
    cases n with
    | zero => simp [csE]
    | succ n =>
      show (x.1.cs (Ent.v x) ++ csE l).drop _ = csE (l.drop n)
      have e : (n + 1) * 5 = (x.1.cs (Ent.v x)).length + n * 5 := by simp [Fl.cs]; omega
      rw [e, List.drop_length_add_append, ih]
theorem csE_set34 {l : List Ent} {k : Nat} (h : k < l.length) (e : Ent) (h1 : e.1.n = (l.getD k noE).1.n) (h2 : e.1.f = (l.getD k noE).1.f) (h3 : e.1.t = (l.getD k noE).1.t) : csE (l.set k e) = ((csE l).set (k * 5 + 3) (Ent.v e)).set (k * 5 + 4) (.bool e.1.s) := by
  induction l generalizing k with
  | nil => simp at h
  | cons y l ih =>
    cases k with
    | zero =>
      simp only [List.getD_cons_zero] at h1 h2 h3
      show e.1.cs (Ent.v e) ++ csE l = ((y.1.cs (Ent.v y) ++ csE l).set _ _).set _ _
      unfold Fl.cs
      rw [h1, h2, h3]
      rfl
    | succ k =>
      rw [List.set_cons_succ]
      show y.1.cs (Ent.v y) ++ csE _ = ((y.1.cs (Ent.v y) ++ csE l).set _ _).set _ _
      have e : ∀ j, (k + 1) * 5 + j = (y.1.cs (Ent.v y)).length + (k * 5 + j) := by intro j; simp [Fl.cs]; omega
      rw [e, e]
      have := ih (k := k) (by simpa using h) (by simpa using h1) (by simpa using h2) (by simpa using h3)
      rw [this]
      simp
theorem csE_set4 {l : List Ent} {k : Nat} (h : k < l.length) (e : Ent) (h1 : e.1.n = (l.getD k noE).1.n) (h2 : e.1.f = (l.getD k noE).1.f) (h3 : e.1.t = (l.getD k noE).1.t) (h4 : Ent.v e = Ent.v (l.getD k noE)) : csE (l.set k e) = (csE l).set (k * 5 + 4) (.bool e.1.s) := by
  rw [csE_set34 h e h1 h2 h3, h4]
  have hg : (csE l)[k * 5 + 3]? = some (Ent.v (l.getD k noE)) := csE_get h (j := 3) (by omega)
  congr 1
  apply List.ext_getElem?
  intro i
  rw [List.getElem?_set]
  split
  · rename_i hi
    subst hi
    rw [hg, if_pos (List.getElem?_eq_some_iff.1 hg).1]
  · rfl
theorem csE_one {l : List Ent} : ∀ u ∈ csE l, u.oneCell' = true := by
  intro u h
  simp only [csE, List.mem_flatMap, Fl.cs] at h
  obtain ⟨x, _, h⟩ := h
  simp at h
  rcases h with rfl | rfl | rfl | rfl | rfl
  · rfl
  · rfl
  · rfl
  · rfl
  · rfl

/-- A bag's object. -/
@[reducible] def objC (v : Value) (b : St) : Array Value := #[v, .int .i64 (b.last : Nat), .int .i64 (b.c.sent : Nat), .int .i64 (b.c.del : Nat), .int .i64 (b.c.drp : Nat), .int .i64 (b.c.dbl : Nat), .int .i64 (b.c.spt : Nat), .int .i64 (b.c.lost : Nat)]
/-- Its packets' bytes: each of a block of its own. -/
def Apart (E : List Ent) : Prop := (E.map Ent.v).Pairwise (fun a b => ∀ g, a.ownBlock = some g → b.ownBlock ≠ some g)
structure Own (w : World) (S : Nat → Prop) (o : Nat) (v : Value) (E : List Ent) : Prop where
  row : w.ownsRow 0 38 5 v E.length (csE E)
  dat : ∀ e ∈ E, w.ownsRow 0 5 1 (Ent.v e) e.1.d.length (e.1.d.map byV)
  vo : ∀ g, v.ownBlock = some g → S g ∧ g ≠ o
  eo : ∀ e ∈ E, ∀ g, (Ent.v e).ownBlock = some g → S g ∧ g ≠ o ∧ v.ownBlock ≠ some g
  apart : Apart E
/-- A bag in memory. -/
structure BagAt (t : TypeId) (w : World) (S : Nat → Prop) (o : Nat) (b : St) : Prop where
  own : ∃ v E, E.map (·.1) = b.l ∧ w.heap[o]? = some (.cells (objC v b) t (0, 0)) ∧ Own w S o v E
  so : S o
  lt : ∀ k, S k → k < w.heap.size

theorem Own.kept {w w' : World} {S X : Nat → Prop} {o : Nat} {v : Value} {E : List Ent} (h : Own w S o v E) (hk : Kept X w w') (hX : ∀ k, S k → ¬ X k) : Own w' S o v E :=
  ⟨hk.row h.row (fun g hg => hX g (h.vo g hg).1), fun e he => hk.row (h.dat e he) (fun g hg => hX g (h.eo e he g hg).1), h.vo, h.eo, h.apart⟩
theorem Own.more {w : World} {S S' : Nat → Prop} {o : Nat} {v : Value} {E : List Ent} (h : Own w S o v E) (hS : ∀ k, S k → S' k) : Own w S' o v E :=
  ⟨h.row, h.dat, fun g hg => ⟨hS _ (h.vo g hg).1, (h.vo g hg).2⟩, fun e he g hg => ⟨hS _ (h.eo e he g hg).1, (h.eo e he g hg).2⟩, h.apart⟩
namespace BagAt
variable {t : TypeId} {w w' : World} {S X : Nat → Prop} {o : Nat} {b : St}
theorem kept (h : BagAt t w S o b) (hk : Kept X w w') (hX : ∀ k, S k → ¬ X k) : BagAt t w' S o b := by
  obtain ⟨⟨v, E, h1, h2, h3⟩, h4, h5⟩ := h
  exact ⟨⟨v, E, h1, (hk.block _ (h5 _ h4) (hX _ h4)).trans h2, h3.kept hk hX⟩, h4, fun k hk' => Nat.lt_of_lt_of_le (h5 k hk') hk.size⟩
theorem below (h : BagAt t w S o b) (hb : Below w.heap.size w w') : BagAt t w' S o b := h.kept (Kept.of_below (X := fun _ => False) hb (Nat.le_refl _)) (fun _ _ => id)
theorem drew (h : BagAt t w S o b) : BagAt t w.drew S o b := h.kept ((Kept.refl (fun _ => False) w).drew) (fun _ _ => id)
theorem alloc (h : BagAt t w S o b) (x : Obj) : BagAt t (w.alloc x) S o b := h.kept ((Kept.refl (fun _ => False) w).alloc x) (fun _ _ => id)
theorem more (h : BagAt t w S o b) {S' : Nat → Prop} (hS : ∀ k, S k → S' k) (hlt : ∀ k, S' k → k < w.heap.size) : BagAt t w S' o b := by
  obtain ⟨⟨v, E, h1, h2, h3⟩, h4, h5⟩ := h
  exact ⟨⟨v, E, h1, h2, h3.more hS⟩, hS _ h4, hlt⟩
end BagAt
/-- A bag has turned: what of it is new lies in new blocks. -/
def StepTo (t : TypeId) (w : World) (S : Nat → Prop) (o : Nat) (b : St) (w' : World) : Prop :=
  Kept S w w' ∧ ∃ S', BagAt t w' S' o b ∧ (∀ k, S k → S' k) ∧ ∀ k, S' k → S k ∨ w.heap.size ≤ k
theorem StepTo.trans {t : TypeId} {w w1 w2 : World} {S : Nat → Prop} {o : Nat} {b b2 : St} (h : StepTo t w S o b w1) (k : ∀ S1, BagAt t w1 S1 o b → StepTo t w1 S1 o b2 w2) : StepTo t w S o b2 w2 := by
  obtain ⟨h1, S1, h2, h3, h4⟩ := h
  obtain ⟨k1, S2, k2, k3, k4⟩ := k S1 h2
  refine ⟨h1.trans k1 (fun i hi hs => (h4 i hs).elim id (fun h => absurd hi (by omega))), S2, k2, fun i hi => k3 i (h3 i hi), fun i hi => ?_⟩
  rcases k4 i hi with h | h
  · exact h4 i h
  · exact .inr (Nat.le_trans h1.size h)
theorem StepTo.still {t : TypeId} {w w' : World} {S : Nat → Prop} {o : Nat} {b : St} (h : BagAt t w S o b) (hb : Below w.heap.size w w') : StepTo t w S o b w' :=
  ⟨Kept.of_below hb (Nat.le_refl _), S, h.below hb, fun _ h => h, fun _ h => .inl h⟩
theorem StepTo.pre {t : TypeId} {w w1 w2 : World} {S : Nat → Prop} {o : Nat} {b : St} (hb : Below w.heap.size w w1) (h : StepTo t w1 S o b w2) : StepTo t w S o b w2 := by
  obtain ⟨h1, S1, h2, h3, h4⟩ := h
  exact ⟨(Kept.of_below hb (Nat.le_refl _)).trans h1 (fun _ _ h => h), S1, h2, h3, fun k hk => (h4 k hk).imp id (fun h => Nat.le_trans hb.size h)⟩
theorem StepTo.post {t : TypeId} {w w1 w2 : World} {S : Nat → Prop} {o : Nat} {b : St} (h : StepTo t w S o b w1) (hb : Below w1.heap.size w1 w2) : StepTo t w S o b w2 :=
  h.trans fun _ h1 => StepTo.still h1 hb
theorem entD {E : List Ent} {l : List Fl} (h : E.map (·.1) = l) (k : Nat) : (E.getD k noE).1 = l.getD k noFl := by
  subst h
  rw [List.getD_eq_getElem?_getD, List.getD_eq_getElem?_getD, List.getElem?_map]
  cases E[k]? <;> rfl
theorem entM {E : List Ent} {k : Nat} (h : k < E.length) : E.getD k noE ∈ E := by rw [List.getD_eq_getElem?_getD, List.getElem?_eq_getElem h]; exact List.getElem_mem h
/-- A packet's cells in the list. -/
theorem Own.cells {w : World} {S : Nat → Prop} {o : Nat} {E : List Ent} {g n cap : Nat} (h : Own w S o (.slice (some ⟨g, 0, none⟩) n cap) E) {k : Nat} (hk : k < E.length) :
    w.cell? ⟨g, k * 5, none⟩ = some (.int .i64 (E.getD k noE).1.n) ∧ w.cell? ⟨g, k * 5 + 1, none⟩ = some (.int .i64 (E.getD k noE).1.f) ∧ w.cell? ⟨g, k * 5 + 2, none⟩ = some (.int .i64 (E.getD k noE).1.t) ∧ w.cell? ⟨g, k * 5 + 3, none⟩ = some (Ent.v (E.getD k noE)) ∧ w.cell? ⟨g, k * 5 + 4, none⟩ = some (.bool (E.getD k noE).1.s) := by
  have hr := h.row
  have hn : n = E.length := by
    rcases hr.2 with ⟨h1, _⟩ | ⟨_, _, _, h1, _⟩
    · cases h1
    · cases h1; rfl
  subst hn
  have q := fun j (hj : j < 5) => (hr.cellAt (k * 5 + j) (by omega)).trans (csE_get hk hj)
  exact ⟨q 0 (by omega), q 1 (by omega), q 2 (by omega), q 3 (by omega), q 4 (by omega)⟩
/-- The list's value. -/
theorem Own.form {w : World} {S : Nat → Prop} {o : Nat} {v : Value} {E : List Ent} (h : Own w S o v E) : ∃ A cap, v = .slice A E.length cap ∧ E.length ≤ cap ∧ cap ≤ maxLen ∧ (0 < E.length → ∃ g, A = some ⟨g, 0, none⟩) := by
  rcases h.row.2 with ⟨rfl, h0⟩ | ⟨g, cap, cur, rfl, _, _, h1, h2, _⟩
  · exact ⟨none, 0, by rw [h0], by omega, by simp [maxLen], fun h => by omega⟩
  · exact ⟨_, cap, rfl, h1, h2, fun _ => ⟨g, rfl⟩⟩
theorem Own.ent {w : World} {S : Nat → Prop} {o : Nat} {v : Value} {E : List Ent} (h : Own w S o v E) {k : Nat} (hk : k < E.length) : BytesAt w (E.getD k noE).2.1 (E.getD k noE).1.d ∧ (E.getD k noE).1.d.length ≤ (E.getD k noE).2.2 ∧ (E.getD k noE).2.2 ≤ maxLen ∧ ((E.getD k noE).2.1 = none → (E.getD k noE).1.d = [] ∧ (E.getD k noE).2.2 = 0) := by
  obtain ⟨A, cap, h1, h2⟩ := row_bytes (h.dat _ (entM hk))
  unfold Ent.v at h1
  injection h1 with e1 _ e3
  rw [e1, e3]
  exact h2
theorem row_base {w : World} {B B' : Nat} {e : TypeId} {size : Nat} {v : Value} {n : Nat} {xs : List Value} (h : w.ownsRow B e size v n xs) (hB : B' ≤ B) : w.ownsRow B' e size v n xs := by
  refine ⟨h.1, ?_⟩
  rcases h.2 with hn | ⟨g, cap, cur, rfl, hb, rest⟩
  · exact .inl hn
  · exact .inr ⟨g, cap, cur, rfl, Nat.le_trans hB hb, rest⟩
/-- Five cells. -/
theorem five {w : World} {g : Nat} {a b c d e : Value} {t : TypeId} (h : w.heap[g]? = some (.cells #[a, b, c, d, e] t (0, 0))) : (w.cell? ⟨g, 0, none⟩ = some a ∧ w.cell? ⟨g, 1, none⟩ = some b ∧ w.cell? ⟨g, 2, none⟩ = some c ∧ w.cell? ⟨g, 3, none⟩ = some d ∧ w.cell? ⟨g, 4, none⟩ = some e) ∧ w.frozen? ⟨g, 0, none⟩ = false ∧ w.frozen? ⟨g, 1, none⟩ = false ∧ w.frozen? ⟨g, 2, none⟩ = false ∧ w.frozen? ⟨g, 3, none⟩ = false ∧ w.frozen? ⟨g, 4, none⟩ = false :=
  ⟨⟨by rw [blk_cell h]; rfl, by rw [blk_cell h]; rfl, by rw [blk_cell h]; rfl, by rw [blk_cell h]; rfl, by rw [blk_cell h]; rfl⟩, blk_free h 0, blk_free h 1, blk_free h 2, blk_free h 3, blk_free h 4⟩
/-- A bag's object's cells. -/
theorem eight {w : World} {g : Nat} {a b c d e f i j : Value} {t : TypeId} (h : w.heap[g]? = some (.cells #[a, b, c, d, e, f, i, j] t (0, 0))) : (w.cell? ⟨g, 0, none⟩ = some a ∧ w.cell? ⟨g, 1, none⟩ = some b ∧ w.cell? ⟨g, 2, none⟩ = some c ∧ w.cell? ⟨g, 3, none⟩ = some d ∧ w.cell? ⟨g, 4, none⟩ = some e ∧ w.cell? ⟨g, 5, none⟩ = some f ∧ w.cell? ⟨g, 6, none⟩ = some i ∧ w.cell? ⟨g, 7, none⟩ = some j) ∧ ∀ k, w.frozen? ⟨g, k, none⟩ = false :=
  ⟨⟨by rw [blk_cell h]; rfl, by rw [blk_cell h]; rfl, by rw [blk_cell h]; rfl, by rw [blk_cell h]; rfl, by rw [blk_cell h]; rfl, by rw [blk_cell h]; rfl, by rw [blk_cell h]; rfl, by rw [blk_cell h]; rfl⟩, fun k => blk_free h k⟩
end Go.Proofs.Ytinihggcibghaaa
