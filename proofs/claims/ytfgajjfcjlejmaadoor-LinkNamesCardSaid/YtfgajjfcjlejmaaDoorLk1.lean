/-
  A link in memory; messages and their claims.
-/
import Derived.Test.YtfgajjfcjlejmaaDoorLk0
import Derived.Test.YtfgajjfcjlejmaaDoorLw3
import Derived.Test.YtfgajjfcjlejmaaDoorLa2
import Derived.Test.YtfgajjfcjlejmaaDoorWr5
import Derived.Test.YtfgajjfcjlejmaaDoorMpv
import Derived.Laws.OwnMore
import Derived.Laws.AppendOwn
import Derived.Laws.AppendOwnNone
import Derived.Laws.MakeOwn
import Derived.Deep.AppendLies
import Derived.Deep.RegionLaw
import Derived.Lib.SliceRun
namespace Go.Proofs.YtfgajjfcjlejmaaDoor
set_option maxRecDepth 100000
set_option linter.unusedSimpArgs false
open Go Go.RowKit Wr
attribute [local go_sem] Oper.semAt_some

theorem Tryd.infoClaim : (Tryd.prog.info? 138).map (fun i => (i.zero, i.size, i.bytes)) = some (some (.agg #[.int .i64 0, .int .u32 0]), 2, 16) := by kernel_rfl
@[reducible] def zeroMsg : Value := .agg #[.int .i64 0, .int .i64 0, .int .u32 0, .int .u64 0, .int .i64 0, .int .i64 0, .int .i64 0, .int .i64 0, .slice none 0 0]
theorem Tryd.infoMsg : (Tryd.prog.info? 37).map (fun i => (i.zero, i.size, i.bytes)) = some (some (.agg #[.int .i64 0, .int .i64 0, .int .u32 0, .int .u64 0, .int .i64 0, .int .i64 0, .int .i64 0, .int .i64 0, .slice none 0 0]), 9, 88) := by kernel_rfl
theorem Tryd.infoPkt : (Tryd.prog.info? 39).map (fun i => (i.zero, i.size, i.bytes)) = some (some (.agg #[.int .i64 0, .int .i64 0, .int .u32 0, .int .u32 0, .int .u32 0, .int .u32 0, .int .i64 0, .int .i64 0, .int .u32 0, .int .u64 0, .int .i64 0, .int .i64 0, .int .i64 0, .int .i64 0, .slice none 0 0]), 15, 120) := by kernel_rfl

def csC (l : List (Int × Nat)) : List Value := l.flatMap (fun c => [.int .i64 c.1, .int .u32 (c.2 : Nat)])
theorem csC_len (l : List (Int × Nat)) : (csC l).length = l.length * 2 := by
  induction l with
  | nil => rfl
  | cons c l ih => simp [csC] at ih ⊢; omega
theorem csC_get : ∀ (l : List (Int × Nat)) (k : Nat), k < l.length → (csC l)[k * 2]? = some (.int .i64 (l.getD k (0, 0)).1) ∧ (csC l)[k * 2 + 1]? = some (.int .u32 ((l.getD k (0, 0)).2 : Nat))
  | [], k, h => by simp at h
  | c :: l, 0, _ => ⟨rfl, rfl⟩
  | c :: l, k + 1, h => by
    have := csC_get l k (by simpa using h)
    have e : csC (c :: l) = .int .i64 c.1 :: .int .u32 (c.2 : Nat) :: csC l := by simp [csC]
    rw [e, show (k + 1) * 2 = k * 2 + 1 + 1 by omega]
    simpa using this
theorem csC_one (l : List (Int × Nat)) : ∀ u ∈ csC l, u.oneCell' = true := by
  intro u hu
  simp only [csC, List.mem_flatMap] at hu
  obtain ⟨x, _, h⟩ := hu
  simp at h
  rcases h with rfl | rfl <;> rfl
theorem clm_adr (g k : Nat) : (⟨(((⟨g, 0, none⟩ : Addr)).add (k * 2)).block, ((⟨g, 0, none⟩ : Addr).add (k * 2)).off + 1, none⟩ : Addr) = (⟨g, 0, none⟩ : Addr).add (k * 2 + 1) := by
  unfold Addr.add
  by_cases h0 : k = 0
  · subst h0; simp
  · have h00 : ¬ k * 2 = 0 := by omega
    simp [h00]
theorem ab (a : Addr) (j : Nat) : (a.add j).block = a.block := by unfold Addr.add; split <;> rfl

/-- Claims at an address; their block is none of T. -/
structure ClT (w : World) (T : Nat → Prop) (A : Option Addr) (l : List (Int × Nat)) (cap : Nat) : Prop where
  at_ : ClaimsAt w A l
  out : ∀ a, A = some a → 0 < l.length → ¬ T a.block
  nil : A = none → l = [] ∧ cap = 0
theorem ClT.lt {w : World} {T : Nat → Prop} {A : Option Addr} {l : List (Int × Nat)} {cap : Nat} (h : ClT w T A l cap) : ∀ a, A = some a → 0 < l.length → a.block < w.heap.size := by
  intro a e h0
  obtain ⟨a', e', h1, _⟩ := h.at_ 0 h0
  rw [e] at e'
  cases e'
  have := World.block_lt_of_cell? w _ h1
  rwa [ab] at this
theorem ClT.kept {w w' : World} {T X : Nat → Prop} {A : Option Addr} {l : List (Int × Nat)} {cap : Nat} (h : ClT w T A l cap) (hk : Kept X w w') (hX : ∀ k, X k → T k) : ClT w' T A l cap := by
  refine ⟨fun k hlt => ?_, h.out, h.nil⟩
  obtain ⟨a, h0, h1, h2⟩ := h.at_ k hlt
  have hb : (a.add (k * 2)).block = a.block := ab a _
  have hn : ¬ X a.block := fun hx => h.out a h0 (by omega) (hX _ hx)
  exact ⟨a, h0, hk.cell h1 (by rw [hb]; exact hn), hk.cell h2 (by show ¬ X (a.add (k * 2)).block; rw [hb]; exact hn)⟩
theorem ClT.below {w w' : World} {T : Nat → Prop} {A : Option Addr} {l : List (Int × Nat)} {cap : Nat} (h : ClT w T A l cap) (hb : Below w.heap.size w w') : ClT w' T A l cap := h.kept (X := fun _ => False) (Kept.of_below hb (Nat.le_refl _)) (fun _ h => h.elim)
theorem ClT.more {w : World} {T T' : Nat → Prop} {A : Option Addr} {l : List (Int × Nat)} {cap : Nat} (h : ClT w T A l cap) (hT : ∀ k, k < w.heap.size → T' k → T k) : ClT w T' A l cap :=
  ⟨h.at_, fun a e h0 ht => h.out a e h0 (hT _ (h.lt a e h0) ht), h.nil⟩
theorem ClT.none (w : World) (T : Nat → Prop) : ClT w T none [] 0 := ⟨fun k hk => by simp at hk, fun a e => (by cases e), fun _ => ⟨rfl, rfl⟩⟩
theorem row_claims {w : World} {base : Nat} {v : Value} {l : List (Int × Nat)} (h : w.ownsRow base 138 2 v l.length (csC l)) : ∃ A cap, v = .slice A l.length cap ∧ ∀ T : Nat → Prop, (∀ k, T k → k < base) → ClT w T A l cap := by
  rcases h.2 with ⟨rfl, h0⟩ | ⟨g, cap, cur, rfl, hb, hg, _⟩
  · exact ⟨none, 0, by rw [h0], fun T _ => ⟨fun k hk => by omega, fun a e => (by cases e), fun _ => ⟨List.length_eq_zero_iff.1 h0, rfl⟩⟩⟩
  · refine ⟨_, cap, rfl, fun T hT => ⟨fun k hk => ⟨_, rfl, ?_, ?_⟩, fun a e h0 ht => ?_, fun e => (by cases e)⟩⟩
    · exact h.cells (g := g) rfl (k * 2) _ (csC_get l k hk).1
    · rw [clm_adr]
      exact h.cells (g := g) rfl (k * 2 + 1) _ (csC_get l k hk).2
    · cases e
      have := hT _ ht
      simp at this
      omega

/-- Messages in a list. -/
abbrev En := Msg × (Option Addr × Nat)
def En.v (e : En) : Value := .slice e.2.1 e.1.claims.length e.2.2
@[reducible] def enA (e : En) : Value := msgA e.1 e.2.1 e.1.claims.length e.2.2
def noEn : En := (default, none, 0)
def msC (m : Msg) (u : Value) : List Value := [.int .i64 m.kind, .int .i64 m.cell, .int .u32 (m.gen : Nat), .int .u64 (m.stamp : Nat), .int .i64 m.prio, .int .i64 m.hops, .int .i64 m.origin, .int .i64 m.other, u]
def csM (E : List En) : List Value := E.flatMap fun e => msC e.1 (En.v e)
theorem csM_length (l : List En) : (csM l).length = l.length * 9 := by
  induction l with
  | nil => rfl
  | cons x l ih => show (msC x.1 (En.v x) ++ csM l).length = _; rw [List.length_append, ih]; simp [msC]; omega
theorem csM_append (l m : List En) : csM (l ++ m) = csM l ++ csM m := by simp [csM]
theorem csM_get {l : List En} {k j : Nat} (h : k < l.length) (hj : j < 9) : (csM l)[k * 9 + j]? = (msC (l.getD k noEn).1 (En.v (l.getD k noEn)))[j]? := by
  induction l generalizing k with
  | nil => simp at h
  | cons x l ih =>
    show (msC x.1 (En.v x) ++ csM l)[k * 9 + j]? = _
    cases k with
    | zero => rw [List.getElem?_append_left (by simp [msC]; omega)]; simp
    | succ k =>
      rw [List.getElem?_append_right (by simp [msC]; omega), List.getD_cons_succ, ← ih (by simpa using h)]
      congr 1
      simp [msC]; omega
theorem csM_drop (l : List En) (n : Nat) : (csM l).drop (n * 9) = csM (l.drop n) := by
  induction l generalizing n with
  | nil => simp [csM]
  | cons x l ih =>
    cases n with
    | zero => simp [csM]
    | succ n =>
      show (msC x.1 (En.v x) ++ csM l).drop _ = csM (l.drop n)
      have e : (n + 1) * 9 = (msC x.1 (En.v x)).length + n * 9 := by simp [msC]; omega
      rw [e, List.drop_length_add_append, ih]
theorem msC_one {m : Msg} {v : Value} (hv : v.oneCell' = true) : ∀ u ∈ msC m v, u.oneCell' = true := by
  intro u h
  simp [msC] at h
  rcases h with rfl | rfl | rfl | rfl | rfl | rfl | rfl | rfl | rfl
  all_goals first | rfl | exact hv
theorem csM_one {l : List En} : ∀ u ∈ csM l, u.oneCell' = true := by
  intro u h
  simp only [csM, List.mem_flatMap] at h
  obtain ⟨x, _, h⟩ := h
  exact msC_one rfl u h

/-- A link's object. -/
@[reducible] def objL (s : Lk.S) (v : Value) (mb : Nat) : Array Value := #[.int .i64 s.self, .int .i64 s.peer, .int .u32 (s.ep : Nat), .int .u32 (s.kn : Nat), .int .u64 (s.b : Nat), .int .u64 (s.c : Nat), .int .u32 (s.sent : Nat), v, .int .u32 (s.l : Nat), .int .u64 (s.e : Nat), .map (some mb), .bool s.on, .int .u64 (s.at_ : Nat), .int .i64 s.tr]
def litU (n : Nat) : Lit := .int .u32 (n : Int)
/-- The early ones. -/
def ErlAt (w : World) (T : Nat → Prop) (m N : Nat) (f : Nat → Option Msg) : Prop :=
  ∃ g : Nat → Option En, (∀ n, (g n).map (·.1) = f n) ∧ MapV w 22 litU m N (fun n => (g n).map enA) ∧ ∀ n e, g n = some e → ClT w T e.2.1 e.1.claims e.2.2
/-- The list of those that were not acknowledged. -/
structure OpnAt (w : World) (T : Nat → Prop) (v : Value) (E : List En) : Prop where
  row : w.ownsRow 0 37 9 v E.length (csM E)
  cl : ∀ e ∈ E, ClT w T e.2.1 e.1.claims e.2.2
/-- A link in memory; T: the blocks that may turn at all; S: its own. -/
structure LnkAt (w : World) (T S : Nat → Prop) (o N : Nat) (s : Lk.S) : Prop where
  own : ∃ v E mb, E.map (·.1) = s.opn ∧ w.heap[o]? = some (.cells (objL s v mb) 102 (0, 0)) ∧ OpnAt w T v E ∧ ErlAt w T mb N s.erl ∧ S mb ∧ mb ≠ o ∧ (∀ g, v.ownBlock = some g → S g ∧ g ≠ o ∧ g ≠ mb)
  so : S o
  st : ∀ k, S k → T k
  lt : ∀ k, T k → k < w.heap.size

theorem ErlAt.kept {w w' : World} {T X : Nat → Prop} {m N : Nat} {f : Nat → Option Msg} (h : ErlAt w T m N f) (hk : Kept X w w') (hX : ∀ k, X k → T k) (hm : ¬ X m) : ErlAt w' T m N f := by
  obtain ⟨g, h1, h2, h3⟩ := h
  exact ⟨g, h1, h2.kept hk hm, fun n e he => (h3 n e he).kept hk hX⟩
theorem ErlAt.more {w : World} {T T' : Nat → Prop} {m N : Nat} {f : Nat → Option Msg} (h : ErlAt w T m N f) (hT : ∀ k, k < w.heap.size → T' k → T k) : ErlAt w T' m N f := by
  obtain ⟨g, h1, h2, h3⟩ := h
  exact ⟨g, h1, h2, fun n e he => (h3 n e he).more hT⟩
theorem OpnAt.kept {w w' : World} {T X : Nat → Prop} {v : Value} {E : List En} (h : OpnAt w T v E) (hk : Kept X w w') (hX : ∀ k, X k → T k) (hv : ∀ g, v.ownBlock = some g → ¬ X g) : OpnAt w' T v E :=
  ⟨hk.row h.row hv, fun e he => (h.cl e he).kept hk hX⟩
theorem OpnAt.more {w : World} {T T' : Nat → Prop} {v : Value} {E : List En} (h : OpnAt w T v E) (hT : ∀ k, k < w.heap.size → T' k → T k) : OpnAt w T' v E :=
  ⟨h.row, fun e he => (h.cl e he).more hT⟩
namespace LnkAt
variable {T S T' X : Nat → Prop} {w w' : World} {o N : Nat} {s : Lk.S}
theorem kept (h : LnkAt w T S o N s) (hk : Kept X w w') (hX : ∀ k, X k → T k) (hS : ∀ k, S k → ¬ X k) : LnkAt w' T S o N s := by
  obtain ⟨⟨v, E, mb, h1, h2, h3, h4, h5, h6, h7⟩, hso, hst, hlt⟩ := h
  exact ⟨⟨v, E, mb, h1, (hk.block _ (hlt _ (hst _ hso)) (hS _ hso)).trans h2, h3.kept hk hX (fun g hg => hS g (h7 g hg).1), h4.kept hk hX (hS _ h5), h5, h6, h7⟩, hso, hst, fun k hk' => Nat.lt_of_lt_of_le (hlt k hk') hk.size⟩
theorem below (h : LnkAt w T S o N s) (hb : Below w.heap.size w w') : LnkAt w' T S o N s := h.kept (X := fun _ => False) (Kept.of_below hb (Nat.le_refl _)) (fun _ h => h.elim) (fun _ _ => id)
theorem drew (h : LnkAt w T S o N s) : LnkAt w.drew T S o N s := h.kept ((Kept.refl (fun _ => False) w).drew) (fun _ h => h.elim) (fun _ _ => id)
theorem drewN (h : LnkAt w T S o N s) (n : Nat) : LnkAt (w.drewN n) T S o N s := h.kept ((Kept.refl (fun _ => False) w).drewN n) (fun _ h => h.elim) (fun _ _ => id)
theorem alloc (h : LnkAt w T S o N s) (x : Obj) : LnkAt (w.alloc x) T S o N s := h.kept ((Kept.refl (fun _ => False) w).alloc x) (fun _ h => h.elim) (fun _ _ => id)
/-- More blocks may turn. -/
theorem more (h : LnkAt w T S o N s) (hT : ∀ k, k < w.heap.size → T' k → T k) (hS : ∀ k, S k → T' k) (hlt : ∀ k, T' k → k < w.heap.size) : LnkAt w T' S o N s := by
  obtain ⟨⟨v, E, mb, h1, h2, h3, h4, h5, h6, h7⟩, hso, hst, hlt'⟩ := h
  exact ⟨⟨v, E, mb, h1, h2, h3.more hT, h4.more hT, h5, h6, h7⟩, hso, hS, hlt⟩
theorem mono (h : LnkAt w T S o N s) {N' : Nat} (hN : N ≤ N') : LnkAt w T S o N' s := by
  obtain ⟨⟨v, E, mb, h1, h2, h3, ⟨g, g1, g2, g3⟩, h5, h6, h7⟩, hso, hst, hlt⟩ := h
  exact ⟨⟨v, E, mb, h1, h2, h3, ⟨g, g1, g2.mono hN, g3⟩, h5, h6, h7⟩, hso, hst, hlt⟩
theorem free (h : LnkAt w T S o N s) (j : Nat) : w.frozen? ⟨o, j, none⟩ = false := by
  obtain ⟨⟨v, E, mb, h1, h2, _⟩, _⟩ := h
  exact blk_free h2 j
/-- The object's cells, but for the list and the map. -/
theorem cells (h : LnkAt w T S o N s) : w.cell? ⟨o, 0, none⟩ = some (.int .i64 s.self) ∧ w.cell? ⟨o, 1, none⟩ = some (.int .i64 s.peer) ∧ w.cell? ⟨o, 2, none⟩ = some (.int .u32 (s.ep : Nat)) ∧ w.cell? ⟨o, 3, none⟩ = some (.int .u32 (s.kn : Nat)) ∧ w.cell? ⟨o, 4, none⟩ = some (.int .u64 (s.b : Nat)) ∧ w.cell? ⟨o, 5, none⟩ = some (.int .u64 (s.c : Nat)) ∧ w.cell? ⟨o, 6, none⟩ = some (.int .u32 (s.sent : Nat)) ∧ w.cell? ⟨o, 11, none⟩ = some (.bool s.on) ∧ w.cell? ⟨o, 12, none⟩ = some (.int .u64 (s.at_ : Nat)) ∧ w.cell? ⟨o, 13, none⟩ = some (.int .i64 s.tr) := by
  obtain ⟨⟨v, E, mb, h1, h2, _⟩, _⟩ := h
  refine ⟨?_, ?_, ?_, ?_, ?_, ?_, ?_, ?_, ?_, ?_⟩ <;> (rw [blk_cell h2]; rfl)
/-- The list's cell. -/
theorem lst (h : LnkAt w T S o N s) : ∃ A cap, w.cell? ⟨o, 7, none⟩ = some (.slice A s.opn.length cap) ∧ s.opn.length ≤ cap ∧ cap ≤ maxLen ∧ (0 < s.opn.length → ∃ g, A = some ⟨g, 0, none⟩) := by
  obtain ⟨⟨v, E, mb, h1, h2, h3, _⟩, _⟩ := h
  have hlen : E.length = s.opn.length := by rw [← h1]; simp
  have hr := h3.row
  rw [hlen] at hr
  rcases hr.2 with ⟨rfl, h0⟩ | ⟨g, cap, cur, rfl, _, _, k1, k2, _⟩
  · exact ⟨none, 0, by rw [blk_cell h2, h0]; rfl, by omega, by simp [maxLen], fun h => by omega⟩
  · exact ⟨_, cap, by rw [blk_cell h2]; rfl, k1, k2, fun _ => ⟨g, rfl⟩⟩
end LnkAt
/-- A link has turned: what of it is new lies in new blocks. -/
def StepL (w : World) (T S : Nat → Prop) (o N : Nat) (s : Lk.S) (w' : World) : Prop :=
  Kept S w w' ∧ ∃ S', LnkAt w' (fun k => T k ∨ S' k) S' o N s ∧ (∀ k, S k → S' k) ∧ ∀ k, S' k → S k ∨ w.heap.size ≤ k
theorem StepL.pre {w w1 w2 : World} {T S : Nat → Prop} {o N : Nat} {s : Lk.S} (hb : Below w.heap.size w w1) (h : StepL w1 T S o N s w2) : StepL w T S o N s w2 := by
  obtain ⟨h1, S1, h2, h3, h4⟩ := h
  exact ⟨(Kept.of_below hb (Nat.le_refl _)).trans h1 (fun _ _ h => h), S1, h2, h3, fun k hk => (h4 k hk).imp id (fun h => Nat.le_trans hb.size h)⟩
theorem StepL.trans {w w1 w2 : World} {T S : Nat → Prop} {o N M : Nat} {s s2 : Lk.S} (h : StepL w T S o N s w1) (k : ∀ S1, LnkAt w1 (fun k => T k ∨ S1 k) S1 o N s → StepL w1 (fun k => T k ∨ S1 k) S1 o M s2 w2) : StepL w T S o M s2 w2 := by
  obtain ⟨h1, S1, h2, h3, h4⟩ := h
  obtain ⟨k1, S2, k2, k3, k4⟩ := k S1 h2
  refine ⟨h1.trans k1 (fun i hi hs => (h4 i hs).elim id (fun h => absurd hi (by omega))), S2, k2.more (fun _ _ hk => hk.elim (fun h => .inl (.inl h)) .inr) (fun _ hk => .inr hk) (fun k hk => k2.lt k (hk.elim (fun h => .inl (.inl h)) .inr)), fun i hi => k3 i (h3 i hi), fun i hi => ?_⟩
  rcases k4 i hi with h | h
  · exact h4 i h
  · exact .inr (Nat.le_trans h1.size h)
theorem StepL.still {w w' : World} {T S : Nat → Prop} {o N : Nat} {s : Lk.S} (h : LnkAt w T S o N s) (hb : Below w.heap.size w w') : StepL w T S o N s w' :=
  ⟨Kept.of_below hb (Nat.le_refl _), S, (h.below hb).more (fun k _ hk => hk.elim id (h.st k)) (fun _ hk => .inr hk) (fun k hk => Nat.lt_of_lt_of_le (h.lt k (hk.elim id (h.st k))) hb.size), fun _ h => h, fun _ h => .inl h⟩
theorem StepL.post {w w1 w2 : World} {T S : Nat → Prop} {o N : Nat} {s : Lk.S} (h : StepL w T S o N s w1) (hb : Below w1.heap.size w1 w2) : StepL w T S o N s w2 :=
  h.trans fun _ h1 => StepL.still h1 hb
/-- Another link beside one that has turned. -/
theorem StepL.beside {w w' : World} {T S S2 : Nat → Prop} {o o2 N N2 : Nat} {s s2 : Lk.S} (h : StepL w T S o N s w') (h2 : LnkAt w T S2 o2 N2 s2) (hd : ∀ k, S2 k → ¬ S k) (hst : ∀ k, S k → T k) : ∃ S', LnkAt w' (fun k => T k ∨ S' k) S' o N s ∧ LnkAt w' (fun k => T k ∨ S' k) S2 o2 N2 s2 ∧ (∀ k, S2 k → ¬ S' k) ∧ (∀ k, S k → S' k) ∧ ∀ k, S' k → S k ∨ w.heap.size ≤ k := by
  obtain ⟨h1, S', a1, a2, a3⟩ := h
  obtain ⟨⟨v, E, mb, b1, b2, b3, b4, b5, b6, b7⟩, c1, c2, c3⟩ := h2
  refine ⟨S', a1, ?_, ?_, a2, a3⟩
  · have hT : ∀ k, k < w.heap.size → (T k ∨ S' k) → T k := fun k hk h => h.elim id (fun h => (a3 k h).elim (hst k) (fun h => by omega))
    have key : LnkAt w (fun k => T k ∨ S' k ∧ k < w.heap.size) S2 o2 N2 s2 := ⟨⟨v, E, mb, b1, b2, b3.more (fun k hk h => hT k hk (h.imp id (·.1))), b4.more (fun k hk h => hT k hk (h.imp id (·.1))), b5, b6, b7⟩, c1, fun k hk => .inl (c2 k hk), fun k h => h.elim (c3 k) (·.2)⟩
    obtain ⟨⟨v, E, mb, d1, d2, d3, d4, d5, d6, d7⟩, _, _, _⟩ := key
    have e3 : OpnAt w (fun k => T k ∨ S' k) v E := ⟨d3.row, fun e he => (d3.cl e he).more (fun k hk h => h.imp id (fun h => ⟨h, hk⟩))⟩
    obtain ⟨g, g1, g2, g3⟩ := d4
    have e4 : ErlAt w (fun k => T k ∨ S' k) mb N2 s2.erl := ⟨g, g1, g2, fun n e he => (g3 n e he).more (fun k hk h => h.imp id (fun h => ⟨h, hk⟩))⟩
    exact ⟨⟨v, E, mb, d1, (h1.block _ (c3 _ (c2 _ c1)) (hd _ c1)).trans d2, e3.kept h1 (fun k hk => .inl (hst k hk)) (fun g hg => hd g (d7 g hg).1), e4.kept h1 (fun k hk => .inl (hst k hk)) (hd _ d5), d5, d6, d7⟩, c1, fun k hk => .inl (c2 k hk), a1.lt⟩
  · intro k hk hs
    rcases a3 k hs with h | h
    · exact hd k hk h
    · have := c3 k (c2 k hk); omega
/-- Claims beside a link that has turned. -/
theorem ClT.beside {w w' : World} {T S S' : Nat → Prop} {A : Option Addr} {l : List (Int × Nat)} {cap : Nat} (h : ClT w T A l cap) (hk : Kept S w w') (hst : ∀ k, S k → T k) (hS' : ∀ k, S' k → S k ∨ w.heap.size ≤ k) : ClT w' (fun k => T k ∨ S' k) A l cap :=
  (h.more (T' := fun k => T k ∨ S' k) (fun k hk h => h.elim id (fun h => (hS' k h).elim (hst k) (fun h => by omega)))).kept hk (fun k h => .inl (hst k h))
end Go.Proofs.YtfgajjfcjlejmaaDoor
