/- Joined texts: Mem, BodyAll. -/
import Derived.Test.YtekhlaodlagbdaaGreatDoorHeap
import Derived.Test.YtekhlaodlagbdaaGreatDoorGo
import Derived.Deep.AppendLies
import Derived.Laws.World
import Derived.Below
import Derived.RangeFuncOwn
import Derived.Shelf.RegionOpen

/-
  findEdges: what lies in memory between two rounds: two tables of lists, each list in a block of its own.
-/
namespace Go.Proofs.YtekhlaodlagbdaaGreatDoor
set_option maxRecDepth 100000
open Go Go.RowKit

def loc (gn gb N j : Nat) : Addr := if j < N then ⟨gn, j, none⟩ else ⟨gb, j - N, none⟩
theorem loc_lo {gn gb N j : Nat} (h : j < N) : loc gn gb N j = ⟨gn, j, none⟩ := if_pos h
theorem loc_hi {gn gb N j : Nat} : loc gn gb N (N + j) = ⟨gb, j, none⟩ := by
  unfold loc
  rw [if_neg (by omega), Nat.add_sub_cancel_left]
theorem loc_ne {gn gb N i j : Nat} (hg : gn ≠ gb) (h : i ≠ j) : loc gn gb N i ≠ loc gn gb N j := by
  unfold loc
  split <;> split <;> intro e <;> simp at e <;> omega
theorem loc_block (gn gb N j : Nat) : (loc gn gb N j).block = gn ∨ (loc gn gb N j).block = gb := by
  unfold loc
  split <;> simp

def intV (x : Nat) : Value := .int .i64 (x : Int)

/-- av: blocks that none of the lists lies in, gn and gb among them. -/
structure Mem (B gn gb N : Nat) (av : List Nat) (L : Nat → List Nat) (T : Nat → Value) (W : World) : Prop where
  cell : ∀ j, j < 2 * N → W.cell? (loc gn gb N j) = some (T j)
  free : ∀ j, j < 2 * N → W.frozen? (loc gn gb N j) = false
  own : ∀ j, j < 2 * N → W.ownsRow B 3 1 (T j) (L j).length ((L j).map intV)
  sep : ∀ i j, i < 2 * N → j < 2 * N → i ≠ j → (T i).ownBlock = none ∨ (T i).ownBlock ≠ (T j).ownBlock
  far : ∀ q ∈ av, ∀ j, j < 2 * N → some q ≠ (T j).ownBlock
  lt : ∀ q ∈ av, q < W.heap.size
  hgn : gn ∈ av
  hgb : gb ∈ av
  two : gn ≠ gb

section
variable {B gn gb N : Nat} {av : List Nat} {L : Nat → List Nat} {T : Nat → Value} {W : World}

theorem Mem.in_av (h : Mem B gn gb N av L T W) (j : Nat) : (loc gn gb N j).block ∈ av := by
  rcases loc_block gn gb N j with e | e <;> rw [e]
  · exact h.hgn
  · exact h.hgb

/-- Whatever turns no block of a list and neither table. -/
theorem Mem.kept {W' : World} {row : Option Nat} (h : Mem B gn gb N av L T W) (hg : W.grownBy W' row) (hn : some gn ≠ row) (hb : some gb ≠ row) (hr : ∀ j, j < 2 * N → (T j).ownBlock = none ∨ (T j).ownBlock ≠ row) :
    Mem B gn gb N av L T W' where
  cell j hj := hg.cell (h.cell j hj) (by rcases loc_block gn gb N j with e | e <;> rw [e] <;> assumption)
  free j hj := (World.frozen?_of_block (hg.block _ (h.lt _ (h.in_av j)) (by rcases loc_block gn gb N j with e | e <;> rw [e] <;> assumption))).trans (h.free j hj)
  own j hj := (h.own j hj).kept hg (hr j hj)
  sep := h.sep
  far := h.far
  lt q hq := Nat.lt_of_lt_of_le (h.lt q hq) hg.size
  hgn := h.hgn
  hgb := h.hgb
  two := h.two

theorem Mem.grown (h : Mem B gn gb N av L T W) {W' : World} (hg : W.grownBy W' none) : Mem B gn gb N av L T W' :=
  h.kept hg (by simp) (by simp) (fun j _ => by cases e : (T j).ownBlock <;> simp)

/-- A block that is new now may be avoided from now on. -/
theorem Mem.avoid (h : Mem B gn gb N av L T W) {W' : World} (hg : W.grownBy W' none) (q : Nat) (hq : W.heap.size ≤ q) (hq' : q < W'.heap.size) : Mem B gn gb N (q :: av) L T W' where
  cell := (h.grown hg).cell
  free := (h.grown hg).free
  own := (h.grown hg).own
  sep := h.sep
  far p hp j hj := by
    rcases List.mem_cons.1 hp with rfl | hp
    · intro e
      have := ((h.own j hj).lt _ e.symm).2
      omega
    · exact h.far p hp j hj
  lt p hp := by
    rcases List.mem_cons.1 hp with rfl | hp
    · exact hq'
    · exact (h.grown hg).lt p hp
  hgn := List.mem_cons_of_mem _ h.hgn
  hgb := List.mem_cons_of_mem _ h.hgb
  two := h.two

/-- A store into a block that is avoided and is neither table. -/
theorem Mem.stored (h : Mem B gn gb N av L T W) {q : Nat} (hq : q ∈ av) (hn : q ≠ gn) (hb : q ≠ gb) (o : Nat) (u : Value) : Mem B gn gb N av L T (W.setCell ⟨q, o, none⟩ u) :=
  h.kept (row := some q) ⟨rfl, rfl, rfl, by simp, fun k _ hk => Below.heap_setCell _ _ _ k (fun e => hk (by rw [e]))⟩ (fun e => hn (by cases e; rfl)) (fun e => hb (by cases e; rfl)) (fun j hj => .inr fun e => h.far q hq j hj e.symm)

/-- One more at the end of one list. -/
theorem Mem.pushed (h : Mem B gn gb N av L T W) {j : Nat} (hj : j < 2 * N) (u : Nat) {g2 cap2 : Nat} {w2 : World} (hg : W.grownBy w2 (T j).ownBlock)
    (ho : w2.ownsRow B 3 1 (.slice (some ⟨g2, 0, none⟩) ((L j).length + 1) cap2) ((L j).length + 1) ((L j).map intV ++ [.int .i64 (u : Int)])) (hat : (T j).ownBlock = some g2 ∨ W.heap.size ≤ g2) :
    Mem B gn gb N av (fun k => if k = j then L j ++ [u] else L k) (fun k => if k = j then .slice (some ⟨g2, 0, none⟩) ((L j).length + 1) cap2 else T k)
      (w2.setCell (loc gn gb N j) (.slice (some ⟨g2, 0, none⟩) ((L j).length + 1) cap2)) := by
  have hfar : ∀ q ∈ av, q ≠ g2 := by
    intro q hq e
    rcases hat with e' | e'
    · exact h.far q hq j hj (by rw [e', e])
    · have := h.lt q hq; omega
  have hoth : ∀ k, k < 2 * N → k ≠ j → (T k).ownBlock = none ∨ (T k).ownBlock ≠ some g2 := by
    intro k hk hne
    rcases hat with e' | e'
    · rw [← e']; exact h.sep k j hk hj hne
    · right; intro e; have := ((h.own k hk).lt _ e).2; omega
  have hav : ∀ k, some (loc gn gb N k).block ≠ (T j).ownBlock := fun k => h.far _ (h.in_av k) j hj
  have hset : w2.grownBy (w2.setCell (loc gn gb N j) (.slice (some ⟨g2, 0, none⟩) ((L j).length + 1) cap2)) (some (loc gn gb N j).block) :=
    ⟨rfl, rfl, rfl, by simp, fun k _ hk => Below.heap_setCell _ _ _ k (fun e => hk (by rw [e]))⟩
  refine ⟨?_, ?_, ?_, ?_, ?_, ?_, h.hgn, h.hgb, h.two⟩
  · intro k hk
    by_cases e : k = j
    · subst e
      rw [if_pos rfl]
      exact World.cell?_setCell_same _ _ _ (hg.cell (h.cell k hk) (hav k))
    · rw [if_neg e, World.cell?_setCell_other _ _ _ _ (loc_ne h.two (Ne.symm e))]
      exact hg.cell (h.cell k hk) (hav k)
  · intro k hk
    rw [World.frozen?_setCell]
    exact (World.frozen?_of_block (hg.block _ (h.lt _ (h.in_av k)) (hav k))).trans (h.free k hk)
  · intro k hk
    by_cases e : k = j
    · subst e
      rw [if_pos rfl, if_pos rfl, List.length_append, List.map_append]
      exact ho.kept hset (.inr fun e => hfar _ (h.in_av k) (by simp [Value.ownBlock] at e; exact e.symm))
    · rw [if_neg e, if_neg e]
      exact ((h.own k hk).kept hg (h.sep k j hk hj e)).kept hset (.inr fun e' => h.far _ (h.in_av j) k hk e'.symm)
  · intro i k hi hk hne
    by_cases e1 : i = j
    · rw [if_pos e1, if_neg (fun e => hne (e1.trans e.symm))]
      right
      intro e
      rcases hoth k hk (fun e' => hne (e1.trans e'.symm)) with h' | h'
      · rw [h'] at e; simp [Value.ownBlock] at e
      · exact h' e.symm
    · rw [if_neg e1]
      by_cases e2 : k = j
      · rw [if_pos e2]; exact hoth i hi e1
      · rw [if_neg e2]; exact h.sep i k hi hk hne
  · intro q hq k hk
    by_cases e : k = j
    · rw [if_pos e]; intro e'; simp [Value.ownBlock] at e'; exact hfar q hq e'
    · rw [if_neg e]; exact h.far q hq k hk
  · intro q hq
    have h1 := h.lt q hq
    have h2 := hg.size
    simp
    omega

theorem cells_of_cell {W : World} {p : Addr} {v : Value} (h : W.cell? p = some v) {o : Obj} (ho : W.heap[p.block]? = some o) : o.isCells = true := by
  simp only [World.cell?, ho] at h
  cases o <;> first | rfl | simp at h

theorem not_own {e : TypeId} {v : Value} {n : Nat} {xs : List Value} (h : W.ownsRow B e 1 v n xs) {r : Nat} {o : Obj} (ho : W.heap[r]? = some o) (hc : o.isCells = false) : v.ownBlock ≠ some r := by
  rcases h.2 with ⟨rfl, _⟩ | ⟨g, cap, cur, rfl, _, hg, _⟩
  · simp [Value.ownBlock]
  · intro e'
    simp only [Value.ownBlock, Option.some.injEq] at e'
    subst e'
    rw [hg] at ho
    cases ho
    cases hc

/-- What turns but a block that holds no cells leaves the tables as they are. -/
theorem Mem.others (h : Mem B gn gb N av L T W) {W' : World} {row : Option Nat} (hg : W.grownBy W' row) (hr : ∀ r, row = some r → ∃ o : Obj, W.heap[r]? = some o ∧ o.isCells = false) :
    Mem B gn gb N av L T W' := by
  have hne : ∀ j, j < 2 * N → some (loc gn gb N j).block ≠ row := by
    intro j hj e
    obtain ⟨o, ho, hc⟩ := hr _ e.symm
    rw [cells_of_cell (h.cell j hj) ho] at hc
    cases hc
  exact
    { cell := fun j hj => hg.cell (h.cell j hj) (hne j hj)
      free := fun j hj => (World.frozen?_of_block (hg.block _ (h.lt _ (h.in_av j)) (hne j hj))).trans (h.free j hj)
      own := fun j hj => (h.own j hj).kept hg (by
        cases e : row with
        | none => cases (T j).ownBlock <;> simp
        | some r =>
          obtain ⟨o, ho, hc⟩ := hr r e
          exact .inr (not_own (h.own j hj) ho hc))
      sep := h.sep
      far := h.far
      lt := fun q hq => Nat.lt_of_lt_of_le (h.lt q hq) hg.size
      hgn := h.hgn
      hgb := h.hgb
      two := h.two }
end
end Go.Proofs.YtekhlaodlagbdaaGreatDoor

/-
  findEdges: the body of the round.
-/
namespace Go.Proofs.YtekhlaodlagbdaaGreatDoor
set_option maxRecDepth 100000
set_option linter.unusedSimpArgs false
open Go.RowKit
attribute [local go_sem] Oper.semAt_some

def rfBody : Code → Option Code
  | .seq a b => (rfBody a).orElse fun _ => rfBody b
  | .block _ c => rfBody c
  | .loop c => rfBody c
  | .scope c => rfBody c
  | .rangeFunc _ _ _ c => some c
  | _ => none

/-- One more at the end of list j. -/
def push (L : Nat → List Nat) (j x : Nat) : Nat → List Nat := fun k => if k = j then L j ++ [x] else L k

set_option maxHeartbeats 4000000 in
theorem body_any {l n : Nat} {Q : Exit → Act → World → Prop} (code : Code) (hcode : rfBody ((Tryz.f74).body.getD .skip) = some code)
    (x0 x6 x7 x8 x9 x10 x11 x12 x13 x14 x15 x16 x17 x18 x19 x20 x21 x22 x23 x24 x25 x26 x27 x28 x29 x30 x31 x32 x33 x34 x35 x36 x37 x38 x39 x40 x41 x42 x43 x44 x45 x46 x47 x48 x49 x50 x51 x52 x53 x54 x55 x56 x57 x58 x59 x60 x61 x62 x63 x64 x65 x66 x67 x68 x69 x70 x71 x72 x73 x74 x75 x76 x77 x78 x79 x80 x81 x82 x83 x84 x85 x86 x87 x88 x89 x90 x91 x92 x93 x94 : Value) (p1 p2 p3 p5 b g cap gn gb N i u k ed B : Nat) (c d : UInt8) (av : List Nat) (L : Nat → List Nat) (T : Nat → Value) (w : World) (hi : i < N) (hu : u < N)
    (hall : (fun w' : World => w'.cell? ⟨p1, 0, none⟩ = some (.pointer (some ⟨b, 0, none⟩)) ∧ w'.cell? ⟨p3, 0, none⟩ = some (.int .u8 (c.toNat : Int)) ∧ w'.cell? ⟨b, 2, none⟩ = some (.slice (some ⟨g, 0, none⟩) N cap) ∧ w'.cell? ⟨g, u, none⟩ = some (.int .u8 (d.toNat : Int)) ∧ w'.cell? ⟨p5, 0, none⟩ = some (.int .u8 (mkK k)) ∧ w'.cell? ⟨p5, 1, none⟩ = some (.int .u8 (agK k)) ∧ w'.cell? ⟨p5, 2, none⟩ = some (.int .i64 (dnK k)) ∧ w'.cell? ⟨p5, 3, none⟩ = some (.int .i64 (rtK k))) w) (c2 : w.cell? ⟨p2, 0, none⟩ = some (.int .i64 (i : Int)))
    (c6 : w.cell? ⟨b, 6, none⟩ = some (.slice (some ⟨gn, 0, none⟩) N N)) (c7 : w.cell? ⟨b, 7, none⟩ = some (.slice (some ⟨gb, 0, none⟩) N N)) (c8 : w.cell? ⟨b, 8, none⟩ = some (.int .i64 (ed : Int)))
    (hM : Mem B gn gb N av L T w)
    (f8 : w.frozen? ⟨b, 8, none⟩ = false) (hed : ed ≤ 1000000000) (hB : B ≤ w.heap.size) (hLi : (L i).length ≤ 100000) (hLu : (L (N + u)).length ≤ 100000)
    (hp1 : p1 ∈ av) (hp2 : p2 ∈ av) (hb : b ∈ av) (hd1 : gn ≠ p1) (hd2 : gn ≠ p2) (hdb : gn ≠ b) (hb1 : gb ≠ p1) (hb2 : gb ≠ p2) (hbb : gb ≠ b)
    (hno : (leavesB k c && entersB k d) = false → ∀ (y39 y40 y41 y42 y43 y44 y45 y46 y47 y48 y49 y50 y51 y52 y53 y54 y55 y56 y57 y58 y59 y60 y61 y62 y63 y64 y65 y66 y67 y68 y69 y70 y71 y72 y73 y74 y75 y76 y77 y78 y79 y80 y81 y82 y83 y84 y85 y86 y87 y88 y89 y90 y91 y92 y93 : Value) (w2 : World), w.grownBy w2 none → Q .normal { tmps := #[x0, .pointer (some ⟨p1, 0, none⟩), .pointer (some ⟨p2, 0, none⟩), .pointer (some ⟨p3, 0, none⟩), .int .i64 (u : Int), .pointer (some ⟨p5, 0, none⟩), x6, x7, x8, x9, x10, x11, x12, x13, x14, x15, x16, x17, x18, x19, x20, x21, x22, x23, x24, x25, x26, x27, x28, x29, x30, x31, x32, x33, x34, x35, x36, x37, x38, y39, y40, y41, y42, y43, y44, y45, y46, y47, y48, y49, y50, y51, y52, y53, y54, y55, y56, y57, y58, y59, y60, y61, y62, y63, y64, y65, y66, y67, y68, y69, y70, y71, y72, y73, y74, y75, y76, y77, y78, y79, y80, y81, y82, y83, y84, y85, y86, y87, y88, y89, y90, y91, y92, y93, x94], defers := [] } w2)
    (hyes : (leavesB k c && entersB k d) = true → ∀ (y39 y40 y41 y42 y43 y44 y45 y46 y47 y48 y49 y50 y51 y52 y53 y54 y55 y56 y57 y58 y59 y60 y61 y62 y63 y64 y65 y66 y67 y68 y69 y70 y71 y72 y73 y74 y75 y76 y77 y78 y79 y80 y81 y82 y83 y84 y85 y86 y87 y88 y89 y90 y91 y92 y93 : Value) (T2 : Nat → Value) (w2 : World), Mem B gn gb N av (push (push L i u) (N + u) i) T2 w2 → w.heap.size ≤ w2.heap.size →
      (∀ q, q < w.heap.size → q ≠ gn → q ≠ gb → q ≠ b → (∀ j, j < 2 * N → some q ≠ (T j).ownBlock) → w2.heap[q]? = w.heap[q]?) → (∀ j, j ≠ 8 → w2.cell? ⟨b, j, none⟩ = w.cell? ⟨b, j, none⟩) →
      w2.cell? ⟨b, 8, none⟩ = some (.int .i64 ((ed : Int) + 1)) → w2.frozen? ⟨b, 8, none⟩ = false → (w2.os = w.os ∧ w2.tape = w.tape ∧ w2.output = w.output ∧ ∀ j, w2.frozen? ⟨b, j, none⟩ = w.frozen? ⟨b, j, none⟩) → Q .normal { tmps := #[x0, .pointer (some ⟨p1, 0, none⟩), .pointer (some ⟨p2, 0, none⟩), .pointer (some ⟨p3, 0, none⟩), .int .i64 (u : Int), .pointer (some ⟨p5, 0, none⟩), x6, x7, x8, x9, x10, x11, x12, x13, x14, x15, x16, x17, x18, x19, x20, x21, x22, x23, x24, x25, x26, x27, x28, x29, x30, x31, x32, x33, x34, x35, x36, x37, x38, y39, y40, y41, y42, y43, y44, y45, y46, y47, y48, y49, y50, y51, y52, y53, y54, y55, y56, y57, y58, y59, y60, y61, y62, y63, y64, y65, y66, y67, y68, y69, y70, y71, y72, y73, y74, y75, y76, y77, y78, y79, y80, y81, y82, y83, y84, y85, y86, y87, y88, y89, y90, y91, y92, y93, x94], defers := [] } w2) :
    code.wpIn (Fence.wide.inRound l) n Tryz.prog Q { tmps := #[x0, .pointer (some ⟨p1, 0, none⟩), .pointer (some ⟨p2, 0, none⟩), .pointer (some ⟨p3, 0, none⟩), .int .i64 (u : Int), .pointer (some ⟨p5, 0, none⟩), x6, x7, x8, x9, x10, x11, x12, x13, x14, x15, x16, x17, x18, x19, x20, x21, x22, x23, x24, x25, x26, x27, x28, x29, x30, x31, x32, x33, x34, x35, x36, x37, x38, x39, x40, x41, x42, x43, x44, x45, x46, x47, x48, x49, x50, x51, x52, x53, x54, x55, x56, x57, x58, x59, x60, x61, x62, x63, x64, x65, x66, x67, x68, x69, x70, x71, x72, x73, x74, x75, x76, x77, x78, x79, x80, x81, x82, x83, x84, x85, x86, x87, x88, x89, x90, x91, x92, x93, x94], defers := [] } w := by
  simp only [Tryz.f74, Option.getD_some, rfBody, Nat.reduceEqDiff, if_false, if_true, Option.orElse_none, Option.orElse_some, Option.some.injEq, reduceCtorEq] at hcode
  subst hcode
  have hall' := hall
  gi_wp2
  refine reg9 _ (by kernel_rfl) _ _ _ _ _ _ _ _ _ _ _ _ _ _ _ _ _ _ _ _ _ _ _ _ _ _ _ _ _ _ _ _ _ _ _ _ _ _ _ _ _ _ _ _ _ _ _ _ _ _ _ _ _ _ _ _ _ _ _ _ _ _ _ _ _ _ _ _ _ _ _ _ _ _ _ _ _ _ _ _ _ _ _ _ _ _ _ _ _ _ _ p1 p3 p5 b g cap N u k c d w hu hall ?_
  intro y39 y40 y41 y42 y43 y44 y45 y46 y47 y48 y49 y50 y51 y52 y53 w2 hg
  cases hgo : (leavesB k c && entersB k d)
  · simp only [Bool.not_false]
    gi_wp2
    exact hno hgo _ _ _ _ _ _ _ _ _ _ _ _ _ _ _ _ _ _ _ _ _ _ _ _ _ _ _ _ _ _ _ _ _ _ _ _ _ _ _ _ _ _ _ _ _ _ _ _ _ _ _ _ _ _ _ w2 hg
  · simp only [Bool.not_true]
    gi_wp2
    have hM2 := hM.grown hg
    have e1 := hg.cell hall.1 (by simp)
    have e2 := hg.cell c2 (by simp)
    have e6 := hg.cell c6 (by simp)
    have e7 := hg.cell c7 (by simp)
    have e8 := hg.cell c8 (by simp)
    have ef := (World.frozen?_of_block (a := ⟨b, 8, none⟩) (hg.block b (hM.lt b hb) (by simp))).trans f8
    have hci := hM2.cell i (by omega)
    have hfi := hM2.free i (by omega)
    rw [loc_lo hi] at hci hfi
    refine reg10 _ (by kernel_rfl) _ _ _ _ _ _ _ _ _ _ _ _ _ _ _ _ _ _ _ _ _ _ _ _ _ _ _ _ _ _ _ _ _ _ _ _ _ _ _ _ _ _ _ _ _ _ _ _ _ _ _ _ _ _ _ _ _ _ _ _ _ _ _ _ _ _ _ _ _ _ _ _ _ _ _ _ _ _ _ _ _ _ _ _ _ _ _ _ _ _ _ _ p1 p2 b gn i u N _ B _ _ w2 e1 e2 e6 hi hci hfi (hM2.own i (by omega)) (Nat.le_trans hB hg.size) hLi (hM2.far p1 hp1 i (by omega)) (hM2.far p2 hp2 i (by omega)) (hM2.far b hb i (by omega)) (hM2.far gn hM2.hgn i (by omega)) hd1 hd2 hdb ?_
    intro z55 z56 z57 z58 z59 z60 z61 z62 z63 z64 z65 z66 z67 z68 z69 z70 g2 cap2 w3 hg3 ho3 hat3 _
    have hM3 := hM2.pushed (j := i) (by omega) u hg3 ho3 hat3
    rw [loc_lo hi] at hM3
    have n1 := hM2.far p1 hp1 i (by omega)
    have n2 := hM2.far p2 hp2 i (by omega)
    have nb := hM2.far b hb i (by omega)
    have k1 := (World.cell?_setCell_far w3 ⟨gn, i, none⟩ ⟨p1, 0, none⟩ (.slice (some ⟨g2, 0, none⟩) ((L i).length + 1) cap2) hd1).trans (hg3.cell e1 n1)
    have k2 := (World.cell?_setCell_far w3 ⟨gn, i, none⟩ ⟨p2, 0, none⟩ (.slice (some ⟨g2, 0, none⟩) ((L i).length + 1) cap2) hd2).trans (hg3.cell e2 n2)
    have k7 := (World.cell?_setCell_far w3 ⟨gn, i, none⟩ ⟨b, 7, none⟩ (.slice (some ⟨g2, 0, none⟩) ((L i).length + 1) cap2) hdb).trans (hg3.cell e7 nb)
    have k8 := (World.cell?_setCell_far w3 ⟨gn, i, none⟩ ⟨b, 8, none⟩ (.slice (some ⟨g2, 0, none⟩) ((L i).length + 1) cap2) hdb).trans (hg3.cell e8 nb)
    have kf : (w3.setCell ⟨gn, i, none⟩ (.slice (some ⟨g2, 0, none⟩) ((L i).length + 1) cap2)).frozen? ⟨b, 8, none⟩ = false := by
      rw [World.frozen?_setCell]
      exact (World.frozen?_of_block (a := ⟨b, 8, none⟩) (hg3.block b (hM2.lt b hb) nb)).trans ef
    have ks : w.heap.size ≤ (w3.setCell ⟨gn, i, none⟩ (.slice (some ⟨g2, 0, none⟩) ((L i).length + 1) cap2)).heap.size := by
      have h1 := hg.size
      have h2 := hg3.size
      simp
      omega
    have kb : ∀ j, (w3.setCell ⟨gn, i, none⟩ (.slice (some ⟨g2, 0, none⟩) ((L i).length + 1) cap2)).cell? ⟨b, j, none⟩ = w.cell? ⟨b, j, none⟩ := fun j =>
      (World.cell?_setCell_far w3 ⟨gn, i, none⟩ ⟨b, j, none⟩ (.slice (some ⟨g2, 0, none⟩) ((L i).length + 1) cap2) hdb).trans ((World.cell?_of_block (a := ⟨b, j, none⟩) (hg3.block b (hM2.lt b hb) nb)).trans (World.cell?_of_block (a := ⟨b, j, none⟩) (hg.block b (hM.lt b hb) (by simp))))
    have kr : ∀ q, q < w.heap.size → q ≠ gn → some q ≠ (T i).ownBlock → (w3.setCell ⟨gn, i, none⟩ (.slice (some ⟨g2, 0, none⟩) ((L i).length + 1) cap2)).heap[q]? = w.heap[q]? := fun q hq hne hro =>
      (Below.heap_setCell w3 ⟨gn, i, none⟩ (.slice (some ⟨g2, 0, none⟩) ((L i).length + 1) cap2) q hne).trans ((hg3.block q (Nat.lt_of_lt_of_le hq hg.size) hro).trans (hg.block q hq (by simp)))
    have ko : (w3.setCell ⟨gn, i, none⟩ (.slice (some ⟨g2, 0, none⟩) ((L i).length + 1) cap2)).os = w.os ∧ (w3.setCell ⟨gn, i, none⟩ (.slice (some ⟨g2, 0, none⟩) ((L i).length + 1) cap2)).tape = w.tape ∧ (w3.setCell ⟨gn, i, none⟩ (.slice (some ⟨g2, 0, none⟩) ((L i).length + 1) cap2)).output = w.output ∧ ∀ j, (w3.setCell ⟨gn, i, none⟩ (.slice (some ⟨g2, 0, none⟩) ((L i).length + 1) cap2)).frozen? ⟨b, j, none⟩ = w.frozen? ⟨b, j, none⟩ :=
      ⟨hg3.os.trans hg.os, hg3.tape.trans hg.tape, hg3.output.trans hg.output, fun j => by
        rw [World.frozen?_setCell]
        exact (World.frozen?_of_block (a := ⟨b, j, none⟩) (hg3.block b (hM2.lt b hb) nb)).trans (World.frozen?_of_block (a := ⟨b, j, none⟩) (hg.block b (hM.lt b hb) (by simp)))⟩
    generalize w3.setCell ⟨gn, i, none⟩ (.slice (some ⟨g2, 0, none⟩) ((L i).length + 1) cap2) = W3 at hM3 k1 k2 k7 k8 kf ks kb kr ko ⊢
    obtain ⟨T1, hT1⟩ : ∃ T1 : Nat → Value, T1 = fun k => if k = i then (.slice (some ⟨g2, 0, none⟩) ((L i).length + 1) cap2) else T k := ⟨_, rfl⟩
    have hTu : T1 (N + u) = T (N + u) := by rw [hT1]; exact if_neg (show ¬ N + u = i by omega)
    obtain ⟨L1, hL1⟩ : ∃ L1 : Nat → List Nat, L1 = fun k => if k = i then L i ++ [u] else L k := ⟨_, rfl⟩
    have hLu1 : (L1 (N + u)).length ≤ 100000 := by rw [hL1]; dsimp only; rw [if_neg (show ¬ N + u = i by omega)]; exact hLu
    rw [← hL1, ← hT1] at hM3
    gi_wp2
    have hcu := hM3.cell (N + u) (by omega)
    have hfu := hM3.free (N + u) (by omega)
    have hou := hM3.own (N + u) (by omega)
    have q1 := hM3.far p1 hp1 (N + u) (by omega)
    have q2 := hM3.far p2 hp2 (N + u) (by omega)
    have qb := hM3.far b hb (N + u) (by omega)
    have qg := hM3.far gb hM3.hgb (N + u) (by omega)
    rw [loc_hi] at hcu hfu
    refine reg11 _ (by kernel_rfl) _ _ _ _ _ _ _ _ _ _ _ _ _ _ _ _ _ _ _ _ _ _ _ _ _ _ _ _ _ _ _ _ _ _ _ _ _ _ _ _ _ _ _ _ _ _ _ _ _ _ _ _ _ _ _ _ _ _ _ _ _ _ _ _ _ _ _ _ _ _ _ _ _ _ _ _ _ _ _ _ _ _ _ _ _ _ _ _ _ _ _ _ p1 p2 b gb u i N _ B _ _ W3 k1 k2 k7 hu hcu hfu hou (Nat.le_trans hB ks) hLu1 q1 q2 qb qg hb1 hb2 hbb ?_
    intro z71 z72 z73 z74 z75 z76 z77 z78 z79 z80 z81 z82 z83 z84 z85 z86 g4 cap4 w4 hg4 ho4 hat4 _
    have hM4 := hM3.pushed (j := N + u) (by omega) i hg4 ho4 hat4
    rw [loc_hi] at hM4
    have m1 := (World.cell?_setCell_far w4 ⟨gb, u, none⟩ ⟨p1, 0, none⟩ (.slice (some ⟨g4, 0, none⟩) ((L1 (N + u)).length + 1) cap4) hb1).trans (hg4.cell k1 q1)
    have m8 := (World.cell?_setCell_far w4 ⟨gb, u, none⟩ ⟨b, 8, none⟩ (.slice (some ⟨g4, 0, none⟩) ((L1 (N + u)).length + 1) cap4) hbb).trans (hg4.cell k8 qb)
    have mf : (w4.setCell ⟨gb, u, none⟩ (.slice (some ⟨g4, 0, none⟩) ((L1 (N + u)).length + 1) cap4)).frozen? ⟨b, 8, none⟩ = false := by
      rw [World.frozen?_setCell]
      exact (World.frozen?_of_block (a := ⟨b, 8, none⟩) (hg4.block b (hM3.lt b hb) qb)).trans kf
    have mb : ∀ j, (w4.setCell ⟨gb, u, none⟩ (.slice (some ⟨g4, 0, none⟩) ((L1 (N + u)).length + 1) cap4)).cell? ⟨b, j, none⟩ = w.cell? ⟨b, j, none⟩ := fun j =>
      (World.cell?_setCell_far w4 ⟨gb, u, none⟩ ⟨b, j, none⟩ (.slice (some ⟨g4, 0, none⟩) ((L1 (N + u)).length + 1) cap4) hbb).trans ((World.cell?_of_block (a := ⟨b, j, none⟩) (hg4.block b (hM3.lt b hb) qb)).trans (kb j))
    have mr : ∀ q, q < w.heap.size → q ≠ gn → q ≠ gb → some q ≠ (T i).ownBlock → some q ≠ (T (N + u)).ownBlock → (w4.setCell ⟨gb, u, none⟩ (.slice (some ⟨g4, 0, none⟩) ((L1 (N + u)).length + 1) cap4)).heap[q]? = w.heap[q]? := fun q hq hne hne' hro hro' =>
      (Below.heap_setCell w4 ⟨gb, u, none⟩ (.slice (some ⟨g4, 0, none⟩) ((L1 (N + u)).length + 1) cap4) q hne').trans ((hg4.block q (Nat.lt_of_lt_of_le hq ks) (hTu ▸ hro')).trans (kr q hq hne hro))
    have ms : w.heap.size ≤ (w4.setCell ⟨gb, u, none⟩ (.slice (some ⟨g4, 0, none⟩) ((L1 (N + u)).length + 1) cap4)).heap.size := by
      have h2 := hg4.size
      simp
      omega
    have mo : (w4.setCell ⟨gb, u, none⟩ (.slice (some ⟨g4, 0, none⟩) ((L1 (N + u)).length + 1) cap4)).os = w.os ∧ (w4.setCell ⟨gb, u, none⟩ (.slice (some ⟨g4, 0, none⟩) ((L1 (N + u)).length + 1) cap4)).tape = w.tape ∧ (w4.setCell ⟨gb, u, none⟩ (.slice (some ⟨g4, 0, none⟩) ((L1 (N + u)).length + 1) cap4)).output = w.output ∧ ∀ j, (w4.setCell ⟨gb, u, none⟩ (.slice (some ⟨g4, 0, none⟩) ((L1 (N + u)).length + 1) cap4)).frozen? ⟨b, j, none⟩ = w.frozen? ⟨b, j, none⟩ :=
      ⟨hg4.os.trans ko.1, hg4.tape.trans ko.2.1, hg4.output.trans ko.2.2.1, fun j => by
        rw [World.frozen?_setCell]
        exact (World.frozen?_of_block (a := ⟨b, j, none⟩) (hg4.block b (hM3.lt b hb) qb)).trans (ko.2.2.2 j)⟩
    generalize w4.setCell ⟨gb, u, none⟩ (.slice (some ⟨g4, 0, none⟩) ((L1 (N + u)).length + 1) cap4) = W4 at hM4 m1 m8 mf mb mr ms mo ⊢
    have hwr : IntKind.i64.wrap ((ed : Int) + 1) = (ed : Int) + 1 := by
      rw [IntKind.wrap_i64]
      omega
    gi_wp2
    have hM5 := hM4.stored hb (Ne.symm hdb) (Ne.symm hbb) 8 (.int .i64 ((ed : Int) + 1))
    refine hyes hgo _ _ _ _ _ _ _ _ _ _ _ _ _ _ _ _ _ _ _ _ _ _ _ _ _ _ _ _ _ _ _ _ _ _ _ _ _ _ _ _ _ _ _ _ _ _ _ _ _ _ _ _ _ _ _ _ _ (by rw [hL1] at hM5; exact hM5) (by simp; exact ms) ?_ ?_ ?_ ?_ ⟨mo.1, mo.2.1, mo.2.2.1, fun j => by rw [World.frozen?_setCell]; exact mo.2.2.2 j⟩
    · intro q hq x1 x2 x3 x4
      exact (Below.heap_setCell W4 ⟨b, 8, none⟩ _ q x3).trans (mr q hq x1 x2 (x4 i (by omega)) (x4 (N + u) (by omega)))
    · intro j hj
      exact (World.cell?_setCell_other W4 ⟨b, 8, none⟩ ⟨b, j, none⟩ _ (by intro e; apply hj; cases e; rfl)).trans (mb j)
    · exact World.cell?_setCell_same W4 ⟨b, 8, none⟩ _ m8
    · rw [World.frozen?_setCell]; exact mf
end Go.Proofs.YtekhlaodlagbdaaGreatDoor
