/-
  A call of both bags: Deliver, Drop, Double, Spoil.
-/
import Derived.Test.YtinihggcibghaaaBm0
namespace Go.Proofs.Ytinihggcibghaaa
set_option maxRecDepth 100000
set_option linter.unusedSimpArgs false
open Go Go.RowKit Bg
attribute [local go_sem] Oper.semAt_some

@[reducible] def flO (y : Fl) (u : Value) : Obj := .cells #[.int .i64 y.n, .int .i64 y.f, .int .i64 y.t, u, .bool y.s] 38
@[reducible] def opX (x : Cl) : Obj := .cells #[.int .i64 x.kind, .int .i64 x.n, .int .i64 x.at_, .slice x.A x.d.length x.cap, .int .u8 (x.v : Nat), .int .i64 x.many] 36
def opCells (W : World) (q : Nat) (x : Cl) : Prop := (W.cell? ⟨q, 0, none⟩ = some (.int .i64 x.kind) ∧ W.cell? ⟨q, 1, none⟩ = some (.int .i64 x.n) ∧ W.cell? ⟨q, 2, none⟩ = some (.int .i64 x.at_) ∧ W.cell? ⟨q, 3, none⟩ = some (.slice x.A x.d.length x.cap) ∧ W.cell? ⟨q, 4, none⟩ = some (.int .u8 (x.v : Nat)) ∧ W.cell? ⟨q, 5, none⟩ = some (.int .i64 x.many))
theorem opX_cells {W : World} {q : Nat} {x : Cl} (h : W.heap[q]? = some (opX x)) : opCells W q x :=
  ⟨by rw [blk_cell h]; rfl, by rw [blk_cell h]; rfl, by rw [blk_cell h]; rfl, by rw [blk_cell h]; rfl, by rw [blk_cell h]; rfl, by rw [blk_cell h]; rfl⟩
/-- Behind the copy of a call and of its data. -/
structure Pre (w0 : World) (o1 o2 : Nat) (b : St) (F : Nat → Prop) (V : World) (q : Nat) (x : Cl) (A2 : Option Addr) (cap2 : Nat) (F2 : Nat → Prop) (w2 : World) : Prop where
  two : Two w0 o1 o2 b b F2 w2 w2
  sub : ∀ k, F k → F2 k ∧ k < V.heap.size ∧ w2.heap[k]? = V.heap[k]?
  qF : F2 q ∧ ¬ F q ∧ w0.heap.size ≤ q
  box : w2.heap[q]? = some (opX x)
  row : w2.ownsRow (q + 1) 5 1 (.slice A2 x.d.length cap2) x.d.length (x.d.map byV)
  rF : ∀ a, A2 = some a → F2 a.block ∧ ¬ F a.block ∧ a.block ≠ q ∧ w0.heap.size ≤ a.block
  ok : OpOk w0 x
  few : x.d.length ≤ 60 ∧ x.many ≤ 300

section
variable {w0 V w2 : World} {o1 o2 k q cap2 : Nat} {b : St} {F F2 : Nat → Prop} {x : Cl} {A2 : Option Addr}
theorem Pre.del (h : Pre w0 o1 o2 b F V q x A2 cap2 F2 w2) (hb : Bd k b) (hk : k ≤ 900000) :
    Calls Try.prog 20 #[.pointer (some ⟨o1, 0, none⟩), .int .i64 x.n] w2 fun e w3 => ∃ (y : Fl) (A : Option Addr) (cap : Nat) (er : Int), e = .returned (.tuple #[flA y (.slice A y.d.length cap), .int .i64 er]) ∧ (∀ Y, (w3.alloc Y).cell? ⟨q, 1, none⟩ = some (.int .i64 x.n)) ∧
      Calls Try.prog 35 #[.pointer (some ⟨o2, 0, none⟩), .int .i64 x.n] (w3.alloc (flO y (.slice A y.d.length cap))) fun e w4 => ∃ A' cap', e = .returned (.tuple #[flA y (.slice A' y.d.length cap'), .int .i64 er]) ∧
        (∀ Y, (w4.alloc Y).cell? ⟨w3.heap.size, 0, none⟩ = some (.int .i64 y.n) ∧ (w4.alloc Y).cell? ⟨w3.heap.size, 1, none⟩ = some (.int .i64 y.f) ∧ (w4.alloc Y).cell? ⟨w3.heap.size, 2, none⟩ = some (.int .i64 y.t) ∧ (w4.alloc Y).cell? ⟨w3.heap.size, 3, none⟩ = some (.slice A y.d.length cap) ∧ (w4.alloc Y).cell? ⟨w3.heap.size, 4, none⟩ = some (.bool y.s)) ∧
        ∀ Y, Calls Try.prog 15 #[flA y (.slice A y.d.length cap), flA y (.slice A' y.d.length cap')] (w4.alloc Y) fun e w5 => e = .returned (.bool true) ∧ Two w0 o1 o2 (delS b x.n) (delS b x.n) F V w5 := by
  refine (two1_del h.two hb hk x.n).mono ?_
  rintro e w3 ⟨A, cap, rfl, hA, hT, hF⟩
  have hbx := (hF q h.qF.1).2.trans h.box
  have hcx := (opX_cells hbx).2.1
  refine ⟨(delX b x.n).1, A, cap, (delX b x.n).2, rfl, cell_a1 hcx, ?_⟩
  have hT2 := hT.fresh (W' := w3.alloc (flO (delX b x.n).1 (.slice A (delX b x.n).1.d.length cap))) ((Below.refl _ w3).alloc (Nat.le_refl _) _)
  refine (two2_del hT2 hb hk x.n).mono ?_
  rintro e w4 ⟨A', cap', rfl, hA', hT4⟩
  have hbox : w4.heap[w3.heap.size]? = some (flO (delX b x.n).1 (.slice A (delX b x.n).1.d.length cap)) := (hT4.blk (.inr ⟨Nat.le_refl _, by simp⟩)).trans (World.alloc_heap_new w3 _)
  have hA4 : BytesAt w4 A (delX b x.n).1.d := by
    refine hT4.bytes (hA.below ((Below.refl _ w3).alloc (Nat.le_refl _) _)) (fun a ha h0 => .inl (.inr ⟨a, ha, h0, rfl⟩))
  have hlt : ∀ c ∈ (delX b x.n).1.d, c < 256 := by
    unfold delX
    split
    · simp [noFl]
    · rename_i i hi; exact (hb.at_ (idx_some hi).1).2
  obtain ⟨⟨z0, z1, z2, z3, z4⟩, _⟩ := five hbox
  refine ⟨A', cap', rfl, fun Y => ⟨cell_a1 z0 Y, cell_a1 z1 Y, cell_a1 z2 Y, cell_a1 z3 Y, cell_a1 z4 Y⟩, fun Y => ?_⟩
  have hY : Below w4.heap.size w4 (w4.alloc Y) := (Below.refl _ w4).alloc (Nat.le_refl _) Y
  refine (same_any _ _ cap cap' (hA4.below hY) (hA'.below hY) hlt hlt).mono ?_
  rintro e w5 ⟨rfl, hb5⟩
  refine ⟨by rw [decide_eq_true rfl], (hT4.later (hY.trans (hb5.mono hY.size))).back (fun k hk => ?_)⟩
  obtain ⟨q1, q2, q3⟩ := h.sub k hk
  refine ⟨.inl (.inl q1), q2, ?_⟩
  rw [← q3, ← (hF k q1).2]
  exact Below.heap_alloc _ _ _ (hT.flt (.inl q1))
theorem Pre.drop (h : Pre w0 o1 o2 b F V q x A2 cap2 F2 w2) (hb : Bd k b) (hk : k ≤ 900000) :
    Calls Try.prog 21 #[.pointer (some ⟨o1, 0, none⟩), .int .i64 x.n] w2 fun e w3 => ∃ er : Int, e = .returned (.int .i64 er) ∧ w3.cell? ⟨q, 1, none⟩ = some (.int .i64 x.n) ∧
      Calls Try.prog 36 #[.pointer (some ⟨o2, 0, none⟩), .int .i64 x.n] w3 fun e w4 => e = .returned (.int .i64 er) ∧ Two w0 o1 o2 (dropS b x.n) (dropS b x.n) F V w4 := by
  refine (two1_drop h.two hb hk x.n).mono ?_
  rintro e w3 ⟨rfl, hT⟩
  refine ⟨_, rfl, (opX_cells ((hT.blk h.qF.1).trans h.box)).2.1, (two2_drop hT hb hk x.n).mono ?_⟩
  rintro e w4 ⟨rfl, hT4⟩
  exact ⟨rfl, hT4.back h.sub⟩
theorem Pre.dbl (h : Pre w0 o1 o2 b F V q x A2 cap2 F2 w2) (hb : Bd k b) (hk : k ≤ 900000) :
    Calls Try.prog 22 #[.pointer (some ⟨o1, 0, none⟩), .int .i64 x.n] w2 fun e w3 => ∃ v er : Int, e = .returned (.tuple #[.int .i64 v, .int .i64 er]) ∧ w3.cell? ⟨q, 1, none⟩ = some (.int .i64 x.n) ∧
      Calls Try.prog 37 #[.pointer (some ⟨o2, 0, none⟩), .int .i64 x.n] w3 fun e w4 => e = .returned (.tuple #[.int .i64 v, .int .i64 er]) ∧ Two w0 o1 o2 (dblS b x.n) (dblS b x.n) F V w4 := by
  refine (two1_dbl h.two hb hk x.n).mono ?_
  rintro e w3 ⟨rfl, hT⟩
  refine ⟨_, _, rfl, (opX_cells ((hT.blk h.qF.1).trans h.box)).2.1, (two2_dbl hT hb hk x.n).mono ?_⟩
  rintro e w4 ⟨rfl, hT4⟩
  exact ⟨rfl, hT4.back h.sub⟩
theorem Pre.spoil (h : Pre w0 o1 o2 b F V q x A2 cap2 F2 w2) (hb : Bd k b) (hk : k ≤ 900000) :
    Calls Try.prog 23 #[.pointer (some ⟨o1, 0, none⟩), .int .i64 x.n, .int .i64 x.at_, .int .u8 (x.v : Nat)] w2 fun e w3 => ∃ er : Int, e = .returned (.int .i64 er) ∧ opCells w3 q x ∧
      Calls Try.prog 38 #[.pointer (some ⟨o2, 0, none⟩), .int .i64 x.n, .int .i64 x.at_, .int .u8 (x.v : Nat)] w3 fun e w4 => e = .returned (.int .i64 er) ∧ Two w0 o1 o2 (spoilS b x.n x.at_ x.v) (spoilS b x.n x.at_ x.v) F V w4 := by
  refine (two1_spoil h.two hb hk x.n x.at_ h.ok.v).mono ?_
  rintro e w3 ⟨rfl, hT⟩
  refine ⟨_, rfl, opX_cells ((hT.blk h.qF.1).trans h.box), (two2_spoil hT hb hk x.n x.at_ h.ok.v).mono ?_⟩
  rintro e w4 ⟨rfl, hT4⟩
  exact ⟨rfl, hT4.back h.sub⟩
theorem Pre.send (h : Pre w0 o1 o2 b F V q x A2 cap2 F2 w2) (hb : Bd k b) (hk : k ≤ 800000) {n : Nat} (hn : n ≤ 300) {wr : World} (hI : Two w0 o1 o2 (sendN b x n) (sendN b x n) F2 w2 wr) :
    Calls Try.prog 33 #[.pointer (some ⟨o1, 0, none⟩), .int .i64 x.n, .int .i64 x.at_, .slice A2 x.d.length cap2] wr fun e w3 => e = .returned (.int .i64 (comeV (sendN b x n))) ∧ opCells w3 q x ∧
      Calls Try.prog 34 #[.pointer (some ⟨o2, 0, none⟩), .int .i64 x.n, .int .i64 x.at_, .slice x.A x.d.length x.cap] w3 fun e w4 => e = .returned (.int .i64 (comeV (sendN b x n))) ∧ opCells w4 q x ∧ Two w0 o1 o2 (sendN b x (n + 1)) (sendN b x (n + 1)) F2 w2 w4 := by
  obtain ⟨A', cap', he, hby, _, _, hnil⟩ := row_bytes (row_base h.row (Nat.zero_le _))
  injection he with e1 _ e3
  subst e1 e3
  have hbd := hb.sendN x h.few.1 h.ok.lt n
  have hd := h.few.1
  have hle := h.two.le1
  refine (two1_send hI hbd (by omega) x.n x.at_ (hI.bytes hby (fun a ha _ => (h.rF a ha).1)) (fun a ha _ => hI.ne1 (h.rF a ha).1) hnil (by omega)).mono ?_
  rintro e w3 ⟨rfl, hT⟩
  have hc : ∀ {W : World} {c1 c2 : St}, Two w0 o1 o2 c1 c2 F2 w2 W → opCells W q x := fun hT => opX_cells ((hT.blk h.qF.1).trans h.box)
  refine ⟨rfl, hc hT, (two2_send hT hbd (by omega) x.n x.at_ (h.ok.dat.below hT.1) (fun a ha h0 => by have := h.ok.dat.lt a ha h0; omega) h.ok.nil (by omega)).mono ?_⟩
  rintro e w4 ⟨rfl, hT4⟩
  exact ⟨rfl, hc hT4, hT4⟩
/-- Bytes of a block, whatever they are. -/
def AnyB (W : World) (A : Option Addr) (n : Nat) : Prop := n = 0 ∨ ∃ (g : Nat) (cur : Array Value) (t : TypeId), A = some ⟨g, 0, none⟩ ∧ W.heap[g]? = some (.cells cur t (0, 0)) ∧ n ≤ cur.size ∧ ∀ j, j < n → ∃ z : Int, cur[j]? = some (.int .u8 z)
theorem AnyB.cell {W : World} {A : Option Addr} {n j : Nat} (h : AnyB W A n) (hj : j < n) : ∃ (g : Nat) (z : Int), A = some ⟨g, 0, none⟩ ∧ W.cell? ⟨g, j, none⟩ = some (.int .u8 z) ∧ W.frozen? ⟨g, j, none⟩ = false ∧ ∀ z' : Int, AnyB (W.setCell ⟨g, j, none⟩ (.int .u8 z')) A n := by
  rcases h with h | ⟨g, cur, t, h1, h2, h3, h4⟩
  · omega
  obtain ⟨z, hz⟩ := h4 j hj
  refine ⟨g, z, h1, by rw [blk_cell h2]; exact hz, blk_free h2 j, fun z' => .inr ⟨g, _, t, h1, blk_set h2 j _, by simpa using h3, fun i hi => ?_⟩⟩
  rw [Array.getElem?_setIfInBounds]
  split
  · rw [if_pos (by omega)]; exact ⟨z', rfl⟩
  · exact h4 i hi
theorem row_any {W : World} {B n : Nat} {v : Value} {l : List Nat} {A : Option Addr} {cap : Nat} (h : W.ownsRow B 5 1 v n (l.map byV)) (hv : v = .slice A n cap) : AnyB W A n := by
  rcases h.2 with ⟨h1, h0⟩ | ⟨g, cap', cur, h1, _, hg, hle, hmx, hsz, htk⟩
  · exact .inl h0
  · rw [hv] at h1
    injection h1 with e1 _ _
    refine .inr ⟨g, cur, _, e1, hg, by omega, fun j hj => ?_⟩
    have hl := h.1
    rw [List.length_map] at hl
    have h5 : (l.map byV)[j]? = cur[j]? := by
      rw [← htk, List.getElem?_take_of_lt (by omega), Array.getElem?_toList]
    rw [← h5, List.getElem?_map, List.getElem?_eq_getElem (by omega)]
    exact ⟨_, rfl⟩
/-- The copy of the data turns beside the bags. -/
def SpI (w0 : World) (o1 o2 : Nat) (b' : St) (F : Nat → Prop) (V : World) (A2 : Option Addr) (n : Nat) (wr : World) : Prop := AnyB wr A2 n ∧ Two w0 o1 o2 b' b' (fun k => F k ∨ ∃ a, A2 = some a ∧ k = a.block) wr wr ∧ (∀ k, F k → k < V.heap.size ∧ wr.heap[k]? = V.heap[k]?) ∧ ∀ a, A2 = some a → ¬ F a.block ∧ w0.heap.size ≤ a.block
theorem SpI.done {b' : St} {n : Nat} {wr : World} (h : SpI w0 o1 o2 b' F V A2 n wr) : Two w0 o1 o2 b' b' F V wr := h.2.1.back (fun k hk => ⟨.inl hk, h.2.2.1 k hk⟩)
theorem SpI.cell {b' : St} {n j : Nat} {wr : World} (h : SpI w0 o1 o2 b' F V A2 n wr) (hj : j < n) : ∃ (g : Nat) (z : Int), A2 = some ⟨g, 0, none⟩ ∧ wr.cell? ⟨g, j, none⟩ = some (.int .u8 z) ∧ wr.frozen? ⟨g, j, none⟩ = false ∧ ∀ z' : Int, SpI w0 o1 o2 b' F V A2 n (wr.setCell ⟨g, j, none⟩ (.int .u8 z')) := by
  obtain ⟨h1, h2, h3, h4⟩ := h
  obtain ⟨g, z, q1, q2, q3, q4⟩ := h1.cell hj
  refine ⟨g, z, q1, q2, q3, fun z' => ⟨q4 z', h2.rewrite (setO wr g j _) (fun k hk => ⟨.inr ⟨_, q1, hk⟩, by rw [hk]; exact (h4 _ q1).2⟩), fun k hk => ⟨(h3 k hk).1, ?_⟩, h4⟩⟩
  have hne : k ≠ g := fun e => (h4 _ q1).1 (e ▸ hk)
  exact ((setO wr g j (.int .u8 z')).block k (h2.flt (.inl hk)) hne).trans (h3 k hk).2
theorem Pre.spI (h : Pre w0 o1 o2 b F V q x A2 cap2 F2 w2) {b' : St} {wr : World} (hI : Two w0 o1 o2 b' b' F2 w2 wr) : SpI w0 o1 o2 b' F V A2 x.d.length wr := by
  have hb := hI.back (F := F2) (V := w2) (fun k hk => ⟨hk, h.two.flt hk, rfl⟩)
  refine ⟨?_, ?_, fun k hk => ⟨(h.sub k hk).2.1, (hI.blk (h.sub k hk).1).trans (h.sub k hk).2.2⟩, fun a ha => ⟨(h.rF a ha).2.1, (h.rF a ha).2.2.2⟩⟩
  · rcases row_any h.row rfl with h0 | ⟨g, cur, t, h1, h2, h3, h4⟩
    · exact .inl h0
    · exact .inr ⟨g, cur, t, h1, (hI.blk (h.rF _ h1).1).trans h2, h3, h4⟩
  · refine (hI.rewrite (Kept.refl (fun _ => False) wr) (fun _ h => h.elim)).less (fun k hk => ?_)
    rcases hk with hk | ⟨a, ha, rfl⟩
    · exact (h.sub k hk).1
    · exact (h.rF a ha).1
end
end Go.Proofs.Ytinihggcibghaaa
