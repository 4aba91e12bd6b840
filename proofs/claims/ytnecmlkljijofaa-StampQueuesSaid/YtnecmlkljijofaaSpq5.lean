/-
  A queue beside the document's queue, in memory: what every call leaves.
-/
import Derived.Test.YtnecmlkljijofaaSpq4
import Derived.Test.YtnecmlkljijofaaSpi
namespace Go.Proofs.Ytnecmlkljijofaa
set_option maxRecDepth 100000
set_option linter.unusedSimpArgs false
open Go Go.RowKit Sp

namespace Sp
theorem Rep.putB {l m : List Wt} (h : Rep l m) (w : Wt) : rputB m w = putB w l := by
  unfold rputB Sp.putB
  rw [h.has, h.len]
  have := h.ok.len
  congr 1
  by_cases e : l.length = 8
  · simp [e]
  · rw [decide_eq_false (by omega : ¬ 8 ≤ l.length), decide_eq_true e]; rfl
theorem Rep.atI {l m : List Wt} (h : Rep l m) (r : Int) : (Sp.has l r = true ∧ Sp.atI m r = ((idx m r : Nat) : Int) ∧ idx m r < m.length ∧ m.getD (idx m r) w0 = finV l r) ∨ (Sp.has l r = false ∧ Sp.atI m r = -1 ∧ finV l r = w0) := by
  by_cases hh : Sp.has l r = true
  · have hm : Sp.has m r = true := by rw [h.has]; exact hh
    refine .inl ⟨hh, by unfold Sp.atI; rw [if_pos hm], by simpa [Sp.has] using hm, ?_⟩
    have := h.at_ hh
    unfold finV
    rw [if_pos hh, ← this]; rfl
  · have hm : ¬ Sp.has m r = true := by rw [h.has]; exact hh
    refine .inr ⟨by simpa using hh, by unfold Sp.atI; rw [if_neg hm], by unfold finV; rw [if_neg hh]⟩
end Sp

/-- A box of a waiter. -/
def BoxA (W : World) (k : Nat) (y : Wt) : Prop := W.heap[k]? = some (.cells #[.int .i64 y.r, .int .u64 y.s, .int .i64 y.p] 40 (0, 0))
theorem BoxA.cells {W : World} {k : Nat} {y : Wt} (h : BoxA W k y) : W.cell? ⟨k, 0, none⟩ = some (.int .i64 y.r) ∧ W.cell? ⟨k, 1, none⟩ = some (.int .u64 y.s) ∧ W.cell? ⟨k, 2, none⟩ = some (.int .i64 y.p) := ⟨by rw [blk_cell h]; rfl, by rw [blk_cell h]; rfl, by rw [blk_cell h]; rfl⟩
/-- Both queues, and boxes. -/
structure ZW (w : World) (l m : List Wt) (v : Value) (bs : List (Nat × Wt)) (W : World) : Prop where
  q : QAt W w.heap.size l
  r : RQ W (w.heap.size + 1) v m
  b : Below w.heap.size w W
  bx : ∀ x ∈ bs, w.heap.size + 1 < x.1 ∧ BoxA W x.1 x.2 ∧ v.ownBlock ≠ some x.1
variable {w W : World} {l m : List Wt} {v : Value} {bs : List (Nat × Wt)}
theorem ZW.still {W' : World} (h : ZW w l m v bs W) (s : Still W W') : ZW w l m v bs W' :=
  ⟨h.q.kept s id, h.r.still s, h.b.trans (s.below (B := w.heap.size) (fun _ h => h.elim) h.b.size), fun x hx => ⟨(h.bx x hx).1, (s.block _ (blk_lt (h.bx x hx).2.1) id).trans (h.bx x hx).2.1, (h.bx x hx).2.2⟩⟩
theorem ZW.lt (h : ZW w l m v bs W) : w.heap.size + 1 < W.heap.size := h.r.lt
theorem ZW.cons {W' : World} {y : Wt} (h : ZW w l m v bs W) (s : Still W W') (hx : BoxA W' W.heap.size y) : ZW w l m v ((W.heap.size, y) :: bs) W' := by
  have h' := h.still s
  refine ⟨h'.q, h'.r, h'.b, fun x hx' => ?_⟩
  rcases List.mem_cons.1 hx' with rfl | hx'
  · exact ⟨h.lt, hx, fun e => by have := (h.r.vlt e).2; simp at this⟩
  · exact h'.bx x hx'
theorem ZW.nil (h : ZW w l m v bs W) : ZW w l m v [] W := ⟨h.q, h.r, h.b, fun x hx => by cases hx⟩
theorem ZW.box (h : ZW w l m v bs W) {k : Nat} {y : Wt} (hx : (k, y) ∈ bs) : W.cell? ⟨k, 0, none⟩ = some (.int .i64 y.r) ∧ W.cell? ⟨k, 1, none⟩ = some (.int .u64 y.s) ∧ W.cell? ⟨k, 2, none⟩ = some (.int .i64 y.p) := (h.bx _ hx).2.1.cells
/-- A queue's own call. -/
theorem ZW.turnQ {W' : World} {l' : List Wt} (h : ZW w l m v bs W) (hq : QAt W' w.heap.size l') (hk : Kept (fun k => k = w.heap.size) W W') : ZW w l' m v bs W' :=
  ⟨hq, h.r.kept hk (by omega) (fun k hk e => by have := (h.r.vlt hk).1; omega), h.b.trans (hk.below (fun k hk => by omega) h.b.size), fun x hx => ⟨(h.bx x hx).1, (hk.block _ (blk_lt (h.bx x hx).2.1) (by have := (h.bx x hx).1; omega)).trans (h.bx x hx).2.1, (h.bx x hx).2.2⟩⟩
theorem ZW.turnR {W' : World} {v' : Value} {m' : List Wt} (h : ZW w l m v bs W) (hr : RQ W' (w.heap.size + 1) v' m') (hk : Kept (OfR (w.heap.size + 1) v) W W') (hv : v'.ownBlock = v.ownBlock ∨ ∀ k, v'.ownBlock = some k → W.heap.size ≤ k) : ZW w l m' v' bs W' := by
  have hn : ∀ x ∈ bs, ¬ OfR (w.heap.size + 1) v x.1 := fun x hx e => by
    rcases e with e | e
    · have := (h.bx x hx).1; omega
    · exact (h.bx x hx).2.2 e
  refine ⟨h.q.kept hk (fun e => ?_), hr, h.b.trans (hk.below (fun k hk => ?_) h.b.size), fun x hx => ⟨(h.bx x hx).1, (hk.block _ (blk_lt (h.bx x hx).2.1) (hn x hx)).trans (h.bx x hx).2.1, ?_⟩⟩
  · rcases e with e | e
    · omega
    · have := (h.r.vlt e).1; omega
  · rcases hk with e | e
    · omega
    · have := (h.r.vlt e).1; omega
  · rcases hv with e | e
    · rw [e]; exact (h.bx x hx).2.2
    · intro e2
      have := e _ e2
      have := blk_lt (h.bx x hx).2.1
      omega
theorem ZW.m8 (hr : Rep l m) : m.length ≤ 8 := by rw [hr.len]; exact hr.ok.len

theorem c_put1 (h : ZW w l m v bs W) (y : Wt) :
    Calls Try.prog 14 #[.pointer (some ⟨w.heap.size, 0, none⟩), .agg #[.int .i64 y.r, .int .u64 y.s, .int .i64 y.p]] W fun e w' => e = .returned (.tuple #[.bool (may y && putB y l), .int .i64 (if may y then 0 else 2)]) ∧ ZW w (if may y then putL y l else l) m v bs w' := by
  refine (put_any h.q y).mono ?_
  rintro e w' ⟨rfl, h1, h2⟩
  exact ⟨rfl, h.turnQ h1 h2⟩
theorem c_put2 (h : ZW w l m v bs W) (hm : m.length ≤ 8) (y : Wt) :
    Calls Try.prog 15 #[.pointer (some ⟨w.heap.size + 1, 0, none⟩), .agg #[.int .i64 y.r, .int .u64 y.s, .int .i64 y.p]] W fun e w' => e = .returned (.tuple #[.bool (may y && rputB m y), .int .i64 (if may y then 0 else 2)]) ∧ ∃ v', ZW w l (if may y then rputL m y else m) v' bs w' := by
  refine (rput_any h.r hm y).mono ?_
  rintro e w' ⟨rfl, v', h1, h2, h3⟩
  exact ⟨rfl, v', h.turnR h1 h2 h3⟩
theorem c_up1 (h : ZW w l m v bs W) (r q : Int) :
    Calls Try.prog 16 #[.pointer (some ⟨w.heap.size, 0, none⟩), .int .i64 r, .int .i64 q] W fun e w' => e = .returned (.bool (upB l r q)) ∧ ZW w (upL l r q) m v bs w' := by
  refine (up_at2 h.q r q).mono ?_
  rintro e w' ⟨rfl, h1, h2⟩
  exact ⟨rfl, h.turnQ h1 h2⟩
theorem c_up2 (h : ZW w l m v bs W) (hm : m.length ≤ 8) (r q : Int) :
    Calls Try.prog 17 #[.pointer (some ⟨w.heap.size + 1, 0, none⟩), .int .i64 r, .int .i64 q] W fun e w' => e = .returned (.bool (rupB m r q)) ∧ ∃ v', ZW w l (rupL m r q) v' bs w' := by
  refine (rup_any h.r hm r q).mono ?_
  rintro e w' ⟨rfl, v', h1, h2, h3⟩
  exact ⟨rfl, v', h.turnR h1 h2 h3⟩
theorem c_cut1 (h : ZW w l m v bs W) (r : Int) :
    Calls Try.prog 18 #[.pointer (some ⟨w.heap.size, 0, none⟩), .int .i64 r] W fun e w' => e = .returned (.bool (has l r)) ∧ ZW w (cutL l r) m v bs w' := by
  refine (cut_any (.inr ⟨_, rfl, h.q⟩) r).mono ?_
  rintro e w' ⟨rfl, h1, h2⟩
  rcases h1 with ⟨h1, _⟩ | ⟨o', h1, h3⟩
  · cases h1
  · cases h1
    exact ⟨rfl, h.turnQ h3 (h2.mono (fun k _ hk => by obtain ⟨o2, e1, e2⟩ := hk; cases e1; exact e2))⟩
theorem c_cut2 (h : ZW w l m v bs W) (hm : m.length ≤ 8) (r : Int) :
    Calls Try.prog 19 #[.pointer (some ⟨w.heap.size + 1, 0, none⟩), .int .i64 r] W fun e w' => e = .returned (.bool (has m r)) ∧ ∃ v', ZW w l (rcutL m r) v' bs w' := by
  refine (rcut_any h.r hm r).mono ?_
  rintro e w' ⟨rfl, v', h1, h2, h3⟩
  exact ⟨rfl, v', h.turnR h1 h2 h3⟩
theorem c_all2 (h : ZW w l m v bs W) (hr : Rep l m) :
    Calls Try.prog 20 #[.pointer (some ⟨w.heap.size + 1, 0, none⟩)] W fun e w' => ∃ vb, e = .returned vb ∧ IsW w' vb l ∧ ZW w l m v bs w' := by
  refine (rall_any h.r hr).mono ?_
  rintro e w' ⟨vb, rfl, h1, _, h2⟩
  exact ⟨vb, rfl, h1, h.still (still_of h2)⟩
/-- With both lists. -/
structure ZA (w : World) (l m : List Wt) (v : Value) (bs : List (Nat × Wt)) (va vb : Value) (W : World) : Prop where
  z : ZW w l m v bs W
  a : W.ownsRow (w.heap.size + 2) 40 3 va l.length (csA l)
  d : ∀ k, v.ownBlock = some k → va.ownBlock ≠ some k
  b : IsW W vb l
variable {va vb : Value}
theorem ZA.still {W' : World} (h : ZA w l m v bs va vb W) (s : Still W W') : ZA w l m v bs va vb W' := ⟨h.z.still s, s.row h.a (fun _ _ => id), h.d, h.b.still s⟩
theorem ZA.below {W' : World} (h : ZA w l m v bs va vb W) (s : Below W.heap.size W W') : ZA w l m v bs va vb W' := h.still (still_of s)
theorem ZA.cons {W' : World} {y : Wt} (h : ZA w l m v bs va vb W) (s : Still W W') (hx : BoxA W' W.heap.size y) : ZA w l m v ((W.heap.size, y) :: bs) va vb W' := ⟨h.z.cons s hx, s.row h.a (fun _ _ => id), h.d, h.b.still s⟩
theorem c_all1 (h : ZW w l m v bs W) (hb : IsW W vb l) :
    Calls Try.prog 21 #[.pointer (some ⟨w.heap.size, 0, none⟩)] W fun e w' => ∃ va, e = .returned va ∧ ZA w l m v bs va vb w' := by
  refine (all_any (.inr ⟨_, rfl, h.q⟩)).mono ?_
  rintro e w' ⟨va, rfl, h1, h2⟩
  refine ⟨va, rfl, h.still (still_of h2), row_base h1 (by have := h.lt; omega), fun k hk e => ?_, hb.still (still_of h2)⟩
  have := (h1.lt k e).1
  have := (h.r.vlt hk).2
  omega
theorem c_first (h : ZA w l m v bs va vb W) :
    Calls Try.prog 22 #[.pointer (some ⟨w.heap.size, 0, none⟩)] W fun e w' => e = .returned (.tuple #[.agg #[.int .i64 (l.getD 0 w0).r, .int .u64 (l.getD 0 w0).s, .int .i64 (l.getD 0 w0).p], .bool (decide (0 < l.length))]) ∧ ZA w l m v bs va vb w' := by
  refine (first_any (.inr ⟨_, rfl, h.z.q⟩)).mono ?_
  rintro e w' ⟨rfl, h1⟩
  exact ⟨rfl, h.below h1⟩
theorem c_find (h : ZA w l m v bs va vb W) (r : Int) :
    Calls Try.prog 23 #[.pointer (some ⟨w.heap.size, 0, none⟩), .int .i64 r] W fun e w' => e = .returned (.tuple #[.agg #[.int .i64 (finV l r).r, .int .u64 (finV l r).s, .int .i64 (finV l r).p], .bool (has l r)]) ∧ ZA w l m v bs va vb w' := by
  refine (fin_any (.inr ⟨_, rfl, h.z.q⟩) r).mono ?_
  rintro e w' ⟨rfl, h1⟩
  exact ⟨rfl, h.below h1⟩
theorem c_rfind (h : ZA w l m v bs va vb W) (hm : m.length ≤ 8) (r : Int) :
    Calls Try.prog 24 #[.pointer (some ⟨w.heap.size + 1, 0, none⟩), .int .i64 r] W fun e w' => e = .returned (.int .i64 (atI m r)) ∧ ZA w l m v bs va vb w' := by
  refine (rfind_any h.z.r hm r).mono ?_
  rintro e w' ⟨rfl, rfl⟩
  exact ⟨rfl, h⟩
theorem c_same (h : ZA w l m v bs va vb W) (hl : l.length ≤ 8) :
    Calls Try.prog 25 #[va, vb] W fun e w' => e = .returned (.bool true) ∧ ZA w l m v bs va vb w' := by
  refine (same_any (IsW.of_row h.a) h.b (by omega)).mono ?_
  rintro e w' ⟨rfl, h1⟩
  exact ⟨by rw [decide_eq_true rfl], h.still h1⟩
theorem c_len (h : ZA w l m v bs va vb W) :
    Calls Try.prog 26 #[.pointer (some ⟨w.heap.size, 0, none⟩)] W fun e w' => e = .returned (.int .i64 (l.length : Nat)) ∧ ZA w l m v bs va vb w' := by
  refine (qlen_any (.inr ⟨_, rfl, h.z.q⟩)).mono ?_
  rintro e w' ⟨rfl, rfl⟩
  exact ⟨rfl, h⟩
theorem c_ahead (h : ZA w l m v bs va vb W) (a b : Wt) :
    Calls Try.prog 27 #[.agg #[.int .i64 a.r, .int .u64 a.s, .int .i64 a.p], .agg #[.int .i64 b.r, .int .u64 b.s, .int .i64 b.p]] W fun e w' => e = .returned (.bool (fore a b)) ∧ ZA w l m v bs va vb w' := by
  refine (ahead_any W a b).mono ?_
  rintro e w' ⟨rfl, h1, _⟩
  exact ⟨rfl, h.below h1⟩
theorem c_rahead (h : ZA w l m v bs va vb W) (a b : Wt) :
    Calls Try.prog 28 #[.agg #[.int .i64 a.r, .int .u64 a.s, .int .i64 a.p], .agg #[.int .i64 b.r, .int .u64 b.s, .int .i64 b.p]] W fun e w' => e = .returned (.bool (fore a b)) ∧ ZA w l m v bs va vb w' := by
  refine (rahead_any W a b).mono ?_
  rintro e w' ⟨rfl, h1, _⟩
  exact ⟨rfl, h.below h1⟩
/-- A box that is laid, and then filled. -/
theorem box_laid (W : World) (y : Wt) : Still W (W.alloc (.cells #[.int .i64 y.r, .int .u64 y.s, .int .i64 y.p] 40)) ∧ BoxA (W.alloc (.cells #[.int .i64 y.r, .int .u64 y.s, .int .i64 y.p] 40)) W.heap.size y := ⟨(Kept.refl _ W).alloc _, World.alloc_heap_new W _⟩
theorem box_filled (W : World) (y : Wt) {z : Wt} {W1 : World} (hs : Still W W1) (hx : BoxA W1 W.heap.size z) :
    Still W (((W1.setCell ⟨W.heap.size, 0, none⟩ (.int .i64 y.r)).setCell ⟨W.heap.size, 1, none⟩ (.int .u64 y.s)).setCell ⟨W.heap.size, 2, none⟩ (.int .i64 y.p)) ∧ BoxA (((W1.setCell ⟨W.heap.size, 0, none⟩ (.int .i64 y.r)).setCell ⟨W.heap.size, 1, none⟩ (.int .u64 y.s)).setCell ⟨W.heap.size, 2, none⟩ (.int .i64 y.p)) W.heap.size y := by
  refine ⟨((hs.setCell (p := ⟨W.heap.size, 0, none⟩) (.inr (Nat.le_refl _)) _).setCell (p := ⟨W.heap.size, 1, none⟩) (.inr (Nat.le_refl _)) _).setCell (p := ⟨W.heap.size, 2, none⟩) (.inr (Nat.le_refl _)) _, ?_⟩
  unfold BoxA at hx ⊢
  exact blk_set (blk_set (blk_set hx _ _) _ _) _ _
/-- A list that is emptied. -/
structure ZR (w : World) (l m : List Wt) (v : Value) (va : Value) (n : Nat) (W : World) : Prop where
  z : ZW w l m v [] W
  a : ∃ xs, xs.length = n ∧ W.ownsRow (w.heap.size + 2) 40 3 va n (csA xs)
  d : ∀ k, v.ownBlock = some k → va.ownBlock ≠ some k
theorem ZA.toR (h : ZA w l m v bs va vb W) : ZR w l m v va l.length W := ⟨h.z.nil, ⟨l, rfl, h.a⟩, h.d⟩
theorem ZR.step {n j : Nat} (h : ZR w l m v va n W) (hj : j < n) : ∃ g cap, va = .slice (some ⟨g, 0, none⟩) n cap ∧ (∃ u0 u1 u2, W.cell? ⟨g, j * 3, none⟩ = some u0 ∧ W.cell? ⟨g, j * 3 + 1, none⟩ = some u1 ∧ W.cell? ⟨g, j * 3 + 2, none⟩ = some u2) ∧ (∀ i, W.frozen? ⟨g, i, none⟩ = false) ∧
    ZR w l m v va n (((W.setCell ⟨g, j * 3, none⟩ (.int .i64 0)).setCell ⟨g, j * 3 + 1, none⟩ (.int .u64 0)).setCell ⟨g, j * 3 + 2, none⟩ (.int .i64 0)) := by
  obtain ⟨xs, hx, ho⟩ := h.a
  have ho0 := ho
  rcases ho.2 with ⟨rfl, h0⟩ | ⟨g, cap, cur, rfl, hb, hg, _⟩
  · omega
  have hl : (csA xs).length = n * 3 := by rw [csA_length, hx]
  refine ⟨g, cap, rfl, ⟨_, _, _, (ho0.cellAt (j * 3) (by omega)).trans (List.getElem?_eq_getElem (by omega)), (ho0.cellAt (j * 3 + 1) (by omega)).trans (List.getElem?_eq_getElem (by omega)), (ho0.cellAt (j * 3 + 2) (by omega)).trans (List.getElem?_eq_getElem (by omega))⟩, fun i => blk_free hg i, ?_⟩
  have hk : Kept (fun k => k = g) W (((W.setCell ⟨g, j * 3, none⟩ (.int .i64 0)).setCell ⟨g, j * 3 + 1, none⟩ (.int .u64 0)).setCell ⟨g, j * 3 + 2, none⟩ (.int .i64 0)) :=
    (((Kept.refl (fun k => k = g) W).setCell (p := ⟨g, _, none⟩) (.inl rfl) _).setCell (p := ⟨g, _, none⟩) (.inl rfl) _).setCell (p := ⟨g, _, none⟩) (.inl rfl) _
  refine ⟨⟨h.z.q.kept hk (by omega), h.z.r.kept hk (by omega) (fun k hv e => h.d k hv (by subst e; rfl)), h.z.b.trans (hk.below (fun k hk => by omega) h.z.b.size), fun x hx => by cases hx⟩, ⟨xs.set j w0, by rw [List.length_set]; exact hx, ?_⟩, h.d⟩
  subst hx
  exact row_set ho0 hj w0
/-- What the round's end asks. -/
theorem z_end (z : ZA w l m v bs va vb W) (hl : l.length ≤ 8) (a b : Wt) : ∃ ZP : World → Prop, ZP W ∧ ZP W.drew ∧
    (∀ V, ZP V → Calls Try.prog 25 #[va, vb] V fun e w' => e = .returned (.bool true) ∧ ZP w') ∧
    (∀ V, ZP V → Calls Try.prog 26 #[.pointer (some ⟨w.heap.size, 0, none⟩)] V fun e w' => e = .returned (.int .i64 (l.length : Nat)) ∧ ZP w') ∧
    (∀ V, ZP V → Calls Try.prog 27 #[.agg #[.int .i64 a.r, .int .u64 a.s, .int .i64 a.p], .agg #[.int .i64 b.r, .int .u64 b.s, .int .i64 b.p]] V fun e w' => e = .returned (.bool (fore a b)) ∧ ZP w') ∧
    (∀ V, ZP V → Calls Try.prog 28 #[.agg #[.int .i64 a.r, .int .u64 a.s, .int .i64 a.p], .agg #[.int .i64 b.r, .int .u64 b.s, .int .i64 b.p]] V fun e w' => e = .returned (.bool (fore a b)) ∧ ZP w') ∧
    (∀ V, ZP V → ∀ k y, (k, y) ∈ bs → V.cell? ⟨k, 0, none⟩ = some (.int .i64 y.r) ∧ V.cell? ⟨k, 1, none⟩ = some (.int .u64 y.s) ∧ V.cell? ⟨k, 2, none⟩ = some (.int .i64 y.p)) ∧
    (∀ V, ZP V → ZR w l m v va l.length V) :=
  ⟨ZA w l m v bs va vb, z, z.still (Kept.refl _ _).drew, fun _ z => c_same z hl, fun _ z => c_len z, fun _ z => c_ahead z a b, fun _ z => c_rahead z a b, fun _ z _ _ hx => z.z.box hx, fun _ z => z.toR⟩
end Go.Proofs.Ytnecmlkljijofaa
