/-
  The walk of the law RouteShort: there is a route; the law whole.
-/
import Derived.Test.YtkfijjjnidiejaaDoorSh2
namespace Go.Proofs.YtkfijjjnidiejaaDoor
set_option maxRecDepth 100000
set_option linter.unusedSimpArgs false
open Go Go.RowKit Rq

theorem row_cap {w : World} {B n : Nat} {a : Option Addr} {m c : Nat} {xs : List Value} (h : w.ownsRow B 3 1 (.slice a m c) n xs) : n ≤ c := by
  rcases h.2 with ⟨e, h0⟩ | ⟨g, cap, cur, e, _, _, h3, _⟩
  · omega
  · cases e; exact h3
/-- Find, what its list stands on. -/
theorem m1_findc {w0 w : World} {bm gm cm R C : Nat} {ms : List UInt8} (h : M1 w0 bm gm cm R C ms w) {B : Option Addr} {ban : List Int} (hB : IntsAt w B ban) {m cb : Nat} (hm : ban.length = m) (hbm : ban.length ≤ maxLen) {fr to_ bud : Int} {l : List Nat} {z : Int} (hz : findZ R C ms fr to_ ban bud = (l, z)) {n : Nat} (hn : l.length = n) (h0 : 0 < n) :
    Calls Tryd.prog 11 #[.pointer (some ⟨bm, 0, none⟩), .int .i64 fr, .int .i64 to_, .slice B m cb, .int .i64 bud] w fun e w' => ∃ g c, e = .returned (.tuple #[.slice (some ⟨g, 0, none⟩) n c, .int .i64 z]) ∧ (M1 w0 bm gm cm R C ms w' ∧ LstN bm w' (.slice (some ⟨g, 0, none⟩) n c) l ∧ n ≤ c ∧ w.grownBy w' (some bm)) := by
  subst hm hn
  refine (finds_any h.em hB hbm bud).mono ?_
  rw [hz]
  rintro e w' ⟨v, rfl, hx, ho⟩
  have ho' : w'.ownsRow w.heap.size 3 1 v l.length (l.map natV) := ho
  rcases ho'.2 with ⟨_, h1⟩ | ⟨g, cap, cur, rfl, h1, _, h3, _⟩
  · omega
  · refine ⟨g, cap, rfl, h.emx hx, ⟨_, _, rfl, fun j hj => ⟨g, rfl, ?_, int_cells ho' j hj⟩⟩, h3, hx.grown⟩
    have := h.lt
    omega
theorem LstN.cells {bm : Nat} {w : World} {g n c : Nat} {l : List Nat} (h : LstN bm w (.slice (some ⟨g, 0, none⟩) n c) l) : ∀ j, j < l.length → w.cell? ⟨g, j, none⟩ = some (.int .i64 ((l.getD j 0 : Nat) : Int)) := by
  obtain ⟨a, k, e, hc⟩ := h
  cases e
  intro j hj
  obtain ⟨g', e1, _, h2⟩ := hc j hj
  cases e1
  exact h2
theorem LstN.intsc {bm : Nat} {w : World} {g n c : Nat} {l : List Nat} (h : LstN bm w (.slice (some ⟨g, 0, none⟩) n c) l) (h0 : 0 < l.length) : IntsAt w (some ⟨g, 0, none⟩) (intsQ l) ∧ g ≠ bm := by
  obtain ⟨A, k, e, h1, h2⟩ := h.ints
  cases e
  exact ⟨h1, h2 _ rfl h0⟩

end Go.Proofs.YtkfijjjnidiejaaDoor
