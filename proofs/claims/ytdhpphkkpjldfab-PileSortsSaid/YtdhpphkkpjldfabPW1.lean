/-
  The pile's small functions: their walks.
-/
import Derived.Test.YtdhpphkkpjldfabPMem
import Derived.RegionTactic
import Derived.ChangeAlike
import Derived.BigRegion
import Derived.Outline
namespace Go.Proofs.Ytdhpphkkpjldfab
set_option maxRecDepth 100000
open Go Go.RowKit Pq

def LenPost (n : Nat) (w : World) (e : Ending) (w' : World) : Prop := e = .returned (.int .i64 (n : Int)) ∧ w = w'

set_option maxHeartbeats 400000 in
theorem ret_bool {a b : Bool} (h : a = b) : Ending.returned (.bool a) = .returned (.bool b) := by rw [h]

set_option maxHeartbeats 400000 in
theorem len_any {w : World} {b j : Nat} {r : Option Nat} {l : List It} (h : Pile w b j r l) :
    Calls Try.prog 18 #[.pointer (some ⟨b, j, none⟩)] w fun e w' => e = .returned (.int .i64 (l.length : Int)) ∧ w = w' := by
  obtain ⟨v, hc, hf, hr, hn, ho⟩ := h
  obtain ⟨a, cap, rfl⟩ : ∃ a cap, v = .slice a l.length cap := by
    rcases ho.2 with ⟨rfl, h0⟩ | ⟨g, cap, cur, rfl, _⟩
    · exact ⟨none, 0, by rw [h0]⟩
    · exact ⟨_, _, rfl⟩
  clear ho hr hn hf
  generalize l.length = n at hc ⊢
  go_enter Try.func18, Try.ntmps18
  go_wp2
  go_ret
  exact ⟨rfl, rfl⟩

set_option maxHeartbeats 400000 in
theorem len_none (w : World) :
    Calls Try.prog 18 #[.pointer none] w fun e w' => e = .returned (.int .i64 0) ∧ w = w' := by
  go_enter Try.func18, Try.ntmps18
  go_wp2
  go_ret
  exact ⟨rfl, rfl⟩

theorem cell_a1 {w : World} {p : Addr} {v : Value} (h : w.cell? p = some v) : ∀ o, (w.alloc o).cell? p = some v := fun o => (World.cell?_alloc_lt w o p (World.block_lt_of_cell? w p h)).trans h
theorem cell_a2 {w : World} {p : Addr} {v : Value} (h : w.cell? p = some v) : ∀ o o', ((w.alloc o).alloc o').cell? p = some v := fun o o' => cell_a1 (cell_a1 h o) o'

set_option maxHeartbeats 1000000 in
theorem ahead_any {w : World} {b j c : Nat} {r : Option Nat} {l : List It} (h : Pile w b j r l) (hp : w.cell? ⟨c, 0, none⟩ = some (.pointer (some ⟨b, j, none⟩))) (a k : Nat) (ha : a < l.length) (hk : k < l.length) :
    Calls Try.prog 29 #[.int .i64 (a : Int), .int .i64 (k : Int), .pointer (some ⟨c, 0, none⟩)] w fun e w' => e = .returned (.bool (lt (at_ l a) (at_ l k))) ∧ Below w.heap.size w w' := by
  obtain ⟨v, hc, hf, hr, hn, ho⟩ := h
  obtain ⟨g, cap, rfl⟩ : ∃ g cap, v = .slice (some ⟨g, 0, none⟩) l.length cap := by
    rcases ho.2 with ⟨rfl, h0⟩ | ⟨g, cap, cur, rfl, _⟩
    · omega
    · exact ⟨_, _, rfl⟩
  obtain ⟨a0, a1, a2⟩ := row_cells ho ha
  obtain ⟨k0, k1, k2⟩ := row_cells ho hk
  clear ho hr hn hf
  generalize at_ l a = x at *
  generalize at_ l k = y at *
  obtain ⟨x0, x1, x2⟩ := x
  obtain ⟨y0, y1, y2⟩ := y
  simp only at *
  generalize l.length = n at *
  go_enter Try.func29, Try.ntmps29
  go_wp2
  have ba0 := cell_a1 a0
  have ba1 := cell_a1 a1
  have ba2 := cell_a1 a2
  have bk0 := cell_a1 k0
  have bk1 := cell_a1 k1
  have bk2 := cell_a1 k2
  have bhc := cell_a1 hc
  have bhp := cell_a1 hp
  have ca0 := cell_a2 a0
  have ca1 := cell_a2 a1
  have ca2 := cell_a2 a2
  have ck0 := cell_a2 k0
  have ck1 := cell_a2 k1
  have ck2 := cell_a2 k2
  have chc := cell_a2 hc
  have chp := cell_a2 hp
  go_region
  all_goals
    clear ba0 ba1 ba2 bk0 bk1 bk2 bhc bhp ca0 ca1 ca2 ck0 ck1 ck2 chc chp a0 a1 a2 k0 k1 k2 hc hp
    go_wp2
    all_goals
      go_ret
      refine ⟨ret_bool ?_, ?_⟩
      · unfold lt
        simp_all
      · exact (((Below.refl _ _).alloc (Nat.le_refl _) _).alloc (by simp) _).drew
end Go.Proofs.Ytdhpphkkpjldfab
