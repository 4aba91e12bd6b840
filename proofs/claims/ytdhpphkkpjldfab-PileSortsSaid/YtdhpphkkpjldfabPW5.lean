/-
  The pile's Top: its walk.
-/
import Derived.Test.YtdhpphkkpjldfabPW1
namespace Go.Proofs.Ytdhpphkkpjldfab
set_option maxRecDepth 100000
open Go Go.RowKit Pq

set_option maxHeartbeats 400000 in
theorem top_some {w : World} {b j : Nat} {r : Option Nat} {l : List It} (h : Pile w b j r l) (h0 : 0 < l.length) :
    Calls Try.prog 16 #[.pointer (some ⟨b, j, none⟩)] w fun e w' => e = .returned (.tuple #[.agg #[.int .i64 (at_ l 0).c, .int .i64 (at_ l 0).t, .int .i64 (at_ l 0).i], .bool true]) ∧ Below w.heap.size w w' := by
  have HL : Hid (∀ o, Calls Try.prog 18 #[.pointer (some ⟨b, j, none⟩)] (w.alloc o) fun e w' => e = .returned (.int .i64 (l.length : Int)) ∧ w.alloc o = w') := fun o => len_any (h.kept ((Kept.refl (fun _ => False) w).alloc o) (fun _ _ => id))
  obtain ⟨v, hc, hf, hr, hn, ho⟩ := h
  obtain ⟨g, cap, rfl⟩ : ∃ g cap, v = .slice (some ⟨g, 0, none⟩) l.length cap := by
    rcases ho.2 with ⟨rfl, h1⟩ | ⟨g, cap, cur, rfl, _⟩
    · omega
    · exact ⟨_, _, rfl⟩
  obtain ⟨a0, a1, a2⟩ := row_cells ho h0
  have ba0 := cell_a1 a0
  have ba1 := cell_a1 a1
  have ba2 := cell_a1 a2
  have bhc := cell_a1 hc
  clear ho hr hn hf hc a0 a1 a2
  generalize at_ l 0 = x at *
  obtain ⟨x0, x1, x2⟩ := x
  simp only [Nat.zero_mul, Nat.zero_add] at *
  have hne : ((l.length : Int) == 0) = false := by rw [beq_eq_false_iff_ne]; omega
  generalize l.length = n at *
  go_enter Try.func16, Try.ntmps16
  go_wp2_with (go_at_call 18; (with_reducible refine (HL.out _).mono ?_); rintro e w' ⟨rfl, rfl⟩)
  exact bodyPost_ret (v := .tuple #[.agg #[.int .i64 x0, .int .i64 x1, .int .i64 x2], .bool true]) (by simp [results, Try.results16, go_sem]) rfl ⟨rfl, (Below.refl _ _).alloc (Nat.le_refl _) _⟩

set_option maxHeartbeats 400000 in
theorem top_empty {w : World} {b j : Nat} {r : Option Nat} (h : Pile w b j r []) :
    Calls Try.prog 16 #[.pointer (some ⟨b, j, none⟩)] w fun e w' => e = .returned (.tuple #[.agg #[.int .i64 0, .int .i64 0, .int .i64 0], .bool false]) ∧ Below w.heap.size w w' := by
  have HL : Hid (∀ o, Calls Try.prog 18 #[.pointer (some ⟨b, j, none⟩)] (w.alloc o) fun e w' => e = .returned (.int .i64 0) ∧ w.alloc o = w') := fun o => len_any (h.kept ((Kept.refl (fun _ => False) w).alloc o) (fun _ _ => id))
  clear h
  go_enter Try.func16, Try.ntmps16
  go_wp2_with (go_at_call 18; (with_reducible refine (HL.out _).mono ?_); rintro e w' ⟨rfl, rfl⟩)
  exact bodyPost_ret (v := .tuple #[.agg #[.int .i64 0, .int .i64 0, .int .i64 0], .bool false]) (by simp [results, Try.results16, go_sem]) rfl ⟨rfl, (Below.refl _ _).alloc (Nat.le_refl _) _⟩

set_option maxHeartbeats 400000 in
theorem top_none (w : World) :
    Calls Try.prog 16 #[.pointer none] w fun e w' => e = .returned (.tuple #[.agg #[.int .i64 0, .int .i64 0, .int .i64 0], .bool false]) ∧ Below w.heap.size w w' := by
  go_enter Try.func16, Try.ntmps16
  go_wp2_with (go_at_call 18; (with_reducible refine (len_none _).mono ?_); rintro e w' ⟨rfl, rfl⟩)
  exact bodyPost_ret (v := .tuple #[.agg #[.int .i64 0, .int .i64 0, .int .i64 0], .bool false]) (by simp [results, Try.results16, go_sem]) rfl ⟨rfl, (Below.refl _ _).alloc (Nat.le_refl _) _⟩
end Go.Proofs.Ytdhpphkkpjldfab
