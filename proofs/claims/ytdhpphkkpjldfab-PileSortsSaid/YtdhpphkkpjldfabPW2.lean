/-
  The pile's swap: its walk.
-/
import Derived.Test.YtdhpphkkpjldfabPMem
import Derived.RegionTactic
import Derived.ChangeAlike
import Derived.BigRegion
import Derived.Outline
namespace Go.Proofs.Ytdhpphkkpjldfab
set_option maxRecDepth 100000
open Go Go.RowKit Pq

/-- Three cells of a row stored: one item put into its place. -/
def put3 (w : World) (g k : Nat) (x : It) : World :=
  ((w.setCell ⟨g, k * 3, none⟩ (.int .i64 x.c)).setCell ⟨g, k * 3 + 1, none⟩ (.int .i64 x.t)).setCell ⟨g, k * 3 + 2, none⟩ (.int .i64 x.i)

theorem put3_row {w : World} {base g cap : Nat} {l : List It} {e : TypeId} (h : w.ownsRow base e 3 (.slice (some ⟨g, 0, none⟩) l.length cap) l.length (csL l)) {k : Nat} (hk : k < l.length) (x : It) :
    (put3 w g k x).ownsRow base e 3 (.slice (some ⟨g, 0, none⟩) (l.set k x).length cap) (l.set k x).length (csL (l.set k x)) := by
  rw [csL_set hk, List.length_set]
  exact (((h.stored _ _).1.stored _ _).1.stored _ _).1

theorem put3_kept {X : Nat → Prop} {a w : World} (h : Kept X a w) {g : Nat} (hg : X g) (k : Nat) (x : It) : Kept X a (put3 w g k x) :=
  ((h.setCell (p := ⟨g, k * 3, none⟩) (.inl hg) _).setCell (p := ⟨g, k * 3 + 1, none⟩) (.inl hg) _).setCell (p := ⟨g, k * 3 + 2, none⟩) (.inl hg) _

theorem put3_block {w : World} {b j g k : Nat} {x : It} (h : b ≠ g) : (put3 w g k x).cell? ⟨b, j, none⟩ = w.cell? ⟨b, j, none⟩ := by
  unfold put3
  rw [World.cell?_setCell_other _ _ _ _ (by intro e; cases e; exact h rfl), World.cell?_setCell_other _ _ _ _ (by intro e; cases e; exact h rfl), World.cell?_setCell_other _ _ _ _ (by intro e; cases e; exact h rfl)]
theorem put3_frozen {w : World} {b j g k : Nat} {x : It} (h : b ≠ g) : (put3 w g k x).frozen? ⟨b, j, none⟩ = w.frozen? ⟨b, j, none⟩ :=
  World.frozen?_of_block (by
    unfold put3
    rw [Below.heap_setCell _ _ _ _ h, Below.heap_setCell _ _ _ _ h, Below.heap_setCell _ _ _ _ h])

def SwapPost (w : World) (b j : Nat) (r : Option Nat) (l : List It) (e : Ending) (w' : World) : Prop :=
  e = .returned (.tuple #[]) ∧ Pile w' b j r l ∧ Kept (fun k => some k = r) w w'

theorem swap_post {w : World} {b j g cap : Nat} {r : Option Nat} {l : List It} (hc : w.cell? ⟨b, j, none⟩ = some (.slice (some ⟨g, 0, none⟩) l.length cap)) (hf : w.frozen? ⟨b, j, none⟩ = false)
    (hr : (Value.slice (some ⟨g, 0, none⟩) l.length cap).ownBlock = r) (hn : r ≠ some b) (ho : w.ownsRow 0 32 3 (.slice (some ⟨g, 0, none⟩) l.length cap) l.length (csL l)) {a k : Nat} (ha : a < l.length) (hk : k < l.length) :
    SwapPost w b j r (swp l a k) (.returned (.tuple #[])) (put3 (put3 w g a (at_ l k)) g k (at_ l a)).drew := by
  have hgb : b ≠ g := by
    rintro rfl
    exact hn hr.symm
  have hg : some g = r := hr
  have h1 := put3_row ho ha (at_ l k)
  have h2 := put3_row h1 (k := k) (by simpa using hk) (at_ l a)
  have hK : Kept (fun k => some k = r) w (put3 (put3 w g a (at_ l k)) g k (at_ l a)) := put3_kept (X := fun k => some k = r) (put3_kept (X := fun k => some k = r) (Kept.refl _ _) hg _ _) hg _ _
  have e : ((l.set a (at_ l k)).set k (at_ l a)).length = l.length := by simp
  rw [e] at h2
  have hP : Pile (put3 (put3 w g a (at_ l k)) g k (at_ l a)) b j r (swp l a k) := by
    refine ⟨.slice (some ⟨g, 0, none⟩) l.length cap, ?_, ?_, hr, hn, ?_⟩
    · rw [put3_block hgb, put3_block hgb]; exact hc
    · rw [put3_frozen hgb, put3_frozen hgb]; exact hf
    · rw [swp_length]; exact h2
  exact ⟨rfl, hP.drew, hK.drew⟩

set_option maxHeartbeats 1000000 in
theorem swap_any {w : World} {b j : Nat} {r : Option Nat} {l : List It} (h : Pile w b j r l) (a k : Nat) (ha : a < l.length) (hk : k < l.length) (hne : a ≠ k) :
    Calls Try.prog 27 #[.pointer (some ⟨b, j, none⟩), .int .i64 (a : Int), .int .i64 (k : Int)] w (SwapPost w b j r (swp l a k)) := by
  obtain ⟨v, hc, hf, hr, hn, ho⟩ := h
  obtain ⟨g, cap, rfl⟩ : ∃ g cap, v = .slice (some ⟨g, 0, none⟩) l.length cap := by
    rcases ho.2 with ⟨rfl, h0⟩ | ⟨g, cap, cur, rfl, _⟩
    · omega
    · exact ⟨_, _, rfl⟩
  have HO : Hid (w.ownsRow 0 32 3 (.slice (some ⟨g, 0, none⟩) l.length cap) l.length (csL l)) := ho
  obtain ⟨a0, a1, a2⟩ := row_cells ho ha
  obtain ⟨k0, k1, k2⟩ := row_cells ho hk
  have fz : ∀ o, w.frozen? ⟨g, o, none⟩ = false := fun o => ho.frozenAt o
  have HR : Hid ((Value.slice (some ⟨g, 0, none⟩) l.length cap).ownBlock = r) := hr
  have HN : Hid (r ≠ some b) := hn
  have hgb : g ≠ b := by
    rintro rfl
    exact HN.out HR.out.symm
  have HF : Hid (SwapPost w b j r (swp l a k) (.returned (.tuple #[])) (put3 (put3 w g a (at_ l k)) g k (at_ l a)).drew) := swap_post hc hf HR.out HN.out ho ha hk
  clear ho hr hn
  generalize hx : at_ l a = x at *
  generalize hy : at_ l k = y at *
  have HX : Hid (at_ l a = x) := hx
  have HY : Hid (at_ l k = y) := hy
  clear hx hy
  obtain ⟨x0, x1, x2⟩ := x
  obtain ⟨y0, y1, y2⟩ := y
  simp only at *
  have HA : Hid (a < l.length) := ha
  have HK : Hid (k < l.length) := hk
  generalize hL : l.length = n at *
  have HLn : Hid (l.length = n) := hL
  clear hL
  go_enter Try.func27, Try.ntmps27
  go_wp2
  go_region
  go_end0
  exact HF.out
end Go.Proofs.Ytdhpphkkpjldfab
