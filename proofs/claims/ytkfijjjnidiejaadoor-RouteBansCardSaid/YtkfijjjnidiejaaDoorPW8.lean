/-
  The pile by what it holds, in order: Push, Pop, Top, Len.
-/
import Derived.Test.YtkfijjjnidiejaaDoorPW4
import Derived.Test.YtkfijjjnidiejaaDoorPW7
namespace Go.Proofs.YtkfijjjnidiejaaDoor
set_option maxRecDepth 100000
open Go Go.RowKit Pq

/-- A pile that holds s. -/
def PileS (w : World) (b j : Nat) (r : Option Nat) (s : List It) : Prop := ∃ l, Pile w b j r l ∧ Heap l ∧ l.Perm s ∧ Srt s

theorem PileS.lt {w : World} {b j : Nat} {r : Option Nat} {s : List It} (h : PileS w b j r s) : ∀ k, Of b r k → k < w.heap.size := by
  obtain ⟨l, hp, _⟩ := h
  exact hp.lt
theorem PileS.kept {w w' : World} {b j : Nat} {r : Option Nat} {s : List It} {X : Nat → Prop} (h : PileS w b j r s) (hk : Kept X w w') (hX : ∀ k, Of b r k → ¬ X k) : PileS w' b j r s := by
  obtain ⟨l, hp, h2⟩ := h
  exact ⟨l, hp.kept hk hX, h2⟩
theorem PileS.below {w w' : World} {b j : Nat} {r : Option Nat} {s : List It} {B : Nat} (h : PileS w b j r s) (hb : Below B w w') (hB : w.heap.size ≤ B) : PileS w' b j r s :=
  h.kept (Kept.of_below (X := fun _ => False) hb hB) (fun _ _ => id)
theorem PileS.drewN {w : World} {b j : Nat} {r : Option Nat} {s : List It} (h : PileS w b j r s) (n : Nat) : PileS (w.drewN n) b j r s := h
theorem PileS.drew {w : World} {b j : Nat} {r : Option Nat} {s : List It} (h : PileS w b j r s) : PileS w.drew b j r s := h
theorem PileS.alloc {w : World} {b j : Nat} {r : Option Nat} {s : List It} (h : PileS w b j r s) (o : Obj) : PileS (w.alloc o) b j r s := h.kept ((Kept.refl (fun _ => False) w).alloc o) (fun _ _ => id)
theorem PileS.srt {w : World} {b j : Nat} {r : Option Nat} {s : List It} (h : PileS w b j r s) : Srt s := by
  obtain ⟨l, _, _, _, h4⟩ := h
  exact h4
/-- A pile's blocks hold cells. -/
theorem PileS.others {w w' : World} {b j : Nat} {r : Option Nat} {s : List It} (h : PileS w b j r s) (hk : Kept (Of b r) w w') : ∀ (k : Nat) (o : Obj), w.heap[k]? = some o → (∀ c t f, o ≠ .cells c t f) → w'.heap[k]? = some o := by
  intro k o ho hn
  rw [hk.block k (Array.getElem?_eq_some_iff.1 ho).1 ?_, ho]
  obtain ⟨l, ⟨v, hc, hf, hr, hne, hown⟩, _⟩ := h
  rintro (rfl | hkr)
  · have : w.heap[k]? ≠ some o := by
      intro e
      unfold World.cell? at hc
      simp only [e] at hc
      cases o with
      | cells c t f => exact hn c t f rfl
      | _ => simp at hc
    exact this ho
  · rcases hown.2 with ⟨rfl, _⟩ | ⟨g, cap, cur, rfl, _, hg, _⟩
    · rw [← hr] at hkr; cases hkr
    · rw [← hr] at hkr
      have : k = g := by simpa [Value.ownBlock] using hkr
      subst this
      rw [ho] at hg
      exact hn _ _ _ (Option.some.inj hg)

/-- The blocks are the elder ones, or new. -/
def Newer (w : World) (r r' : Option Nat) : Prop := ∀ k, some k = r' → some k = r ∨ w.heap.size ≤ k

def PushS (w : World) (b j : Nat) (r : Option Nat) (s : List It) (x : It) (e : Ending) (w' : World) : Prop :=
  e = .returned (.tuple #[]) ∧ ∃ r', PileS w' b j r' (ins x s) ∧ Kp b j r w w' ∧ Newer w r r'
theorem push_s {w : World} {b j : Nat} {r : Option Nat} {s : List It} (h : PileS w b j r s) (x : It) (hl : s.length ≤ 10000) :
    Calls Tryd.prog 46 #[.pointer (some ⟨b, j, none⟩), .agg #[.int .i64 x.c, .int .i64 x.t, .int .i64 x.i]] w (PushS w b j r s x) := by
  obtain ⟨l, hp, hh, hpm, hs⟩ := h
  refine (push_any hp hh x (by rw [hpm.length_eq]; exact hl)).mono ?_
  rintro e w' ⟨he, r', l', hp', hh', hpm', hk, hr⟩
  exact ⟨he, r', ⟨l', hp', hh', hpm'.trans ((hpm.cons x).trans (ins_perm x s).symm), ins_srt x hs⟩, hk, hr⟩

def PopS (w : World) (b j : Nat) (r : Option Nat) (x : It) (s : List It) (e : Ending) (w' : World) : Prop :=
  e = .returned (.tuple #[.agg #[.int .i64 x.c, .int .i64 x.t, .int .i64 x.i], .bool true]) ∧ PileS w' b j r s ∧ Kp b j r w w'
theorem pop_s {w : World} {b j : Nat} {r : Option Nat} {x : It} {s : List It} (h : PileS w b j r (x :: s)) (hl : s.length ≤ 9999) :
    Calls Tryd.prog 48 #[.pointer (some ⟨b, j, none⟩)] w (PopS w b j r x s) := by
  obtain ⟨l, hp, hh, hpm, hs⟩ := h
  have hll : l.length = s.length + 1 := by rw [hpm.length_eq]; rfl
  obtain ⟨s', e, h1, h2⟩ := heap_head hh hs hpm (by omega)
  injection e with e1 e2
  subst e1 e2
  refine (pop_some hp hh (by omega) (by omega)).mono ?_
  rintro e w' ⟨he, l', hp', hh', hpm', hk⟩
  exact ⟨he, ⟨l', hp', hh', hpm'.trans h1, h2⟩, hk⟩

def NoItem (w : World) (e : Ending) (w' : World) : Prop :=
  e = .returned (.tuple #[.agg #[.int .i64 0, .int .i64 0, .int .i64 0], .bool false]) ∧ Below w.heap.size w w'

theorem nil_of {w : World} {b j : Nat} {r : Option Nat} (h : PileS w b j r []) : Pile w b j r [] := by
  obtain ⟨l, hp, hh, hpm, hs⟩ := h
  rw [List.perm_nil] at hpm
  subst hpm
  exact hp

set_option maxHeartbeats 400000 in
theorem pop_nil {w : World} {b j : Nat} {r : Option Nat} (h : PileS w b j r []) :
    Calls Tryd.prog 48 #[.pointer (some ⟨b, j, none⟩)] w (NoItem w) := by
  have HT : Hid (∀ o, Calls Tryd.prog 64 #[.pointer (some ⟨b, j, none⟩)] (w.alloc o) fun e w' => e = .returned (.tuple #[.agg #[.int .i64 0, .int .i64 0, .int .i64 0], .bool false]) ∧ Below (w.alloc o).heap.size (w.alloc o) w') := fun o => top_empty ((nil_of h).kept ((Kept.refl (fun _ => False) w).alloc o) (fun _ _ => id))
  clear h
  go_enter Tryd.func48, Tryd.ntmps48
  go_wp2_with fail
  refine (HT.out _).mono ?_
  rintro e w1 ⟨rfl, hb1⟩
  have hz1 : w.heap.size + 1 ≤ w1.heap.size := by have := hb1.size; simpa using this
  have hR : w1.heap[w.heap.size]? = some (.cells #[.int .i64 0, .int .i64 0, .int .i64 0] 89 (0, 0)) := by
    rw [hb1.block _ (by simp)]
    exact heap_alloc_new w _
  have q20 : w1.cell? ⟨w.heap.size, 0, none⟩ = some (.int .i64 0) := by rw [blk_cell hR]; rfl
  have q21 : w1.cell? ⟨w.heap.size, 1, none⟩ = some (.int .i64 0) := by rw [blk_cell hR]; rfl
  have q22 : w1.cell? ⟨w.heap.size, 2, none⟩ = some (.int .i64 0) := by rw [blk_cell hR]; rfl
  have qf : ∀ k, w1.frozen? ⟨w.heap.size, k, none⟩ = false := fun k => blk_free hR k
  have r20 := cell_a1 q20
  have r21 := cell_a1 q21
  have r22 := cell_a1 q22
  have rf := fun k => frz_a1 (qf k) (by omega)
  have HB : Hid (Below w.heap.size w w1) := ((Below.refl w.heap.size w).alloc (Nat.le_refl _) _).trans (hb1.mono (by simp))
  clear hb1 hR
  go_wp2
  refine bodyPost_ret (v := .tuple #[.agg #[.int .i64 0, .int .i64 0, .int .i64 0], .bool false]) (by simp [results, Tryd.results48, go_sem, r20, r21, r22]) rfl ⟨rfl, ?_⟩
  exact (((HB.out.alloc (by omega) _).setCell (p := ⟨w.heap.size, 0, none⟩) (Nat.le_refl _) _).setCell (p := ⟨w.heap.size, 1, none⟩) (Nat.le_refl _) _).setCell (p := ⟨w.heap.size, 2, none⟩) (Nat.le_refl _) _

set_option maxHeartbeats 400000 in
theorem pop_none (w : World) :
    Calls Tryd.prog 48 #[.pointer none] w (NoItem w) := by
  go_enter Tryd.func48, Tryd.ntmps48
  go_wp2_with fail
  refine (top_none _).mono ?_
  rintro e w1 ⟨rfl, hb1⟩
  have hz1 : w.heap.size + 1 ≤ w1.heap.size := by have := hb1.size; simpa using this
  have hR : w1.heap[w.heap.size]? = some (.cells #[.int .i64 0, .int .i64 0, .int .i64 0] 89 (0, 0)) := by
    rw [hb1.block _ (by simp)]
    exact heap_alloc_new w _
  have q20 : w1.cell? ⟨w.heap.size, 0, none⟩ = some (.int .i64 0) := by rw [blk_cell hR]; rfl
  have q21 : w1.cell? ⟨w.heap.size, 1, none⟩ = some (.int .i64 0) := by rw [blk_cell hR]; rfl
  have q22 : w1.cell? ⟨w.heap.size, 2, none⟩ = some (.int .i64 0) := by rw [blk_cell hR]; rfl
  have qf : ∀ k, w1.frozen? ⟨w.heap.size, k, none⟩ = false := fun k => blk_free hR k
  have r20 := cell_a1 q20
  have r21 := cell_a1 q21
  have r22 := cell_a1 q22
  have rf := fun k => frz_a1 (qf k) (by omega)
  have HB : Hid (Below w.heap.size w w1) := ((Below.refl w.heap.size w).alloc (Nat.le_refl _) _).trans (hb1.mono (by simp))
  clear hb1 hR
  go_wp2
  refine bodyPost_ret (v := .tuple #[.agg #[.int .i64 0, .int .i64 0, .int .i64 0], .bool false]) (by simp [results, Tryd.results48, go_sem, r20, r21, r22]) rfl ⟨rfl, ?_⟩
  exact (((HB.out.alloc (by omega) _).setCell (p := ⟨w.heap.size, 0, none⟩) (Nat.le_refl _) _).setCell (p := ⟨w.heap.size, 1, none⟩) (Nat.le_refl _) _).setCell (p := ⟨w.heap.size, 2, none⟩) (Nat.le_refl _) _

theorem top_s {w : World} {b j : Nat} {r : Option Nat} {x : It} {s : List It} (h : PileS w b j r (x :: s)) :
    Calls Tryd.prog 64 #[.pointer (some ⟨b, j, none⟩)] w fun e w' => e = .returned (.tuple #[.agg #[.int .i64 x.c, .int .i64 x.t, .int .i64 x.i], .bool true]) ∧ Below w.heap.size w w' := by
  obtain ⟨l, hp, hh, hpm, hs⟩ := h
  have hll : l.length = s.length + 1 := by rw [hpm.length_eq]; rfl
  obtain ⟨s', e, h1, h2⟩ := heap_head hh hs hpm (by omega)
  injection e with e1 e2
  subst e1
  exact top_some hp (by omega)
theorem top_nil {w : World} {b j : Nat} {r : Option Nat} (h : PileS w b j r []) :
    Calls Tryd.prog 64 #[.pointer (some ⟨b, j, none⟩)] w (NoItem w) := top_empty (nil_of h)
theorem len_s {w : World} {b j : Nat} {r : Option Nat} {s : List It} (h : PileS w b j r s) :
    Calls Tryd.prog 81 #[.pointer (some ⟨b, j, none⟩)] w fun e w' => e = .returned (.int .i64 (s.length : Int)) ∧ w = w' := by
  obtain ⟨l, hp, hh, hpm, hs⟩ := h
  rw [← hpm.length_eq]
  exact len_any hp
end Go.Proofs.YtkfijjjnidiejaaDoor
