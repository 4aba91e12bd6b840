/-
  The walks of grid.Map's Next, Back, Edge, Edges, Far.
-/
import Derived.Test.YtlkojoinbogkmaaDoorEM
namespace Go.Proofs.YtlkojoinbogkmaaDoor
set_option maxRecDepth 100000
open Go.RowKit

/-- The cells that are gone to from cell i; none, if there is no such cell. -/
def nextZ (R C : Nat) (ms : List UInt8) (i : Int) : List Nat := if 0 ≤ i ∧ i < (ms.length : Int) then outs R C ms i.toNat else []
/-- The cells that go to cell u. -/
def ins (R C : Nat) (ms : List UInt8) (u : Nat) : List Nat := (List.range ms.length).filter (fun i => decide (u ∈ outs R C ms i))
def backZ (R C : Nat) (ms : List UInt8) (i : Int) : List Nat := if 0 ≤ i ∧ i < (ms.length : Int) then ins R C ms i.toNat else []

/-- What Next and Back leave: a list of new memory. -/
def TabPost (b g cap R C : Nat) (ms : List UInt8) (w : World) (i : Int) (l : List Nat) (e : Ending) (w' : World) : Prop :=
  ∃ v w1, e = .returned v ∧ EM b g cap R C ms w1 ∧ w.grownBy w1 (some b) ∧ (Done b R C ms w → w1 = w) ∧ (0 ≤ i ∧ i < (ms.length : Int) → Done b R C ms w1) ∧ w'.ownsRow w1.heap.size 3 1 v l.length (l.map natV) ∧ Below w1.heap.size w1 w'

theorem Done.next {b R C : Nat} {ms : List UInt8} {w : World} (h : Done b R C ms w) (hC : 1 ≤ C) {k : Nat} (hk : k < ms.length) :
    ∃ B gn v, w.cell? ⟨b, 6, none⟩ = some (.slice (some ⟨gn, 0, none⟩) ms.length ms.length) ∧ w.cell? ⟨gn, k, none⟩ = some v ∧ w.ownsRow B 3 1 v (outs R C ms k).length ((outs R C ms k).map natV) := by
  have _ := hC
  obtain ⟨B, gn, gb, T, hT, h6, h7⟩ := h.tables
  have h1 := hT.cell k (by omega)
  have h2 := hT.own k (by omega)
  rw [loc_lo hk] at h1
  rw [tabs_lo hk, if_pos hk] at h2
  exact ⟨B, gn, T k, h6, h1, h2⟩

theorem Done.back {b R C : Nat} {ms : List UInt8} {w : World} (h : Done b R C ms w) (hC : 1 ≤ C) {k : Nat} (hk : k < ms.length) :
    ∃ B gb v, w.cell? ⟨b, 7, none⟩ = some (.slice (some ⟨gb, 0, none⟩) ms.length ms.length) ∧ w.cell? ⟨gb, k, none⟩ = some v ∧ w.ownsRow B 3 1 v (ins R C ms k).length ((ins R C ms k).map natV) := by
  obtain ⟨B, gn, gb, T, hT, h6, h7⟩ := h.tables
  have h1 := hT.cell (ms.length + k) (by omega)
  have h2 := hT.own (ms.length + k) (by omega)
  rw [loc_hi] at h1
  rw [tabs_hi hC _ (Nat.le_refl _)] at h2
  exact ⟨B, gb, T (ms.length + k), h7, h1, h2⟩

theorem nat_one (l : List Nat) : ∀ u ∈ l.map natV, u.oneCell' = true := by
  intro u hu
  obtain ⟨x, _, rfl⟩ := List.mem_map.1 hu
  rfl

theorem EM.len {b g cap R C : Nat} {ms : List UInt8} {w : World} (h : EM b g cap R C ms w) : ms.length ≤ 1024 := by
  rw [← h.hN]; exact Nat.mul_le_mul h.hR h.hC2

theorem ins_len (R C : Nat) (ms : List UInt8) (u : Nat) : (ins R C ms u).length ≤ ms.length := Nat.le_trans (List.length_filter_le _ _) (by simp)

set_option maxHeartbeats 800000 in
theorem next_any {b g cap R C : Nat} {ms : List UInt8} {w : World} (i : Int) (h : EM b g cap R C ms w) :
    Calls Tryd.prog 10 #[.pointer (some ⟨b, 0, none⟩), .int .i64 i] w (TabPost b g cap R C ms w i (nextZ R C ms i)) := by
  have hc2 := h.c2
  have hlen := h.len
  by_cases hi : 0 ≤ i ∧ i < (ms.length : Int)
  · obtain ⟨k, rfl⟩ := Int.eq_ofNat_of_zero_le hi.1
    have hk : k < ms.length := by omega
    have hl : nextZ R C ms (k : Int) = outs R C ms k := by unfold nextZ; rw [if_pos hi]; rfl
    rw [hl]
    have ho := outs_len R C ms k
    have hb : (decide (0 ≤ (k : Int)) && decide ((k : Int) < (ms.length : Int))) = true := by simp [hk]
    have HD : Hid (Calls Tryd.prog 31 #[.pointer (some ⟨b, 3, none⟩), .func (.func 32) #[.pointer (some ⟨b, 0, none⟩)] #[]] w fun e w' => e = .returned (.tuple #[]) ∧ EM b g cap R C ms w' ∧ Done b R C ms w' ∧ w.grownBy w' (some b) ∧ (Done b R C ms w → w' = w)) := do_any h
    have HN : Hid (∀ w', Done b R C ms w' → ∃ B gn v, w'.cell? ⟨b, 6, none⟩ = some (.slice (some ⟨gn, 0, none⟩) ms.length ms.length) ∧ w'.cell? ⟨gn, k, none⟩ = some v ∧ w'.ownsRow B 3 1 v (outs R C ms k).length ((outs R C ms k).map natV)) := fun w' hd => hd.next h.hC hk
    have hki : (k : Int) < (ms.length : Int) := by omega
    have hk0 : 0 ≤ (k : Int) := by omega
    have hone := nat_one (outs R C ms k)
    clear h hl hi
    go_enter Tryd.func10, Tryd.ntmps10
    go_wp2_with (first
      | (go_at_call 30; refine (has_any _ _ _ _ _ _ hc2).mono ?_; rintro e w' ⟨rfl, rfl⟩; rw [hb])
      | (go_at_call 31; (with_reducible refine HD.out.mono ?_); rintro e w1 ⟨rfl, hE, hDn, hg, hsm⟩; have HS : Hid (Done b R C ms w → w1 = w) := hsm; have HDn : Hid (Done b R C ms w1) := hDn; clear hsm; obtain ⟨B, gn, v, c6, ck, hown⟩ := HN.out w1 hDn; have HE : Hid (EM b g cap R C ms w1) := hE; have HG : Hid (w.grownBy w1 (some b)) := hg; clear hE hDn hg)
      | (go_at_call 33; (with_reducible refine (clone_any hown (by omega) hone).mono ?_); rintro e w2 ⟨v', rfl, hown2, hb2⟩))
    go_ret
    exact ⟨v', w1, rfl, HE.out, HG.out, HS.out, fun _ => HDn.out, hown2, hb2⟩
  · have hl : nextZ R C ms i = [] := by unfold nextZ; rw [if_neg hi]
    rw [hl]
    have hb : (decide (0 ≤ i) && decide (i < (ms.length : Int))) = false := by
      rw [Bool.eq_false_iff]; intro e; apply hi; simpa using e
    have HE : Hid (EM b g cap R C ms w) := h
    have HI : Hid (¬ (0 ≤ i ∧ i < (ms.length : Int))) := hi
    clear h hl hi
    go_enter Tryd.func10, Tryd.ntmps10
    go_wp2_with (go_at_call 30; refine (has_any _ _ _ _ _ _ hc2).mono ?_; rintro e w' ⟨rfl, rfl⟩; rw [hb])
    go_ret
    exact ⟨_, w, rfl, HE.out, ⟨rfl, rfl, rfl, Nat.le_refl _, fun _ _ _ => rfl⟩, fun _ => rfl, fun h => (HI.out h).elim, World.ownsRow_nil _ _ _ _, Below.refl _ _⟩

set_option maxHeartbeats 800000 in
theorem back_any {b g cap R C : Nat} {ms : List UInt8} {w : World} (i : Int) (h : EM b g cap R C ms w) :
    Calls Tryd.prog 13 #[.pointer (some ⟨b, 0, none⟩), .int .i64 i] w (TabPost b g cap R C ms w i (backZ R C ms i)) := by
  have hc2 := h.c2
  have hlen := h.len
  by_cases hi : 0 ≤ i ∧ i < (ms.length : Int)
  · obtain ⟨k, rfl⟩ := Int.eq_ofNat_of_zero_le hi.1
    have hk : k < ms.length := by omega
    have hl : backZ R C ms (k : Int) = ins R C ms k := by unfold backZ; rw [if_pos hi]; rfl
    rw [hl]
    have ho := ins_len R C ms k
    have hb : (decide (0 ≤ (k : Int)) && decide ((k : Int) < (ms.length : Int))) = true := by simp [hk]
    have HD : Hid (Calls Tryd.prog 31 #[.pointer (some ⟨b, 3, none⟩), .func (.func 32) #[.pointer (some ⟨b, 0, none⟩)] #[]] w fun e w' => e = .returned (.tuple #[]) ∧ EM b g cap R C ms w' ∧ Done b R C ms w' ∧ w.grownBy w' (some b) ∧ (Done b R C ms w → w' = w)) := do_any h
    have HN : Hid (∀ w', Done b R C ms w' → ∃ B gn v, w'.cell? ⟨b, 7, none⟩ = some (.slice (some ⟨gn, 0, none⟩) ms.length ms.length) ∧ w'.cell? ⟨gn, k, none⟩ = some v ∧ w'.ownsRow B 3 1 v (ins R C ms k).length ((ins R C ms k).map natV)) := fun w' hd => hd.back h.hC hk
    have hki : (k : Int) < (ms.length : Int) := by omega
    have hk0 : 0 ≤ (k : Int) := by omega
    have hone := nat_one (ins R C ms k)
    clear h hl hi
    go_enter Tryd.func13, Tryd.ntmps13
    go_wp2_with (first
      | (go_at_call 30; refine (has_any _ _ _ _ _ _ hc2).mono ?_; rintro e w' ⟨rfl, rfl⟩; rw [hb])
      | (go_at_call 31; (with_reducible refine HD.out.mono ?_); rintro e w1 ⟨rfl, hE, hDn, hg, hsm⟩; have HS : Hid (Done b R C ms w → w1 = w) := hsm; have HDn : Hid (Done b R C ms w1) := hDn; clear hsm; obtain ⟨B, gn, v, c6, ck, hown⟩ := HN.out w1 hDn; have HE : Hid (EM b g cap R C ms w1) := hE; have HG : Hid (w.grownBy w1 (some b)) := hg; clear hE hDn hg)
      | (go_at_call 33; (with_reducible refine (clone_any hown (by omega) hone).mono ?_); rintro e w2 ⟨v', rfl, hown2, hb2⟩))
    go_ret
    exact ⟨v', w1, rfl, HE.out, HG.out, HS.out, fun _ => HDn.out, hown2, hb2⟩
  · have hl : backZ R C ms i = [] := by unfold backZ; rw [if_neg hi]
    rw [hl]
    have hb : (decide (0 ≤ i) && decide (i < (ms.length : Int))) = false := by
      rw [Bool.eq_false_iff]; intro e; apply hi; simpa using e
    have HE : Hid (EM b g cap R C ms w) := h
    have HI : Hid (¬ (0 ≤ i ∧ i < (ms.length : Int))) := hi
    clear h hl hi
    go_enter Tryd.func13, Tryd.ntmps13
    go_wp2_with (go_at_call 30; refine (has_any _ _ _ _ _ _ hc2).mono ?_; rintro e w' ⟨rfl, rfl⟩; rw [hb])
    go_ret
    exact ⟨_, w, rfl, HE.out, ⟨rfl, rfl, rfl, Nat.le_refl _, fun _ _ _ => rfl⟩, fun _ => rfl, fun h => (HI.out h).elim, World.ownsRow_nil _ _ _ _, Below.refl _ _⟩

set_option maxHeartbeats 800000 in
theorem medge_any {b g cap R C : Nat} {ms : List UInt8} {w : World} (i x : Int) (h : EM b g cap R C ms w) :
    Calls Tryd.prog 15 #[.pointer (some ⟨b, 0, none⟩), .int .i64 i, .int .i64 x] w fun e w' => e = .returned (.bool ((nextZ R C ms i).any (fun u => (u : Int) == x))) ∧ EM b g cap R C ms w' ∧ w.grownBy w' (some b) := by
  have hc2 := h.c2
  have hlen := h.len
  by_cases hi : 0 ≤ i ∧ i < (ms.length : Int)
  · obtain ⟨k, rfl⟩ := Int.eq_ofNat_of_zero_le hi.1
    have hk : k < ms.length := by omega
    have hl : nextZ R C ms (k : Int) = outs R C ms k := by unfold nextZ; rw [if_pos hi]; rfl
    rw [hl]
    have ho := outs_len R C ms k
    have hb : (decide (0 ≤ (k : Int)) && decide ((k : Int) < (ms.length : Int))) = true := by simp [hk]
    have HD : Hid (Calls Tryd.prog 31 #[.pointer (some ⟨b, 3, none⟩), .func (.func 32) #[.pointer (some ⟨b, 0, none⟩)] #[]] w fun e w' => e = .returned (.tuple #[]) ∧ EM b g cap R C ms w' ∧ Done b R C ms w' ∧ w.grownBy w' (some b) ∧ (Done b R C ms w → w' = w)) := do_any h
    have HN : Hid (∀ w', Done b R C ms w' → ∃ B gn v, w'.cell? ⟨b, 6, none⟩ = some (.slice (some ⟨gn, 0, none⟩) ms.length ms.length) ∧ w'.cell? ⟨gn, k, none⟩ = some v ∧ w'.ownsRow B 3 1 v (outs R C ms k).length ((outs R C ms k).map natV)) := fun w' hd => hd.next h.hC hk
    have HC : Hid (∀ w' B v, w'.ownsRow B 3 1 v (outs R C ms k).length ((outs R C ms k).map natV) → Calls Tryd.prog 34 #[v, .int .i64 x] w' fun e w'' => e = .returned (.bool ((outs R C ms k).any (fun u => (u : Int) == x))) ∧ w' = w'') := fun w' B v ho' => contains_any ho' x (by omega)
    have hki : (k : Int) < (ms.length : Int) := by omega
    have hk0 : 0 ≤ (k : Int) := by omega
    clear h hl hi
    generalize (outs R C ms k).any (fun u => (u : Int) == x) = r at HC ⊢
    go_enter Tryd.func15, Tryd.ntmps15
    go_wp2_with (first
      | (go_at_call 30; refine (has_any _ _ _ _ _ _ hc2).mono ?_; rintro e w' ⟨rfl, rfl⟩; rw [hb])
      | (go_at_call 31; (with_reducible refine HD.out.mono ?_); rintro e w1 ⟨rfl, hE, hDn, hg, hsm⟩; have HS : Hid (Done b R C ms w → w1 = w) := hsm; have HDn : Hid (Done b R C ms w1) := hDn; clear hsm; obtain ⟨B, gn, v, c6, ck, hown⟩ := HN.out w1 hDn; have HE : Hid (EM b g cap R C ms w1) := hE; have HG : Hid (w.grownBy w1 (some b)) := hg; clear hE hDn hg)
      | (go_at_call 34; (with_reducible refine (HC.out _ _ _ hown).mono ?_); rintro e w2 ⟨rfl, rfl⟩))
    go_ret
    exact ⟨rfl, HE.out, HG.out⟩
  · have hl : nextZ R C ms i = [] := by unfold nextZ; rw [if_neg hi]
    rw [hl]
    have hb : (decide (0 ≤ i) && decide (i < (ms.length : Int))) = false := by
      rw [Bool.eq_false_iff]; intro e; apply hi; simpa using e
    have HE : Hid (EM b g cap R C ms w) := h
    clear h hl hi
    go_enter Tryd.func15, Tryd.ntmps15
    go_wp2_with (go_at_call 30; refine (has_any _ _ _ _ _ _ hc2).mono ?_; rintro e w' ⟨rfl, rfl⟩; rw [hb])
    go_ret
    exact ⟨rfl, HE.out, ⟨rfl, rfl, rfl, Nat.le_refl _, fun _ _ _ => rfl⟩⟩

set_option maxHeartbeats 800000 in
theorem edges_any {b g cap R C : Nat} {ms : List UInt8} {w : World} (h : EM b g cap R C ms w) :
    Calls Tryd.prog 19 #[.pointer (some ⟨b, 0, none⟩)] w fun e w' => e = .returned (.int .i64 (eds R C ms ms.length : Int)) ∧ EM b g cap R C ms w' ∧ w.grownBy w' (some b) := by
  have HD : Hid (Calls Tryd.prog 31 #[.pointer (some ⟨b, 3, none⟩), .func (.func 32) #[.pointer (some ⟨b, 0, none⟩)] #[]] w fun e w' => e = .returned (.tuple #[]) ∧ EM b g cap R C ms w' ∧ Done b R C ms w' ∧ w.grownBy w' (some b) ∧ (Done b R C ms w → w' = w)) := do_any h
  clear h
  go_enter Tryd.func19, Tryd.ntmps19
  go_wp2_with (go_at_call 31; (with_reducible refine HD.out.mono ?_); rintro e w1 ⟨rfl, hE, hDn, hg, hsm⟩; have HS : Hid (Done b R C ms w → w1 = w) := hsm; clear hsm; have c8 := hDn.cnt; have HE : Hid (EM b g cap R C ms w1) := hE; have HG : Hid (w.grownBy w1 (some b)) := hg; clear hE hDn hg)
  go_ret
  exact ⟨rfl, HE.out, HG.out⟩
end Go.Proofs.YtlkojoinbogkmaaDoor
