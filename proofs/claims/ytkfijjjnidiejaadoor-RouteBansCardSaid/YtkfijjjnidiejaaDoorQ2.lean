/-
  route.Check: its walk.
-/
import Derived.Test.YtkfijjjnidiejaaDoorQ1
namespace Go.Proofs.YtkfijjjnidiejaaDoor
set_option maxRecDepth 100000
open Go Go.RowKit

/-- What a question on edges leaves. -/
structure EmX (bm gm cm R C : Nat) (ms : List UInt8) (w w' : World) : Prop where
  em : EM bm gm cm R C ms w'
  ts : ∀ k, TS bm gm w' k → TS bm gm w k ∨ w.heap.size ≤ k
  kp : Kept (fun k => k = bm) w w'
theorem EmX.refl {bm gm cm R C : Nat} {ms : List UInt8} {w : World} (h : EM bm gm cm R C ms w) : EmX bm gm cm R C ms w w := ⟨h, fun _ h => .inl h, Kept.refl _ _⟩
theorem EmX.trans {bm gm cm R C : Nat} {ms : List UInt8} {a b c : World} (h : EmX bm gm cm R C ms a b) (k : EmX bm gm cm R C ms b c) : EmX bm gm cm R C ms a c :=
  ⟨k.em, fun i hi => (k.ts i hi).elim (h.ts i) (fun h1 => .inr (Nat.le_trans h.kp.size h1)), h.kp.trans k.kp (fun _ _ h => h)⟩
theorem EmX.still {bm gm cm R C : Nat} {ms : List UInt8} {a b c : World} (h : EmX bm gm cm R C ms a b) (hk : Kept (fun _ => False) b c) : EmX bm gm cm R C ms a c := by
  obtain ⟨h1, h2⟩ := h.em.keptX hk (fun _ _ => id)
  exact ⟨h1, fun k hk' => h.ts k (h2 k hk'), h.kp.trans hk (fun _ _ h => h.elim)⟩
theorem emx_of {bm gm cm R C : Nat} {ms : List UInt8} {w w1 : World} (hE : EM bm gm cm R C ms w) (he : EM bm gm cm R C ms w1) (hg : w.grownBy w1 (some bm)) (hs : Done bm R C ms w → w1 = w) (hup : ∀ F, F ≤ w.heap.size → Up F bm w → Up F bm w1) : EmX bm gm cm R C ms w w1 := by
  refine ⟨he, fun k hk => ?_, (Kept.refl _ w).grown hg (fun k e => .inl (by injection e with e; exact e.symm))⟩
  rcases hE.st with hr | hd
  · have hu := hup w.heap.size (Nat.le_refl _) (up_ready hr)
    rcases hk with rfl | rfl | rfl | ⟨f, hf, q, n, c, hc, hh⟩
    · exact .inl (.inl rfl)
    · exact .inl (.inr (.inl rfl))
    · exact .inl (.inr (.inr (.inl rfl)))
    · obtain ⟨u1, u2⟩ := hu f hf q n c hc
      right
      rcases hh with rfl | ⟨j, hj, v', hv, hvk⟩
      · exact u1
      · exact u2 j hj v' hv k hvk
  · left
    rw [hs hd] at hk
    exact hk

set_option maxHeartbeats 800000 in
theorem edge_x {b g cap R C : Nat} {ms : List UInt8} {w : World} (i x : Int) (h : EM b g cap R C ms w) :
    Calls Tryd.prog 24 #[.pointer (some ⟨b, 0, none⟩), .int .i64 i, .int .i64 x] w fun e w' => e = .returned (.bool ((nextZ R C ms i).any (fun u => (u : Int) == x))) ∧ EmX b g cap R C ms w w' := by
  have hc2 := h.c2
  have hlen := h.len
  by_cases hi : 0 ≤ i ∧ i < (ms.length : Int)
  · obtain ⟨k, rfl⟩ := Int.eq_ofNat_of_zero_le hi.1
    have hk : k < ms.length := by omega
    have hl : nextZ R C ms (k : Int) = outs R C ms k := by unfold nextZ; rw [if_pos hi]; rfl
    rw [hl]
    have ho := outs_len R C ms k
    have hb : (decide (0 ≤ (k : Int)) && decide ((k : Int) < (ms.length : Int))) = true := by simp [hk]
    have HD : Hid (Calls Tryd.prog 36 #[.pointer (some ⟨b, 3, none⟩), .func (.func 37) #[.pointer (some ⟨b, 0, none⟩)] #[]] w fun e w' => e = .returned (.tuple #[]) ∧ Done b R C ms w' ∧ EmX b g cap R C ms w w') := (do_anyU h).mono fun e w' ⟨h1, h2, h3, h4, h5, h6⟩ => ⟨h1, h3, emx_of h h2 h4 h5 h6⟩
    have HN : Hid (∀ w', Done b R C ms w' → ∃ B gn v, w'.cell? ⟨b, 6, none⟩ = some (.slice (some ⟨gn, 0, none⟩) ms.length ms.length) ∧ w'.cell? ⟨gn, k, none⟩ = some v ∧ w'.ownsRow B 3 1 v (outs R C ms k).length ((outs R C ms k).map natV)) := fun w' hd => hd.next h.hC hk
    have HC : Hid (∀ w' B v, w'.ownsRow B 3 1 v (outs R C ms k).length ((outs R C ms k).map natV) → Calls Tryd.prog 41 #[v, .int .i64 x] w' fun e w'' => e = .returned (.bool ((outs R C ms k).any (fun u => (u : Int) == x))) ∧ w' = w'') := fun w' B v ho' => contains_any ho' x (by omega)
    have hki : (k : Int) < (ms.length : Int) := by omega
    have hk0 : 0 ≤ (k : Int) := by omega
    clear h hl hi
    generalize (outs R C ms k).any (fun u => (u : Int) == x) = r at HC ⊢
    go_enter Tryd.func24, Tryd.ntmps24
    go_wp2_with (first
      | (go_at_call 31; refine (has_any _ _ _ _ _ _ hc2).mono ?_; rintro e w' ⟨rfl, rfl⟩; rw [hb])
      | (go_at_call 36; (with_reducible refine HD.out.mono ?_); rintro e w1 ⟨rfl, hDn, hx⟩; have HX := Lib.hid hx; obtain ⟨B, gn, v, c6, ck, hown⟩ := HN.out w1 hDn; clear hDn hx)
      | (go_at_call 41; (with_reducible refine (HC.out _ _ _ hown).mono ?_); rintro e w2 ⟨rfl, rfl⟩))
    go_ret
    exact ⟨rfl, HX.out⟩
  · have hl : nextZ R C ms i = [] := by unfold nextZ; rw [if_neg hi]
    rw [hl]
    have hb : (decide (0 ≤ i) && decide (i < (ms.length : Int))) = false := by
      rw [Bool.eq_false_iff]; intro e; apply hi; simpa using e
    have HE := Lib.hid (EmX.refl h)
    clear h hl hi
    go_enter Tryd.func24, Tryd.ntmps24
    go_wp2_with (go_at_call 31; refine (has_any _ _ _ _ _ _ hc2).mono ?_; rintro e w' ⟨rfl, rfl⟩; rw [hb])
    go_ret
    exact ⟨rfl, HE.out⟩

/-! Check -/
def stepB (R C : Nat) (ms : List UInt8) (ban path : List Int) (i : Nat) : Bool := (nextZ R C ms (path.getD i 0)).any (fun u => (u : Int) == path.getD (i + 1) 0) && !(decide (path.getD (i + 1) 0 ∈ ban))
def checkZ (R C : Nat) (ms : List UInt8) (path ban : List Int) : Int :=
  if path.length = 0 ∨ freeB ms (path.getD 0 0) = false ∨ freeB ms (path.getD (path.length - 1) 0) = false then 2
  else if (List.range (path.length - 1)).all (stepB R C ms ban path) = true then 0 else 40

theorem ints_at {w : World} {A : Option Addr} {l : List Int} (h : IntsAt w A l) {j : Nat} (hj : j < l.length) : ∃ a, A = some a ∧ w.cell? (a.add j) = some (.int .i64 (l.getD j 0)) := by
  obtain ⟨a, e, _, h2⟩ := h j hj
  exact ⟨a, e, h2⟩
theorem IntsAt.keptX {w w' : World} {X : Nat → Prop} {A : Option Addr} {l : List Int} (h : IntsAt w A l) (hk : Kept X w w') (hX : ∀ a, A = some a → ¬ X a.block) : IntsAt w' A l := by
  intro j hj
  obtain ⟨a, e, h1, h2⟩ := h j hj
  have hbk : (a.add j).block = a.block := by unfold Addr.add; split <;> rfl
  exact ⟨a, e, Nat.lt_of_lt_of_le h1 hk.size, hk.cell h2 (by rw [hbk]; exact hX a e)⟩

end Go.Proofs.YtkfijjjnidiejaaDoor
