/-
  The document's queue: Put, Raise.
-/
import Derived.Test.YtnecmlkljijofaaSpq1
import Derived.Deep.AppendLies
namespace Go.Proofs.Ytnecmlkljijofaa
set_option maxRecDepth 100000
set_option linter.unusedSimpArgs false
open Go Go.RowKit Sp
attribute [local go_sem] Oper.semAt_some

/-- What the document's queue's calls turn. -/
def OfR (b : Nat) (v : Value) (k : Nat) : Prop := k = b ∨ v.ownBlock = some k
theorem set_rq {w : World} {b : Nat} {g cap : Nat} {m : List Wt} {i : Nat} (h : RQ w b (.slice (some ⟨g, 0, none⟩) m.length cap) m) (hi : i < m.length) (y : Wt) :
    RQ (((w.setCell ⟨g, i * 3, none⟩ (.int .i64 y.r)).setCell ⟨g, i * 3 + 1, none⟩ (.int .u64 y.s)).setCell ⟨g, i * 3 + 2, none⟩ (.int .i64 y.p)) b (.slice (some ⟨g, 0, none⟩) m.length cap) (m.set i y) ∧
      Kept (OfR b (.slice (some ⟨g, 0, none⟩) m.length cap)) w (((w.setCell ⟨g, i * 3, none⟩ (.int .i64 y.r)).setCell ⟨g, i * 3 + 1, none⟩ (.int .u64 y.s)).setCell ⟨g, i * 3 + 2, none⟩ (.int .i64 y.p)) := by
  have hb := h.vlt (k := g) rfl
  have hk : Kept (fun k => k = g) w (((w.setCell ⟨g, i * 3, none⟩ (.int .i64 y.r)).setCell ⟨g, i * 3 + 1, none⟩ (.int .u64 y.s)).setCell ⟨g, i * 3 + 2, none⟩ (.int .i64 y.p)) :=
    (((Kept.refl (fun k => k = g) w).setCell (p := ⟨g, i * 3, none⟩) (.inl rfl) _).setCell (p := ⟨g, i * 3 + 1, none⟩) (.inl rfl) _).setCell (p := ⟨g, i * 3 + 2, none⟩) (.inl rfl) _
  refine ⟨⟨(hk.block b (blk_lt h.1) (by omega)).trans h.1, ?_⟩, hk.mono (fun k _ e => .inr (by subst e; rfl))⟩
  rw [List.length_set]
  exact row_set h.2 hi y
/-- Its places. -/
theorem RQ.places {w : World} {b : Nat} {v : Value} {m : List Wt} (h : RQ w b v m) {i : Nat} (hi : i < m.length) : ∃ g cap, v = .slice (some ⟨g, 0, none⟩) m.length cap ∧ (w.cell? ⟨g, i * 3, none⟩ = some (.int .i64 (m.getD i w0).r) ∧ w.cell? ⟨g, i * 3 + 1, none⟩ = some (.int .u64 (m.getD i w0).s) ∧ w.cell? ⟨g, i * 3 + 2, none⟩ = some (.int .i64 (m.getD i w0).p)) ∧ ∀ j, w.frozen? ⟨g, j, none⟩ = false := by
  obtain ⟨A, cap, rfl, hc⟩ := h.isW
  obtain ⟨g, rfl, c⟩ := hc i hi
  refine ⟨g, cap, rfl, c, fun j => ?_⟩
  rcases h.2.2 with ⟨h1, _⟩ | ⟨g', cap', cur, h1, hb, hg, _⟩
  · cases h1
  · injection h1 with e1
    injection e1 with e1
    injection e1 with e1
    subst e1
    exact blk_free hg j
theorem at_getD (m : List Wt) (r : Int) : m.getD (idx m r) w0 = at_ m r := rfl
/-- One comes behind all. -/
theorem snoc_rq {w W2 : World} {b : Nat} {v v' : Value} {m : List Wt} {y : Wt} {o : Obj} (h : RQ w b v m) (hg : (w.alloc o).grownBy W2 v.ownBlock) (ho : W2.ownsRow (b + 1) 40 3 v' (m.length + 1) (csA m ++ wc y)) (hv : v'.ownBlock = v.ownBlock ∨ ∀ k, v'.ownBlock = some k → w.heap.size ≤ k) :
    (W2.cell? ⟨b, 0, none⟩ = some v ∧ W2.frozen? ⟨b, 0, none⟩ = false) ∧ RQ (W2.setCell ⟨b, 0, none⟩ v') b v' (m ++ [y]) ∧ Kept (OfR b v) w (W2.setCell ⟨b, 0, none⟩ v') := by
  have hbl := h.lt
  have K1 : Kept (fun k => v.ownBlock = some k) w W2 := ((Kept.refl _ w).alloc o).grown hg (fun k e => .inl e)
  have b2 : W2.heap[b]? = some (.cells #[v] 47 (0, 0)) := (K1.block b hbl (fun e => by have := (h.vlt e).1; omega)).trans h.1
  have hne : ∀ k, v'.ownBlock = some k → ¬ k = b := by
    intro k hk
    rcases hv with e | e
    · rw [e] at hk; have := (h.vlt hk).1; omega
    · have := e k hk; omega
  refine ⟨⟨by rw [blk_cell b2]; rfl, blk_free b2 0⟩, ⟨by rw [blk_set b2]; rfl, ?_⟩, (K1.mono (Y := OfR b v) (fun _ _ e => .inr e)).setCell (p := ⟨b, 0, none⟩) (.inl (.inl rfl)) _⟩
  have e : csA (m ++ [y]) = csA m ++ wc y := by rw [csA_append]; simp [csA]
  have e2 : (m ++ [y]).length = m.length + 1 := by simp
  rw [e, e2]
  exact Kept.row ((Kept.refl (fun k => k = b) W2).setCell (p := ⟨b, 0, none⟩) (.inl rfl) _) ho hne

/-- What Put answers. -/
def rputB (m : List Wt) (w : Wt) : Bool := has m w.r || !decide (8 ≤ m.length)
/-- A call's contract. -/
def RPost (w : World) (b : Nat) (v : Value) (m' : List Wt) (r : Value) (e : Ending) (w' : World) : Prop := e = .returned r ∧ ∃ v', RQ w' b v' m' ∧ Kept (OfR b v) w w' ∧ (v'.ownBlock = v.ownBlock ∨ ∀ k, v'.ownBlock = some k → w.heap.size ≤ k)

theorem new_cells3 (W : World) (t : TypeId) (x : Nat) (c : List Value) (hx : x = W.heap.size) : ∀ j u, c[j]? = some u → (W.alloc (.cells c.toArray t)).cell? ((⟨x, 0, none⟩ : Addr).add j) = some u := by
  subst hx
  intro j u h
  have := World.news_of_block (World.alloc_heap_new W (.cells c.toArray t)) j u
  exact this h
set_option maxHeartbeats 4000000 in
theorem rput_any {w : World} {b : Nat} {v : Value} {m : List Wt} (h : RQ w b v m) (hm : m.length ≤ 8) (y : Wt) :
    Calls Try.prog 15 #[.pointer (some ⟨b, 0, none⟩), wv y] w (RPost w b v (if may y then rputL m y else m) (.tuple #[.bool (may y && rputB m y), .int .i64 (if may y then 0 else 2)])) := by
  obtain ⟨P, hP⟩ : ∃ P : Ending → World → Prop, P = RPost w b v (if may y then rputL m y else m) (.tuple #[.bool (may y && rputB m y), .int .i64 (if may y then 0 else 2)]) := ⟨_, rfl⟩
  have HP : Hid (∀ v' w', RQ w' b v' (if may y then rputL m y else m) → Kept (OfR b v) w w' → (v'.ownBlock = v.ownBlock ∨ ∀ k, v'.ownBlock = some k → w.heap.size ≤ k) → P (.returned (.tuple #[.bool (may y && rputB m y), .int .i64 (if may y then 0 else 2)])) w') := by
    rw [hP]; exact fun v' w' h1 h2 h3 => ⟨rfl, v', h1, h2, h3⟩
  rw [← hP]
  clear hP
  -- the box of what comes
  have HA : Hid (∃ Wa, w.alloc (.cells #[.int .i64 y.r, .int .u64 y.s, .int .i64 y.p] 40) = Wa ∧ Wa.heap[w.heap.size]? = some (.cells #[.int .i64 y.r, .int .u64 y.s, .int .i64 y.p] 40 (0, 0)) ∧ RQ Wa b v m ∧ Kept (fun _ => False) w Wa) := ⟨_, rfl, box3, h.still ((Kept.refl _ w).alloc _), (Kept.refl _ w).alloc _⟩
  have hbl := h.lt
  have hvl : Hid (∀ k, v.ownBlock = some k → k < w.heap.size) := fun k hk => (h.vlt hk).2
  by_cases hmy : may y = true
  · rw [hmy] at HP
    simp only [if_true, Bool.true_and] at HP
    have hmm := hmy
    unfold may at hmm
    simp only [Bool.and_eq_true, decide_eq_true_eq] at hmm
    obtain ⟨⟨⟨n1, n2⟩, n3⟩, n4⟩ := hmm
    have g1 : decide (y.r < 0) = false := by simp; omega
    have g2 : decide ((64 : Int) ≤ y.r) = false := by simp; omega
    have g3 : decide (y.p < 0) = false := by simp; omega
    have g4 : decide ((15 : Int) < y.p) = false := by simp; omega
    by_cases hh : has m y.r = true
    · have hi : idx m y.r < m.length := by simpa [has] using hh
      have hat : atI m y.r = ((idx m y.r : Nat) : Int) := by unfold atI; rw [if_pos hh]
      rw [show rputB m y = true by unfold rputB; rw [hh]; rfl] at HP
      have g5 : decide (((idx m y.r : Nat) : Int) < 0) = false := by simp
      by_cases hp : (at_ m y.r).p < y.p
      · rw [show rputL m y = m.set (idx m y.r) y by unfold rputL; rw [if_pos hh, if_pos hp]] at HP
        have g6 : decide ((at_ m y.r).p < y.p) = true := by simpa using hp
        clear h
        obtain ⟨Wa, hWa, hbx, hq, hka⟩ := HA.out
        have HF1 := Lib.hid (rfind_any hq hm y.r)
        rw [hat] at HF1
        obtain ⟨g, cap, rfl, ⟨c0, c1, c2⟩, hfz⟩ := hq.places hi
        rw [at_getD] at c0 c1 c2
        obtain ⟨hset, hks⟩ := set_rq (w := Wa.drew.drew) hq hi y
        have HF := Lib.hid (HP.out _ _ hset ((hka.drew.drew.mono (fun _ _ h => h.elim)).trans hks (fun _ _ h => h)) (.inl rfl))
        have hq0 := hq.cell.1
        have e0 : Wa.cell? ⟨w.heap.size, 0, none⟩ = some (.int .i64 y.r) := by rw [blk_cell hbx]; rfl
        have e1 : Wa.cell? ⟨w.heap.size, 1, none⟩ = some (.int .u64 y.s) := by rw [blk_cell hbx]; rfl
        have e2 : Wa.cell? ⟨w.heap.size, 2, none⟩ = some (.int .i64 y.p) := by rw [blk_cell hbx]; rfl
        have i0 : (0 : Int) ≤ ((idx m y.r : Nat) : Int) := by omega
        have i1 : ((idx m y.r : Nat) : Int) < ((m.length : Nat) : Int) := by omega
        have fz0 := hfz (idx m y.r * 3)
        have fz1 := hfz (idx m y.r * 3 + 1)
        have fz2 := hfz (idx m y.r * 3 + 2)
        have gl : g < w.heap.size := hvl.out g rfl
        clear HP hat hmy hh hset hks hka hfz hbx hq hi hvl
        generalize idx m y.r = i at *
        generalize (at_ m y.r).r = z0 at *
        generalize (at_ m y.r).s = z1 at *
        generalize (at_ m y.r).p = z2 at *
        generalize m.length = n at *
        obtain ⟨x0, x1, x2⟩ := y
        simp only [wv] at *
        go_enter Try.func15, Try.ntmps15
        go_wp2_with fail
        refine HF1.out.mono ?_
        rintro e W' ⟨rfl, rfl⟩
        clear HF1
        go_wp2_with fail
        have c2' : Wa.drew.cell? ⟨g, i * 3 + 2, none⟩ = some (.int .i64 z2) := c2
        have e2' : Wa.drew.cell? ⟨w.heap.size, 2, none⟩ = some (.int .i64 x2) := e2
        have q0' : Wa.drew.cell? ⟨b, 0, none⟩ = some (.slice (some ⟨g, 0, none⟩) n cap) := hq0
        go_region
        go_wp2_with fail
        obtain ⟨W1, hW1⟩ : ∃ W1, Wa.drew = W1 := ⟨_, rfl⟩
        have r0 : W1.cell? ⟨g, i * 3, none⟩ = some (.int .i64 z0) := by rw [← hW1]; exact c0
        have r1 : W1.cell? ⟨g, i * 3 + 1, none⟩ = some (.int .u64 z1) := by rw [← hW1]; exact c1
        have r2 : W1.cell? ⟨g, i * 3 + 2, none⟩ = some (.int .i64 z2) := by rw [← hW1]; exact c2
        have s0 : W1.frozen? ⟨g, i * 3, none⟩ = false := by rw [← hW1]; exact fz0
        have s1 : W1.frozen? ⟨g, i * 3 + 1, none⟩ = false := by rw [← hW1]; exact fz1
        have s2 : W1.frozen? ⟨g, i * 3 + 2, none⟩ = false := by rw [← hW1]; exact fz2
        have t0 : W1.cell? ⟨w.heap.size, 0, none⟩ = some (.int .i64 x0) := by rw [← hW1]; exact e0
        have t1 : W1.cell? ⟨w.heap.size, 1, none⟩ = some (.int .u64 x1) := by rw [← hW1]; exact e1
        have t2 : W1.cell? ⟨w.heap.size, 2, none⟩ = some (.int .i64 x2) := by rw [← hW1]; exact e2
        have u0 : W1.cell? ⟨b, 0, none⟩ = some (.slice (some ⟨g, 0, none⟩) n cap) := by rw [← hW1]; exact hq0
        rw [hW1] at HF ⊢
        clear hW1 c0 c1 c2 fz0 fz1 fz2 e0 e1 e2 hq0 c2' e2' q0' HA hWa
        have r0' : W1.drew.cell? ⟨g, i * 3, none⟩ = some (.int .i64 z0) := r0
        have r1' : W1.drew.cell? ⟨g, i * 3 + 1, none⟩ = some (.int .u64 z1) := r1
        have r2' : W1.drew.cell? ⟨g, i * 3 + 2, none⟩ = some (.int .i64 z2) := r2
        have s0' : W1.drew.frozen? ⟨g, i * 3, none⟩ = false := s0
        have s1' : W1.drew.frozen? ⟨g, i * 3 + 1, none⟩ = false := s1
        have s2' : W1.drew.frozen? ⟨g, i * 3 + 2, none⟩ = false := s2
        have t0' : W1.drew.cell? ⟨w.heap.size, 0, none⟩ = some (.int .i64 x0) := t0
        have t1' : W1.drew.cell? ⟨w.heap.size, 1, none⟩ = some (.int .u64 x1) := t1
        have t2' : W1.drew.cell? ⟨w.heap.size, 2, none⟩ = some (.int .i64 x2) := t2
        have u0' : W1.drew.cell? ⟨b, 0, none⟩ = some (.slice (some ⟨g, 0, none⟩) n cap) := u0
        go_region
        go_wp2
        exact HF.out
      · rw [show rputL m y = m by unfold rputL; rw [if_pos hh, if_neg hp]] at HP
        have g6 : decide ((at_ m y.r).p < y.p) = false := by simpa using hp
        clear h
        obtain ⟨Wa, hWa, hbx, hq, hka⟩ := HA.out
        have HF1 := Lib.hid (rfind_any hq hm y.r)
        rw [hat] at HF1
        obtain ⟨g, cap, rfl, ⟨c0, c1, c2⟩, hfz⟩ := hq.places hi
        rw [at_getD] at c0 c1 c2
        have HF := Lib.hid (HP.out _ _ (hq.still (Kept.refl _ Wa).drew) ((hka.drew.mono (fun _ _ h => h.elim))) (.inl rfl))
        have hq0 := hq.cell.1
        have e0 : Wa.cell? ⟨w.heap.size, 0, none⟩ = some (.int .i64 y.r) := by rw [blk_cell hbx]; rfl
        have e1 : Wa.cell? ⟨w.heap.size, 1, none⟩ = some (.int .u64 y.s) := by rw [blk_cell hbx]; rfl
        have e2 : Wa.cell? ⟨w.heap.size, 2, none⟩ = some (.int .i64 y.p) := by rw [blk_cell hbx]; rfl
        have i0 : (0 : Int) ≤ ((idx m y.r : Nat) : Int) := by omega
        have i1 : ((idx m y.r : Nat) : Int) < ((m.length : Nat) : Int) := by omega
        clear HP hat hmy hh hka hfz hbx hq hi hvl c0 c1
        generalize idx m y.r = i at *
        generalize (at_ m y.r).p = z2 at *
        generalize m.length = n at *
        obtain ⟨x0, x1, x2⟩ := y
        simp only [wv] at *
        go_enter Try.func15, Try.ntmps15
        go_wp2_with fail
        refine HF1.out.mono ?_
        rintro e W' ⟨rfl, rfl⟩
        clear HF1
        go_wp2_with fail
        have c2' : Wa.drew.cell? ⟨g, i * 3 + 2, none⟩ = some (.int .i64 z2) := c2
        have e2' : Wa.drew.cell? ⟨w.heap.size, 2, none⟩ = some (.int .i64 x2) := e2
        have q0' : Wa.drew.cell? ⟨b, 0, none⟩ = some (.slice (some ⟨g, 0, none⟩) n cap) := hq0
        go_region
        go_wp2
        exact HF.out
    · have hh' : has m y.r = false := by simpa using hh
      have hat : atI m y.r = -1 := by unfold atI; rw [if_neg hh]
      by_cases h8 : 8 ≤ m.length
      · rw [show rputL m y = m by unfold rputL; rw [if_neg hh, if_pos h8], show rputB m y = false by unfold rputB; rw [hh']; simp [h8]] at HP
        clear h
        obtain ⟨Wa, hWa, hbx, hq, hka⟩ := HA.out
        have HF1 := Lib.hid (rfind_any hq hm y.r)
        rw [hat] at HF1
        have HF := Lib.hid (HP.out _ _ hq (hka.mono (fun _ _ h => h.elim)) (.inl rfl))
        have hq0 := hq.cell.1
        obtain ⟨A, cap, rfl, _⟩ := hq.isW
        have e0 : Wa.cell? ⟨w.heap.size, 0, none⟩ = some (.int .i64 y.r) := by rw [blk_cell hbx]; rfl
        have e2 : Wa.cell? ⟨w.heap.size, 2, none⟩ = some (.int .i64 y.p) := by rw [blk_cell hbx]; rfl
        have g7 : decide ((8 : Int) ≤ ((m.length : Nat) : Int)) = true := by simp; omega
        have g8 : decide (8 ≤ m.length) = true := by simpa using h8
        clear HP hat hmy hh hh' hka hbx hq hvl h8
        generalize m.length = n at *
        obtain ⟨x0, x1, x2⟩ := y
        simp only [wv] at *
        go_enter Try.func15, Try.ntmps15
        go_wp2_with fail
        refine HF1.out.mono ?_
        rintro e W' ⟨rfl, rfl⟩
        clear HF1
        go_wp2
        exact HF.out
      · rw [show rputL m y = m ++ [y] by unfold rputL; rw [if_neg hh, if_neg h8], show rputB m y = true by unfold rputB; rw [hh']; simp [h8]] at HP
        clear h
        obtain ⟨Wa, hWa, hbx, hq, hka⟩ := HA.out
        have HF1 := Lib.hid (rfind_any hq hm y.r)
        rw [hat] at HF1
        obtain ⟨i0, hi, hz0, hz1, hz2⟩ := info_parts Try.infoWt3
        have hq0 := hq.cell.1
        have e0 : Wa.cell? ⟨w.heap.size, 0, none⟩ = some (.int .i64 y.r) := by rw [blk_cell hbx]; rfl
        have e1 : Wa.cell? ⟨w.heap.size, 1, none⟩ = some (.int .u64 y.s) := by rw [blk_cell hbx]; rfl
        have e2 : Wa.cell? ⟨w.heap.size, 2, none⟩ = some (.int .i64 y.p) := by rw [blk_cell hbx]; rfl
        have g7 : decide ((8 : Int) ≤ ((m.length : Nat) : Int)) = false := by simp; omega
        have g8 : decide (8 ≤ m.length) = false := by simpa using h8
        have HS : Hid (∀ t' w3 g cap2, (Wa.drew.alloc (.cells #[.int .i64 y.r, .int .u64 y.s, .int .i64 y.p] t')).grownBy w3 v.ownBlock → w3.ownsRow (b + 1) 40 3 (.slice (some ⟨g, 0, none⟩) (m.length + 1) cap2) (m.length + 1) (csA m ++ [.int .i64 y.r, .int .u64 y.s, .int .i64 y.p]) → (v.ownBlock = some g ∨ g = Wa.heap.size + 1) →
            (w3.cell? ⟨b, 0, none⟩ = some v ∧ w3.frozen? ⟨b, 0, none⟩ = false) ∧ P (.returned (.tuple #[.bool true, .int .i64 0])) (w3.setCell ⟨b, 0, none⟩ (.slice (some ⟨g, 0, none⟩) (m.length + 1) cap2))) := by
          intro t' w3 g cap2 h1 h2 h3
          have hv : (Value.slice (some ⟨g, 0, none⟩) (m.length + 1) cap2).ownBlock = v.ownBlock ∨ ∀ k, (Value.slice (some ⟨g, 0, none⟩) (m.length + 1) cap2).ownBlock = some k → Wa.heap.size ≤ k := by
            rcases h3 with h3 | h3
            · exact .inl h3.symm
            · refine .inr (fun k hk => ?_)
              have : g = k := by simpa [Value.ownBlock] using hk
              omega
          obtain ⟨a1, a2, a3⟩ := snoc_rq (w := Wa.drew) (y := y) (hq.still (Kept.refl _ Wa).drew) h1 h2 hv
          refine ⟨a1, HP.out _ _ a2 ((hka.drew.mono (fun _ _ h => h.elim)).trans a3 (fun _ _ h => h)) ?_⟩
          rcases hv with hv | hv
          · exact .inl hv
          · exact .inr (fun k hk => by have := hv k hk; have := hka.size; omega)
        have HO : Hid (Wa.ownsRow (b + 1) 40 3 v m.length (csA m)) := hq.2
        have HX : Hid (∀ u ∈ [Value.int .i64 y.r, .int .u64 y.s, .int .i64 y.p], u.oneCell' = true) := by
          intro u hu
          simp at hu
          rcases hu with rfl | rfl | rfl <;> rfl
        have hba : b + 1 ≤ Wa.heap.size := hq.lt
        clear HP hat hmy hh hh' hka hbx hq hvl h8
        have h8 : m.length ≤ 8 := hm
        generalize m.length = n at *
        generalize csA m = xs at *
        obtain ⟨x0, x1, x2⟩ := y
        simp only [wv] at *
        go_enter Try.func15, Try.ntmps15
        go_wp2_with fail
        refine HF1.out.mono ?_
        rintro e W' ⟨rfl, rfl⟩
        clear HF1
        obtain ⟨A, cap, hvv⟩ : ∃ A cap, v = .slice A n cap := by
          have := HO.out.2
          rcases this with ⟨rfl, h0⟩ | ⟨g', cap', cur, rfl, _⟩
          · obtain rfl : n = 0 := h0
            exact ⟨_, _, rfl⟩
          · exact ⟨_, _, rfl⟩
        subst hvv
        go_wp2_with fail
        have y3 : ∀ x, (Wa.alloc x).cell? ⟨b, 0, none⟩ = some (.slice A n cap) := fun x => Lib.cell?_alloc_some x hq0
        have hq0' : Wa.drew.cell? ⟨b, 0, none⟩ = some (.slice A n cap) := hq0
        have e0' : Wa.drew.cell? ⟨w.heap.size, 0, none⟩ = some (.int .i64 x0) := e0
        have e1' : Wa.drew.cell? ⟨w.heap.size, 1, none⟩ = some (.int .u64 x1) := e1
        have e2' : Wa.drew.cell? ⟨w.heap.size, 2, none⟩ = some (.int .i64 x2) := e2
        clear HA hWa
        go_region_law (refine step_append_lies _ rfl (.tmp 41) (.tmp 43) 45 rfl (b + 1) 40 i0 (.agg #[.int .i64 0, .int .u64 0, .int .i64 0]) 3 24 Try.underlying45 hi hz0 hz1 hz2 rfl (by decide) (.slice A n cap) n xs (by simp [Act.eval]) ((HO.out.drew).alloc _) ⟨Wa.heap.size, 0, none⟩ 1 1 [.int .i64 x0, .int .u64 x1, .int .i64 x2] (by simp [Act.eval]) rfl (new_cells3 _ _ _ _ (by simp)) HX.out (by decide) (by unfold maxLen; omega) (by omega) (by simp; omega) (Wa.heap.size + 1) (by simp) ?_; intro g2 cap2 w2 ho2 hg2 hat2 _; obtain ⟨⟨hq1, hq2⟩, hq3⟩ := HS.out _ _ _ _ hg2 ho2 hat2)
        all_goals
          have HZ := Lib.hid hq3
          clear hq3 hg2 ho2 hat2
          go_wp2
          exact HZ.out
  · have hm' : may y = false := by simpa using hmy
    rw [hm'] at HP
    simp only [Bool.false_eq_true, if_false, Bool.false_and] at HP
    obtain ⟨Wa, hWa, hbx, hq, hka⟩ := HA.out
    have HF := Lib.hid (HP.out _ _ hq (hka.mono (fun _ _ h => h.elim)) (.inl rfl))
    have e0 : Wa.cell? ⟨w.heap.size, 0, none⟩ = some (.int .i64 y.r) := by rw [blk_cell hbx]; rfl
    have e2 : Wa.cell? ⟨w.heap.size, 2, none⟩ = some (.int .i64 y.p) := by rw [blk_cell hbx]; rfl
    unfold may at hm'
    clear HP hmy h hka hbx hq hvl
    obtain ⟨x0, x1, x2⟩ := y
    simp only [wv] at *
    by_cases n1 : 0 ≤ x0
    · have g1 : decide (x0 < 0) = false := by simp; omega
      by_cases n2 : x0 < 64
      · have g2 : decide ((64 : Int) ≤ x0) = false := by simp; omega
        by_cases n3 : 0 ≤ x2
        · have g3 : decide (x2 < 0) = false := by simp; omega
          have n4 : ¬ x2 ≤ 15 := by intro h4; simp [n1, n2, n3, h4] at hm'
          have g4 : decide ((15 : Int) < x2) = true := by simp; omega
          clear hm'
          go_enter Try.func15, Try.ntmps15
          go_wp2
          exact HF.out
        · have g3 : decide (x2 < 0) = true := by simp; omega
          clear hm'
          go_enter Try.func15, Try.ntmps15
          go_wp2
          exact HF.out
      · have g2 : decide ((64 : Int) ≤ x0) = true := by simp; omega
        clear hm'
        go_enter Try.func15, Try.ntmps15
        go_wp2
        exact HF.out
    · have g1 : decide (x0 < 0) = true := by simp; omega
      clear hm'
      go_enter Try.func15, Try.ntmps15
      go_wp2
      exact HF.out

/-- One's priority alone is turned. -/
theorem prio_rq {w : World} {b : Nat} {g cap : Nat} {m : List Wt} {i : Nat} (h : RQ w b (.slice (some ⟨g, 0, none⟩) m.length cap) m) (hi : i < m.length) (q : Int) :
    RQ (w.setCell ⟨g, i * 3 + 2, none⟩ (.int .i64 q)) b (.slice (some ⟨g, 0, none⟩) m.length cap) (m.set i { m.getD i w0 with p := q }) ∧
      Kept (OfR b (.slice (some ⟨g, 0, none⟩) m.length cap)) w (w.setCell ⟨g, i * 3 + 2, none⟩ (.int .i64 q)) := by
  have hb := h.vlt (k := g) rfl
  have hk : Kept (fun k => k = g) w (w.setCell ⟨g, i * 3 + 2, none⟩ (.int .i64 q)) := (Kept.refl (fun k => k = g) w).setCell (p := ⟨g, i * 3 + 2, none⟩) (.inl rfl) _
  refine ⟨⟨(hk.block b (blk_lt h.1) (by omega)).trans h.1, ?_⟩, hk.mono (fun k _ e => .inr (by subst e; rfl))⟩
  rw [List.length_set]
  have h0 := h.2
  have hr := row_set h0 hi { m.getD i w0 with p := q }
  refine ⟨hr.1, ?_⟩
  rcases hr.2 with ⟨h1, _⟩ | ⟨g', cap', cur, h1, hb', hg, hle, hmx, hsz, htk⟩
  · cases h1
  injection h1 with e1 _ e3
  injection e1 with e1
  injection e1 with e1
  subst e1 e3
  refine .inr ⟨g, cap, cur, rfl, hb', ?_, hle, hmx, hsz, htk⟩
  rcases h0.2 with ⟨h1, _⟩ | ⟨g', cap', cur0, h1, _, hg0, hle0, _, hsz0, htk0⟩
  · cases h1
  injection h1 with e1 _ e3
  injection e1 with e1
  injection e1 with e1
  subst e1 e3
  rw [← hg, blk_set hg0, blk_set (blk_set (blk_set hg0 _ _) _ _) _ _]
  obtain ⟨_, _, e4, ⟨d0, d1, _⟩, _⟩ := h.places hi
  cases e4
  rw [blk_cell hg0] at d0 d1
  congr 2
  apply Array.ext_getElem?
  intro j
  simp only [Array.getElem?_setIfInBounds, Array.size_setIfInBounds]
  by_cases c2 : i * 3 + 2 = j
  · rw [if_pos c2, if_pos c2]
  · rw [if_neg c2, if_neg c2]
    by_cases c1 : i * 3 + 1 = j
    · rw [if_pos c1, ← c1, d1, if_pos (Array.getElem?_eq_some_iff.1 d1).1]
    · rw [if_neg c1]
      by_cases c0 : i * 3 = j
      · rw [if_pos c0, ← c0, d0, if_pos (Array.getElem?_eq_some_iff.1 d0).1]
      · rw [if_neg c0]

set_option maxHeartbeats 4000000 in
theorem rup_any {w : World} {b : Nat} {v : Value} {m : List Wt} (h : RQ w b v m) (hm : m.length ≤ 8) (r q : Int) :
    Calls Try.prog 17 #[.pointer (some ⟨b, 0, none⟩), .int .i64 r, .int .i64 q] w (RPost w b v (rupL m r q) (.bool (rupB m r q))) := by
  obtain ⟨P, hP⟩ : ∃ P : Ending → World → Prop, P = RPost w b v (rupL m r q) (.bool (rupB m r q)) := ⟨_, rfl⟩
  have HP : Hid (∀ v' w', RQ w' b v' (rupL m r q) → Kept (OfR b v) w w' → (v'.ownBlock = v.ownBlock ∨ ∀ k, v'.ownBlock = some k → w.heap.size ≤ k) → P (.returned (.bool (rupB m r q))) w') := by
    rw [hP]; exact fun v' w' h1 h2 h3 => ⟨rfl, v', h1, h2, h3⟩
  rw [← hP]
  clear hP
  have HF1 := Lib.hid (rfind_any h hm r)
  by_cases hh : has m r = true
  · have hi : idx m r < m.length := by simpa [has] using hh
    have hat : atI m r = ((idx m r : Nat) : Int) := by unfold atI; rw [if_pos hh]
    rw [hat] at HF1
    obtain ⟨g, cap, rfl, ⟨c0, c1, c2⟩, hfz⟩ := h.places hi
    rw [at_getD] at c2
    have g5 : decide (((idx m r : Nat) : Int) < 0) = false := by simp
    have hq0 := h.cell.1
    have fz2 := hfz (idx m r * 3 + 2)
    have i0 : (0 : Int) ≤ ((idx m r : Nat) : Int) := by omega
    have i1 : ((idx m r : Nat) : Int) < ((m.length : Nat) : Int) := by omega
    by_cases h15 : q ≤ 15
    · have g6 : decide ((15 : Int) < q) = false := by simp; omega
      by_cases hp : (at_ m r).p < q
      · have g7 : decide (q ≤ (at_ m r).p) = false := by simp; omega
        have hu : rupB m r q = true := by unfold rupB; rw [hh]; simp [h15, hp]
        have hl : rupL m r q = m.set (idx m r) { m.getD (idx m r) w0 with p := q } := by unfold rupL; rw [if_pos hu]; rfl
        rw [hu, hl] at HP
        obtain ⟨a1, a2⟩ := prio_rq h hi q
        have HF := Lib.hid (HP.out _ _ a1 a2 (.inl rfl))
        clear HP hat hh h hfz a1 a2 hi hu hl c0 c1
        generalize idx m r = i at *
        generalize (at_ m r).p = z2 at *
        generalize m.length = n at *
        go_enter Try.func17, Try.ntmps17
        go_wp2_with fail
        refine HF1.out.mono ?_
        rintro e W' ⟨rfl, rfl⟩
        clear HF1
        go_wp2
        exact HF.out
      · have g7 : decide (q ≤ (at_ m r).p) = true := by simp; omega
        have hu : rupB m r q = false := by unfold rupB; rw [hh]; simp [hp]
        have hl : rupL m r q = m := by unfold rupL; rw [hu]; rfl
        rw [hu, hl] at HP
        have HF := Lib.hid (HP.out _ _ h (Kept.refl _ _) (.inl rfl))
        clear HP hat hh h hfz hi hu hl c0 c1
        generalize idx m r = i at *
        generalize (at_ m r).p = z2 at *
        generalize m.length = n at *
        go_enter Try.func17, Try.ntmps17
        go_wp2_with fail
        refine HF1.out.mono ?_
        rintro e W' ⟨rfl, rfl⟩
        clear HF1
        go_wp2
        exact HF.out
    · have g6 : decide ((15 : Int) < q) = true := by simp; omega
      have hu : rupB m r q = false := by unfold rupB; rw [hh]; simp [h15]
      have hl : rupL m r q = m := by unfold rupL; rw [hu]; rfl
      rw [hu, hl] at HP
      have HF := Lib.hid (HP.out _ _ h (Kept.refl _ _) (.inl rfl))
      clear HP hat hh h hfz hi hu hl c0 c1 c2
      generalize idx m r = i at *
      generalize m.length = n at *
      go_enter Try.func17, Try.ntmps17
      go_wp2_with fail
      refine HF1.out.mono ?_
      rintro e W' ⟨rfl, rfl⟩
      clear HF1
      go_wp2
      exact HF.out
  · have hh' : has m r = false := by simpa using hh
    have hat : atI m r = -1 := by unfold atI; rw [if_neg hh]
    rw [hat] at HF1
    have hu : rupB m r q = false := by unfold rupB; rw [hh']; rfl
    have hl : rupL m r q = m := by unfold rupL; rw [hu]; rfl
    rw [hu, hl] at HP
    have HF := Lib.hid (HP.out _ _ h (Kept.refl _ _) (.inl rfl))
    clear HP hat hh h hu hl
    go_enter Try.func17, Try.ntmps17
    go_wp2_with fail
    refine HF1.out.mono ?_
    rintro e W' ⟨rfl, rfl⟩
    clear HF1
    go_wp2
    exact HF.out
end Go.Proofs.Ytnecmlkljijofaa
