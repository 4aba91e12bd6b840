/-
  Check, Size.
-/
import Derived.Test.YtfgajjfcjlejmaaDoorWr4
namespace Go.Proofs.YtfgajjfcjlejmaaDoor
set_option maxRecDepth 100000
set_option linter.unusedSimpArgs false
open Go Go.RowKit Wr
attribute [local go_sem] Oper.semAt_some

/-- A packet as a value. -/
@[reducible] def pktA (p : Pkt) (A : Option Addr) (n cap : Nat) : Value := .agg #[.int .i64 p.from_, .int .i64 p.to_, .int .u32 (p.fe : Nat), .int .u32 (p.te : Nat), .int .u32 (p.seq : Nat), .int .u32 (p.met : Nat), .int .i64 p.msg.kind, .int .i64 p.msg.cell, .int .u32 (p.msg.gen : Nat), .int .u64 (p.msg.stamp : Nat), .int .i64 p.msg.prio, .int .i64 p.msg.hops, .int .i64 p.msg.origin, .int .i64 p.msg.other, .slice A n cap]

set_option maxHeartbeats 1000000 in
theorem checkP_any {w : World} (hT : Tab w) (p : Pkt) {A : Option Addr} (cap : Nat) (hC : ClaimsAt w A p.msg.claims) (hl : p.msg.claims.length ≤ 100000) (hg : p.msg.gen < 4294967296) :
    Calls Tryd.prog 46 #[pktA p A p.msg.claims.length cap] w fun e w' => e = .returned (.int .i64 (if okP p then 0 else 71)) ∧ Below w.heap.size w w' := by
  have HT := Lib.hid hT
  have HC := Lib.hid hC
  obtain ⟨P, hP⟩ : ∃ P : Ending → World → Prop, P = fun e w' => e = .returned (.int .i64 (if okP p then 0 else 71)) ∧ Below w.heap.size w w' := ⟨_, rfl⟩
  have HQ : Hid (∀ w' n, n = (if okP p then 0 else 71) → Below w.heap.size w w' → P (.returned (.int .i64 n)) w') := by rw [hP]; exact fun w' n e h => ⟨by rw [e], h⟩
  rw [← hP]
  clear hP hT hC
  obtain ⟨f, t, fe, te, sq, mt, m⟩ := p
  simp only at hl hg HC HQ ⊢
  unfold okP at HQ
  simp only at HQ
  have HB : Hid (∀ o, Below w.heap.size w (w.alloc o)) := fun o => (Below.refl _ w).alloc (Nat.le_refl _) o
  have HM : Hid (∀ o, Calls Tryd.prog 40 #[msgA m A m.claims.length cap] (w.alloc o) fun e w' => e = .returned (.int .i64 (if okM m then 0 else 71)) ∧ Below (w.alloc o).heap.size (w.alloc o) w') :=
    fun o => check_any (HT.out.below (HB.out o)) m cap (HC.out.below (HB.out o)) hl hg
  clear hl hg
  simp only [msgA] at HM
  generalize hn : (if okM m = true then (0 : Int) else 71) = n0 at HM
  simp only [pktA]
  cases h1 : isR f
  · rw [h1] at HQ
    go_enter Tryd.func46, Tryd.ntmps46
    go_wp2_with (first | ((with_reducible refine (isRobot_any _ f).mono ?_); rintro e w' ⟨rfl, rfl⟩; rw [h1]))
    exact HQ.out _ _ rfl (HB.out _)
  · rw [h1] at HQ
    cases h2 : isR t
    · rw [h2] at HQ
      go_enter Tryd.func46, Tryd.ntmps46
      go_wp2_with (first | ((with_reducible refine (isRobot_any _ f).mono ?_); rintro e w' ⟨rfl, rfl⟩; rw [h1]) | ((with_reducible refine (isRobot_any _ t).mono ?_); rintro e w' ⟨rfl, rfl⟩; rw [h2]))
      exact HQ.out _ _ rfl (HB.out _)
    · rw [h2] at HQ
      by_cases h3 : f = t
      · subst h3
        have h4 : (f != f) = false := by simp
        rw [h4] at HQ
        go_enter Tryd.func46, Tryd.ntmps46
        go_wp2_with (first | ((with_reducible refine (isRobot_any _ f).mono ?_); rintro e w' ⟨rfl, rfl⟩; rw [h1]) | ((with_reducible refine (isRobot_any _ t).mono ?_); rintro e w' ⟨rfl, rfl⟩; rw [h2]))
        exact HQ.out _ _ rfl (HB.out _)
      · have h4 : (f != t) = true := by simpa using h3
        have h5 : (f == t) = false := by simpa using h3
        rw [h4] at HQ
        go_enter Tryd.func46, Tryd.ntmps46
        go_wp2_with (first | ((with_reducible refine (isRobot_any _ f).mono ?_); rintro e w' ⟨rfl, rfl⟩; rw [h1]) | ((with_reducible refine (isRobot_any _ t).mono ?_); rintro e w' ⟨rfl, rfl⟩; rw [h2]) | ((with_reducible refine (HM.out _).mono ?_); rintro e w' ⟨rfl, hb⟩))
        exact HQ.out _ _ (by simpa using hn.symm) ((HB.out _).trans (hb.mono (by simp)))


def sumW (l : List Nat) : Nat := (l.map wid).foldl (· + ·) 0
theorem sumW_snoc (l : List Nat) (x : Nat) : sumW (l ++ [x]) = sumW l + wid x := by simp [sumW]
theorem wid_le : ∀ f, f < 9 → wid f ≤ 8 := by decide
theorem sumW_le : ∀ (l : List Nat), (∀ x ∈ l, x < 9) → sumW l ≤ 8 * l.length := by
  intro l h
  have : ∀ (l : List Nat) (a : Nat), (∀ x ∈ l, x < 9) → (l.map wid).foldl (· + ·) a ≤ a + 8 * l.length := by
    intro l
    induction l with
    | nil => intro a _; simp
    | cons x l ih =>
      intro a h
      simp only [List.map_cons, List.foldl_cons, List.length_cons]
      have h1 := ih (a + wid x) (fun y hy => h y (by simp [hy]))
      have h2 := wid_le x (h x (by simp))
      omega
  have := this l 0 h
  unfold sumW
  omega
theorem flds_len (k : Int) : (flds k).length ≤ 5 ∧ ∀ x ∈ flds k, x < 9 := by
  by_cases h : 0 ≤ k ∧ k < 12
  · obtain ⟨q, rfl⟩ := Int.eq_ofNat_of_zero_le h.1
    have hq : q < 12 := by omega
    rw [flds_nat hq]
    exact (show ∀ q, q < 12 → (fldL.getD q []).length ≤ 5 ∧ ∀ x ∈ fldL.getD q [], x < 9 by decide) q hq
  · rw [flds_out h]; simp

def SizeI (w : World) (b c0 : Nat) (pre : List Fl) (W : World) : Prop :=
  Below w.heap.size w W ∧ W.heap[b]? = some (.cells #[.int .i64 ((c0 + sumW (pre.map (fun x : Fl => x.1)) : Nat) : Int)] 3 (0, 0))
theorem SizeI.from {w : World} {b B c0 : Nat} (h2 : b < B) (h1 : w.heap.size ≤ B) : OwnFrom B (SizeI w b c0) := by
  rintro pre W W' row ⟨a1, a2⟩ hg hr
  exact ⟨a1.grown hg a1.size (fun k e => by have := (hr k e).1; omega), (hg.block _ (blk_lt a2) (fun e => by have := (hr _ e.symm).1; omega)).trans a2⟩
theorem size_on {w W : World} {b c0 : Nat} {pre : List Fl} (hI : SizeI w b c0 pre W) (x : Fl) (B : Nat) (hB : b < B) (hb : w.heap.size ≤ b) :
    KeepsFrom B W (W.drew.setCell ⟨b, 0, none⟩ (.int .i64 ((c0 + sumW (pre.map (fun x : Fl => x.1)) + wid x.1 : Nat) : Int))) ∧ True ∧ SizeI w b c0 (pre ++ [x]) (W.drew.setCell ⟨b, 0, none⟩ (.int .i64 ((c0 + sumW (pre.map (fun x : Fl => x.1)) + wid x.1 : Nat) : Int))) := by
  obtain ⟨h1, h2⟩ := hI
  have h2' : W.drew.heap[b]? = some (.cells #[.int .i64 ((c0 + sumW (pre.map (fun x : Fl => x.1)) : Nat) : Int)] 3 (0, 0)) := h2
  refine ⟨⟨by simp, fun k o hk ho _ => (Below.heap_setCell _ _ _ _ (by simp; omega)).trans ho⟩, trivial, (h1.drew).setCell (p := ⟨b, 0, none⟩) (by simpa using hb) _, ?_⟩
  rw [blk_set h2', List.map_append, List.map_cons, List.map_nil, sumW_snoc, Nat.add_assoc]
  rfl

end Go.Proofs.YtfgajjfcjlejmaaDoor
