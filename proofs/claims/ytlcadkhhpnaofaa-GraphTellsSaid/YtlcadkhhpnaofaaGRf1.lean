/-
  The document's graph in memory; node, Has, Out.
-/
import Derived.Test.YtlcadkhhpnaofaaGL1
import Derived.Test.YtlcadkhhpnaofaaGRf0
import Derived.OwnWalk
namespace Go.Proofs.Ytlcadkhhpnaofaa
set_option maxRecDepth 100000
open Go Go.RowKit Gq

def rowE (E : Nat → Nat → Bool) (n i : Nat) : Mt := (List.range n).map (E i)
theorem rowE_len (E : Nat → Nat → Bool) (n i : Nat) : (rowE E n i).length = n := by simp [rowE]
theorem rowE_at {E : Nat → Nat → Bool} {n i j : Nat} (h : j < n) : mtb (rowE E n i) j = E i j := by simp [rowE, mtb, List.getD, h]
theorem bs_cell {w : World} {p n : Nat} {E : Nat → Nat → Bool} {i j : Nat} (h : w.heap[p]? = some (.cells (bs (rowE E n i)) 4 (0, 0))) (hj : j < n) : w.cell? ⟨p, j, none⟩ = some (.bool (E i j)) := by
  rw [blk_cell h, bs_get (by rw [rowE_len]; exact hj), rowE_at hj]

/-- The first k rows of n nodes: its cell, its table, its rows; all lie in Z. -/
structure RG (w : World) (r n k : Nat) (E : Nat → Nat → Bool) (v : Value) (P : Nat → Nat) (Z : Nat → Prop) : Prop where
  hd : w.cell? ⟨r, 0, none⟩ = some v
  fz : w.frozen? ⟨r, 0, none⟩ = false
  own : w.ownsRow 0 53 1 v k ((List.range k).map fun i => Value.slice (some ⟨P i, 0, none⟩) n n)
  rows : ∀ i, i < k → w.heap[P i]? = some (.cells (bs (rowE E n i)) 4 (0, 0))
  inj : ∀ i j, i < k → j < k → P i = P j → i = j
  pr : ∀ i, i < k → P i ≠ r ∧ v.ownBlock ≠ some (P i)
  vr : v.ownBlock ≠ some r
  zr : Z r
  zv : ∀ g, v.ownBlock = some g → Z g
  zp : ∀ i, i < k → Z (P i)
  lt : ∀ j, Z j → j < w.heap.size

/-- The graph whole. -/
def RAt (w : World) (r n : Nat) (E : Nat → Nat → Bool) (Z : Nat → Prop) : Prop := ∃ v P, RG w r n n E v P Z

theorem RG.kept {X : Nat → Prop} {w w' : World} {r n k : Nat} {E : Nat → Nat → Bool} {v : Value} {P : Nat → Nat} {Z : Nat → Prop} (h : RG w r n k E v P Z) (hk : Kept X w w') (hX : ∀ j, Z j → ¬ X j) : RG w' r n k E v P Z :=
  ⟨hk.cell h.hd (hX r h.zr), by rw [hk.frozen (p := ⟨r, 0, none⟩) (h.lt r h.zr) (hX r h.zr)]; exact h.fz, hk.row h.own (fun g hg => hX g (h.zv g hg)),
    fun i hi => (hk.block _ (h.lt _ (h.zp i hi)) (hX _ (h.zp i hi))).trans (h.rows i hi), h.inj, h.pr, h.vr, h.zr, h.zv, h.zp, fun j hj => Nat.lt_of_lt_of_le (h.lt j hj) hk.size⟩
theorem RAt.kept {X : Nat → Prop} {w w' : World} {r n : Nat} {E : Nat → Nat → Bool} {Z : Nat → Prop} (h : RAt w r n E Z) (hk : Kept X w w') (hX : ∀ j, Z j → ¬ X j) : RAt w' r n E Z := by
  obtain ⟨v, P, h⟩ := h
  exact ⟨v, P, h.kept hk hX⟩
theorem RAt.still {w w' : World} {r n : Nat} {E : Nat → Nat → Bool} {Z : Nat → Prop} (h : RAt w r n E Z) (hk : Still w w') : RAt w' r n E Z := h.kept hk (fun _ _ => id)
theorem RAt.below {w w' : World} {r n : Nat} {E : Nat → Nat → Bool} {Z : Nat → Prop} (h : RAt w r n E Z) (hb : Below w.heap.size w w') : RAt w' r n E Z := h.still (Kept.of_below hb (Nat.le_refl _))
theorem RAt.lt {w : World} {r n : Nat} {E : Nat → Nat → Bool} {Z : Nat → Prop} (h : RAt w r n E Z) : ∀ j, Z j → j < w.heap.size := by
  obtain ⟨_, _, h⟩ := h
  exact h.lt
/-- What it looks like: its cell. -/
theorem RAt.form {w : World} {r n : Nat} {E : Nat → Nat → Bool} {Z : Nat → Prop} (h : RAt w r n E Z) : ∃ A cap, w.cell? ⟨r, 0, none⟩ = some (.slice A n cap) := by
  obtain ⟨v, P, h⟩ := h
  rcases h.own.2 with ⟨rfl, h0⟩ | ⟨g, cap, cur, rfl, _⟩
  · exact ⟨none, 0, by rw [h.hd, h0]⟩
  · exact ⟨_, _, h.hd⟩
theorem RAt.read {w : World} {r n : Nat} {E : Nat → Nat → Bool} {Z : Nat → Prop} (h : RAt w r n E Z) {a : Nat} (ha : a < n) :
    ∃ g cap p, w.cell? ⟨r, 0, none⟩ = some (.slice (some ⟨g, 0, none⟩) n cap) ∧ w.cell? ⟨g, a, none⟩ = some (.slice (some ⟨p, 0, none⟩) n n) ∧ w.heap[p]? = some (.cells (bs (rowE E n a)) 4 (0, 0)) ∧ ∀ c, c < n → w.cell? ⟨p, c, none⟩ = some (.bool (E a c)) := by
  obtain ⟨v, P, h⟩ := h
  have ho := h.own
  rcases h.own.2 with ⟨rfl, h0⟩ | ⟨g, cap, cur, rfl, _⟩
  · omega
  · refine ⟨g, cap, P a, h.hd, ?_, h.rows a ha, fun c hc => bs_cell (h.rows a ha) hc⟩
    rw [World.ownsRow.cellAt ho a (by omega)]
    simp [ha]

theorem node_any {w : World} {r n : Nat} {E : Nat → Nat → Bool} {Z : Nat → Prop} (h : RAt w r n E Z) (_ : n ≤ 1024) (a : Int) :
    Calls Try.prog 29 #[.pointer (some ⟨r, 0, none⟩), .int .i64 a] w fun e w' => e = .returned (.bool (isNode n a)) ∧ w' = w := by
  obtain ⟨A, cap, hc⟩ := h.form
  clear h
  by_cases h0 : 0 ≤ a
  · by_cases h1 : a < (n : Int)
    · have e : isNode n a = true := by simp [isNode, h0, h1]
      rw [e]
      go_enter Try.func29, Try.ntmps29
      go_wp2
      go_ret
      exact ⟨rfl, rfl⟩
    · have e : isNode n a = false := by simp [isNode]; omega
      have e2 : decide (a < (n : Int)) = false := decide_eq_false h1
      rw [e]
      go_enter Try.func29, Try.ntmps29
      go_wp2
      go_ret
      exact ⟨rfl, rfl⟩
  · have e : isNode n a = false := by simp [isNode]; omega
    have e2 : decide (0 ≤ a) = false := decide_eq_false h0
    rw [e]
    go_enter Try.func29, Try.ntmps29
    go_wp2
    go_ret
    exact ⟨rfl, rfl⟩

/-- Is there an edge? -/
def hasR (n : Nat) (E : Nat → Nat → Bool) (a c : Int) : Bool := isNode n a && isNode n c && E a.toNat c.toNat

theorem rHas_any {w : World} {r n : Nat} {E : Nat → Nat → Bool} {Z : Nat → Prop} (h : RAt w r n E Z) (hn : n ≤ 1024) (a c : Int) :
    Calls Try.prog 11 #[.pointer (some ⟨r, 0, none⟩), .int .i64 a, .int .i64 c] w fun e w' => e = .returned (.bool (hasR n E a c)) ∧ w' = w := by
  have HA := Lib.hid (node_any h hn a)
  have HC := Lib.hid (node_any h hn c)
  cases ha : isNode n a with
  | false =>
    have e : hasR n E a c = false := by simp [hasR, ha]
    rw [ha] at HA
    rw [e]
    clear h ha e
    cases hc : isNode n c with
    | false =>
      rw [hc] at HC
      clear hc
      go_enter Try.func11, Try.ntmps11
      go_wp2_with (first | (with_reducible refine HA.out.mono ?_; rintro e w' ⟨rfl, hw⟩; obtain rfl := hw.symm; clear hw) | (with_reducible refine HC.out.mono ?_; rintro e w' ⟨rfl, hw⟩; obtain rfl := hw.symm; clear hw))
      go_ret
      exact ⟨rfl, rfl⟩
    | true =>
      rw [hc] at HC
      clear hc
      go_enter Try.func11, Try.ntmps11
      go_wp2_with (first | (with_reducible refine HA.out.mono ?_; rintro e w' ⟨rfl, hw⟩; obtain rfl := hw.symm; clear hw) | (with_reducible refine HC.out.mono ?_; rintro e w' ⟨rfl, hw⟩; obtain rfl := hw.symm; clear hw))
      go_ret
      exact ⟨rfl, rfl⟩
  | true =>
    rw [ha] at HA
    cases hc : isNode n c with
    | false =>
      have e : hasR n E a c = false := by simp [hasR, hc]
      rw [hc] at HC
      rw [e]
      clear h ha hc e
      go_enter Try.func11, Try.ntmps11
      go_wp2_with (first | (with_reducible refine HA.out.mono ?_; rintro e w' ⟨rfl, hw⟩; obtain rfl := hw.symm; clear hw) | (with_reducible refine HC.out.mono ?_; rintro e w' ⟨rfl, hw⟩; obtain rfl := hw.symm; clear hw))
      go_ret
      exact ⟨rfl, rfl⟩
    | true =>
      rw [hc] at HC
      have e : hasR n E a c = E a.toNat c.toNat := by simp [hasR, ha, hc]
      rw [e]
      clear e
      simp only [isNode, Bool.and_eq_true, decide_eq_true_eq] at ha hc
      obtain ⟨a0, a1⟩ := ha
      obtain ⟨c0, c1⟩ := hc
      obtain ⟨x, rfl⟩ := Int.eq_ofNat_of_zero_le a0
      obtain ⟨y, rfl⟩ := Int.eq_ofNat_of_zero_le c0
      obtain ⟨g, cap, p, f1, f2, _, f3⟩ := h.read (a := x) (by omega)
      have f4 := f3 y (by omega)
      rw [Int.toNat_natCast, Int.toNat_natCast]
      clear h f3
      go_enter Try.func11, Try.ntmps11
      go_wp2_with (first | (with_reducible refine HA.out.mono ?_; rintro e w' ⟨rfl, hw⟩; obtain rfl := hw.symm; clear hw) | (with_reducible refine HC.out.mono ?_; rintro e w' ⟨rfl, hw⟩; obtain rfl := hw.symm; clear hw))
      go_ret
      exact ⟨rfl, rfl⟩

/-- The nodes ahead of k to which edges go. -/
def outK (n : Nat) (E : Nat → Nat → Bool) (a : Int) (k : Nat) : List Nat := (List.range k).filter (fun b => hasR n E a (b : Int))
theorem outK_hit {n : Nat} {E : Nat → Nat → Bool} {a : Int} {k : Nat} (h : hasR n E a (k : Int) = true) : outK n E a (k + 1) = outK n E a k ++ [k] := by simp only [outK, List.range_succ, List.filter_append, List.filter_cons, h, List.filter_nil, if_true]
theorem outK_miss {n : Nat} {E : Nat → Nat → Bool} {a : Int} {k : Nat} (h : hasR n E a (k : Int) = false) : outK n E a (k + 1) = outK n E a k := by simp only [outK, List.range_succ, List.filter_append, List.filter_cons, h, List.filter_nil, Bool.false_eq_true, if_false, List.append_nil]
theorem outK_le (n : Nat) (E : Nat → Nat → Bool) (a : Int) (k : Nat) : (outK n E a k).length ≤ k := Nat.le_trans (List.length_filter_le _ _) (by simp)

/-- A list of a call's own, above what there was. -/
def OwnL (w : World) (v : Value) (l : List Nat) (w' : World) : Prop := w'.ownsRow w.heap.size 3 1 v l.length (nis l) ∧ Below w.heap.size w w'
theorem OwnL.newR {w w' : World} {v : Value} {l : List Nat} (h : OwnL w v l w') : NewR w l (.returned v) w' :=
  ⟨v, rfl, row_base h.1 (Nat.zero_le _), fun k hk => (World.ownsRow.lt h.1 k hk).1, h.2⟩

set_option maxHeartbeats 1000000 in
theorem rOut_any {w : World} {r n : Nat} {E : Nat → Nat → Bool} {Z : Nat → Prop} (h : RAt w r n E Z) (hn : n ≤ 1024) (a : Int) :
    Calls Try.prog 16 #[.pointer (some ⟨r, 0, none⟩), .int .i64 a] w (NewR w (outK n E a n)) := by
  obtain ⟨i0, hi, hz0, hz1, hz2⟩ := info_parts Try.infoInt
  have H := Lib.hid h
  clear h
  go_enter Try.func16, Try.ntmps16
  go_wp2
  go_loopw [5, 6] (fun v i wr => ∃ k : Nat, k ≤ n ∧ i = .int .i64 k ∧ OwnL w v (outK n E a k) wr) (fun _ i _ => n - (intOf i).toNat)
  case atStart => exact ⟨0, Nat.zero_le _, rfl, World.ownsRow_nil _ _ _ _, Below.refl _ _⟩
  case round =>
    obtain ⟨k, hk, rfl, ho⟩ := hrel
    have HO := Lib.hid ho
    have HR := Lib.hid (H.out.below ho.2)
    obtain ⟨A, cap, hc⟩ := HR.out.form
    have hle := outK_le n E a k
    clear ho
    by_cases hlt : k < n
    · have HC := Lib.hid (rHas_any HR.out hn a (k : Int))
      cases hf : hasR n E a (k : Int) with
      | true =>
        have hit := Lib.hid (outK_hit hf)
        rw [hf] at HC
        have hown := HO.out.1
        clear hf
        go_wp2_with (first
          | (with_reducible refine HC.out.mono ?_; rintro e w' ⟨rfl, hw⟩; obtain rfl := hw.symm; clear hw)
          | (at_builtin; refine wpList_append_own _ rfl _ _ 34 rfl w.heap.size 3 i0 (.int .i64 0) 1 8 Try.underlying34 hi hz0 hz1 hz2 rfl (by decide) _ _ _ rfl (hown.alloc _) ⟨wr.heap.size, 0, none⟩ 1 1 [ni k] rfl rfl ?c1 ?c2 ?c3 ?c4 ?c5 ?_))
        case c1 => intro j u hj; match j, hj with | 0, hj => simp at hj; subst hj; simp [Addr.add, ni]
        case c2 => intro u hu; simp at hu; subst hu; rfl
        case c3 => unfold maxLen; omega
        case c4 => omega
        case c5 => have := HO.out.2.size; simp; omega
        intro v' w1 hown' hgrow _
        have hnx1 : Below w.heap.size w w1 := (HO.out.2.alloc HO.out.2.size _).grown hgrow (by simp; have := HO.out.2.size; omega) (fun j hj => (hown.lt j hj).1)
        have HQ : Hid (OwnL w v' (outK n E a (k + 1)) w1) := ⟨by rw [hit.out]; simpa [nis] using hown', hnx1⟩
        clear hgrow hown' hown hnx1 HO HR hc
        go_wp2
        go_roundw
        case rel => exact ⟨k + 1, by omega, by go_num, HQ.out⟩
        case measure => simp [intOf]; omega
      | false =>
        have hit := Lib.hid (outK_miss hf)
        rw [hf] at HC
        clear hf
        go_wp2_with (with_reducible refine HC.out.mono ?_; rintro e w' ⟨rfl, hw⟩; obtain rfl := hw.symm; clear hw)
        go_roundw
        case rel => exact ⟨k + 1, by omega, by go_num, by rw [hit.out]; exact HO.out⟩
        case measure => simp [intOf]; omega
    · obtain rfl : k = n := by omega
      have HQ := Lib.hid HO.out.newR
      clear HO
      go_wp2
      go_ret
      exact HQ.out
end Go.Proofs.Ytlcadkhhpnaofaa
