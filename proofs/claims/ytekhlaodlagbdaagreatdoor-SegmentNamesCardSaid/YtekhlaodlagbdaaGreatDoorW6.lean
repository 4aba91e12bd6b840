/-
  The walks of the questions that the document's own map answers.
-/
import Derived.Test.YtekhlaodlagbdaaGreatDoorW5
import Derived.Lib.Builder
import Derived.Shelf.Strings.Builder1
import Derived.StillTailTactics
import Derived.Deep.RegionWith
namespace Go.Proofs.YtekhlaodlagbdaaGreatDoor
set_option maxRecDepth 100000
open Go.RowKit

theorem RefAt.drewN {w : World} {b g cap : Nat} {Q : List ByteArray} (h : RefAt w b g cap Q) (n : Nat) : RefAt (w.drewN n) b g cap Q := ⟨h.blk, h.own⟩
theorem RefAt.below {w w' : World} {B b g cap : Nat} {Q : List ByteArray} (h : RefAt w b g cap Q) (hb : Below B w w') (hB : w.heap.size ≤ B) : RefAt w' b g cap Q :=
  ⟨by rw [hb.block b (Nat.lt_of_lt_of_le (blk_lt h.blk) hB)]; exact h.blk, owns_below h.own hb hB⟩
theorem MapAt.drewN {w : World} {b g cap : Nat} {L : List (List UInt8)} (h : MapAt w b g cap L) (n : Nat) : MapAt (w.drewN n) b g cap L := ⟨h.blk, h.own⟩
theorem MapAt.below {w w' : World} {B b g cap : Nat} {L : List (List UInt8)} (h : MapAt w b g cap L) (hb : Below B w w') (hB : w.heap.size ≤ B) : MapAt w' b g cap L :=
  ⟨by rw [hb.block b (Nat.lt_of_lt_of_le (blk_lt h.blk) hB)]; exact h.blk, owns_below h.own hb hB⟩

/-- A string of the rows. -/
theorem RefAt.str {w : World} {b g cap : Nat} {Q : List ByteArray} (h : RefAt w b g cap Q) {j : Nat} (hj : j < Q.length) : w.cell? ⟨g, j, none⟩ = some (.string Q[j]) := by
  have := h.own.cells (g := g) rfl j (.string Q[j]) (by simp [hj])
  have e : (⟨g, 0, none⟩ : Addr).add j = ⟨g, j, none⟩ := by unfold Addr.add; split <;> simp_all
  rw [e] at this
  exact this

theorem RefAt.cell {w : World} {b g cap : Nat} {Q : List ByteArray} (h : RefAt w b g cap Q) : w.cell? ⟨b, 0, none⟩ = some (.slice (some ⟨g, 0, none⟩) Q.length cap) := by rw [blk_cell h.blk]; rfl

theorem good_size {Q : List ByteArray} (hg : Pure.Good (lsts Q)) : 1 ≤ Q.length ∧ Q.length ≤ 32 := by
  have h1 := hg.len
  have h2 : (lsts Q).length = Q.length := by simp [lsts]
  have h3 := hg.ne
  constructor
  · cases Q with
    | nil => exact absurd rfl h3
    | cons a l => simp
  · omega

theorem good_row {Q : List ByteArray} (hg : Pure.Good (lsts Q)) {j : Nat} (hj : j < Q.length) : Q[j].size = Pure.wid (lsts Q) := by
  have := hg.row Q[j].data.toList (List.mem_map.2 ⟨Q[j], List.getElem_mem _, rfl⟩)
  simpa using this

set_option maxHeartbeats 400000 in
theorem rcols_any {b g cap : Nat} {Q : List ByteArray} {w : World} (h : RefAt w b g cap Q) (hg : Pure.Good (lsts Q)) :
    Calls Tryz.prog 98 #[.pointer (some ⟨b, 0, none⟩)] w fun e w' => e = .returned (.int .i64 (Pure.wid (lsts Q) : Int)) ∧ w' = w := by
  have hq := good_size hg
  have c0 := h.cell
  have c1 : w.cell? ⟨g, 0, none⟩ = some (.string Q[0]) := h.str (by omega)
  have hs := good_row hg (j := 0) (by omega)
  generalize Q[0] = d at c1 hs
  rw [← hs]
  clear h hg hs
  go_enter Tryz.func98, Tryz.ntmps98
  go_wp2
  go_ret
  exact ⟨rfl, rfl⟩

set_option maxHeartbeats 400000 in
theorem rcells_any {b g cap : Nat} {Q : List ByteArray} {w : World} (h : RefAt w b g cap Q) (hg : Pure.Good (lsts Q)) :
    Calls Tryz.prog 55 #[.pointer (some ⟨b, 0, none⟩)] w fun e w' => e = .returned (.int .i64 ((lsts Q).flatten.length : Int)) ∧ ∃ n, w' = w.drewN n := by
  have hq := good_size hg
  have c0 := h.cell
  have c1 : w.cell? ⟨g, 0, none⟩ = some (.string Q[0]) := h.str (by omega)
  have hs := good_row hg (j := 0) (by omega)
  have hsz := hg.size
  have hl : (lsts Q).length = Q.length := by simp [lsts]
  have hsm := hg.small
  generalize Q[0] = d at c1 hs
  rw [hl, ← hs] at hsz
  have e1 : IntKind.i64.wrap ((Q.length : Int) * (d.size : Int)) = (((lsts Q).flatten.length : Nat) : Int) := by
    rw [← Int.natCast_mul, ← hsz]; exact IntWalk.i64_in _ (by omega)
  generalize (lsts Q).flatten.length = N at e1 ⊢
  clear h hg hs hsz hl hsm
  go_enter Tryz.func55, Tryz.ntmps55
  go_wp2
  go_quiet (fail)
  go_wp2
  go_ret
  exact ⟨rfl, _, rfl⟩

/-- Of row k / W the byte k % W. -/
theorem row_byte {Q : List ByteArray} (hg : Pure.Good (lsts Q)) {k : Nat} (hk : k < (lsts Q).flatten.length) :
    ∃ (h1 : k / Pure.wid (lsts Q) < Q.length) (h2 : k % Pure.wid (lsts Q) < (Q[k / Pure.wid (lsts Q)]).size), (Q[k / Pure.wid (lsts Q)])[k % Pure.wid (lsts Q)] = (lsts Q).flatten.getD k 0 := by
  have hlo := hg.lo
  have hsz := hg.size
  have hl : (lsts Q).length = Q.length := by simp [lsts]
  have h1 : k / Pure.wid (lsts Q) < Q.length := by
    rw [Nat.div_lt_iff_lt_mul (by omega), ← hl, ← hsz]; exact hk
  have h2 : k % Pure.wid (lsts Q) < (Q[k / Pure.wid (lsts Q)]).size := by
    rw [good_row hg h1]; exact Nat.mod_lt _ (by omega)
  refine ⟨h1, h2, ?_⟩
  have hf := Pure.flat_at (n := Pure.wid (lsts Q)) (by omega) (lsts Q) hg.row k
  rw [List.getD, hf]
  have e : ∀ j (h : j < Q.length), (lsts Q)[j]? = some (Q[j]).data.toList := fun j h => by simp [lsts, h]
  rw [e _ h1]
  simp only [Option.bind_some]
  rw [List.getElem?_eq_getElem (by simpa using h2)]
  rfl

set_option maxHeartbeats 800000 in
theorem rkind_any {b g cap : Nat} {Q : List ByteArray} {w : World} (i : Int) (h : RefAt w b g cap Q) (hg : Pure.Good (lsts Q)) :
    Calls Tryz.prog 91 #[.pointer (some ⟨b, 0, none⟩), .int .i64 i] w fun e w' => e = .returned (.int .u8 ((kindB (lsts Q).flatten i).toNat : Int)) ∧ ∃ n, w' = w.drewN n := by
  have HR : Hid (RefAt w b g cap Q) := h
  have HG : Hid (Pure.Good (lsts Q)) := hg
  have hsm := hg.small
  by_cases h0 : i < 0
  · have hk : kindB (lsts Q).flatten i = 0 := by unfold kindB; rw [if_neg (by omega)]
    rw [hk]
    clear h hg hk hsm
    go_enter Tryz.func91, Tryz.ntmps91
    go_wp2_with fail
    go_ret
    exact ⟨rfl, 0, rfl⟩
  · obtain ⟨k, rfl⟩ := Int.eq_ofNat_of_zero_le (by omega : 0 ≤ i)
    by_cases hk : k < (lsts Q).flatten.length
    · have hk' : kindB (lsts Q).flatten (k : Int) = (lsts Q).flatten.getD k 0 := by unfold kindB; rw [if_pos (by omega)]; rfl
      rw [hk']
      obtain ⟨h1, h2, h3⟩ := row_byte hg hk
      have hcc := fun w' (h : RefAt w' b g cap Q) => rcells_any h hg
      have hcw := fun w' (h : RefAt w' b g cap Q) => rcols_any h hg
      have hst := fun w' (h : RefAt w' b g cap Q) => h.str h1
      have hc0 := fun w' (h : RefAt w' b g cap Q) => h.cell
      have hlo := hg.lo
      have hhi := hg.hi
      rw [← h3]
      clear h3 hk' h hg
      generalize (lsts Q).flatten.length = N at hk hcc hsm
      generalize hW : Pure.wid (lsts Q) = W at *
      have q1 : (k : Int) / (W : Int) = ((k / W : Nat) : Int) := by omega
      have q2 : (k : Int).tdiv (W : Int) = ((k / W : Nat) : Int) := by rw [Int.tdiv_eq_ediv_of_nonneg (by omega)]; exact q1
      have q3 : (k : Int) % (W : Int) = ((k % W : Nat) : Int) := by omega
      have q4 : (k : Int).tmod (W : Int) = ((k % W : Nat) : Int) := by rw [Int.tmod_eq_emod_of_nonneg (by omega)]; exact q3
      have q5 : k / W ≤ k := Nat.div_le_self _ _
      have q6 : k % W ≤ k := Nat.mod_le _ _
      generalize k / W = a at *
      generalize k % W = r at *
      generalize Q[a] = d at *
      have HC : Hid (∀ w', RefAt w' b g cap Q → Calls Tryz.prog 55 #[.pointer (some ⟨b, 0, none⟩)] w' fun e w'' => e = .returned (.int .i64 (N : Int)) ∧ ∃ n, w'' = w'.drewN n) := hcc
      have HW2 : Hid (∀ w', RefAt w' b g cap Q → Calls Tryz.prog 98 #[.pointer (some ⟨b, 0, none⟩)] w' fun e w'' => e = .returned (.int .i64 (W : Int)) ∧ w'' = w') := hcw
      have HS : Hid (∀ w', RefAt w' b g cap Q → w'.cell? ⟨g, a, none⟩ = some (.string d)) := hst
      have HC0 : Hid (∀ w', RefAt w' b g cap Q → w'.cell? ⟨b, 0, none⟩ = some (.slice (some ⟨g, 0, none⟩) Q.length cap)) := hc0
      clear hcc hcw hst hc0
      go_enter Tryz.func91, Tryz.ntmps91
      go_wp2_with (go_at_call 55; (with_reducible refine (HC.out _ HR.out).mono ?_); rintro e w' ⟨rfl, n, rfl⟩)
      have HR2 : Hid (RefAt (w.drewN n) b g cap Q) := HR.out.drewN n
      have HX : Hid (∀ m, ∃ x, (w.drewN n).drewN m = w.drewN x) := fun m => ⟨n + m, by rw [World.drewN_drewN]⟩
      generalize w.drewN n = w2 at HR2 HX ⊢
      have c0 := HC0.out w2 HR2.out
      have c1 := HS.out w2 HR2.out
      have i1 : (a : Int) < (Q.length : Int) := by omega
      have i2 : (r : Int) < (d.size : Int) := by omega
      have i3 : IntKind.i64.wrap (a : Int) = (a : Int) := IntWalk.i64_in _ (by omega)
      have i4 : IntKind.i64.wrap (r : Int) = (r : Int) := IntWalk.i64_in _ (by omega)
      have i5 : ((W : Int) == 0) = false := by rw [beq_eq_false_iff_ne]; omega
      clear hW
      go_quiet ((go_at_call 98; exact Calls.quiet_of_same (HW2.out _ (HR2.out.drewN _))))
      go_wp2
      go_ret
      exact ⟨rfl, HX.out _⟩
    · have hk' : kindB (lsts Q).flatten (k : Int) = 0 := by unfold kindB; rw [if_neg (by omega)]
      rw [hk']
      have hcc := fun w' (h : RefAt w' b g cap Q) => rcells_any h hg
      generalize (lsts Q).flatten.length = N at hk hcc
      have HC : Hid (∀ w', RefAt w' b g cap Q → Calls Tryz.prog 55 #[.pointer (some ⟨b, 0, none⟩)] w' fun e w'' => e = .returned (.int .i64 (N : Int)) ∧ ∃ n, w'' = w'.drewN n) := hcc
      clear h hg hk' hsm hcc
      go_enter Tryz.func91, Tryz.ntmps91
      go_wp2_with (go_at_call 55; (with_reducible refine (HC.out _ HR.out).mono ?_); rintro e w' ⟨rfl, n, rfl⟩)
      go_ret
      exact ⟨rfl, _, rfl⟩
end Go.Proofs.YtekhlaodlagbdaaGreatDoor
