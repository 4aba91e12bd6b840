/-
  The document's window.
-/
import Derived.Test.YtcbgadjnheagmaaDoorWi9
namespace Go.Proofs.YtcbgadjnheagmaaDoor
set_option maxRecDepth 100000
set_option linter.unusedSimpArgs false
open Go Go.RowKit

/-- The document's window in memory: numbers that were met. -/
def RefAt (w : World) (r base : Nat) (L : List Nat) : Prop := r < base ∧ ∃ v, w.heap[r]? = some (.cells #[.int .u32 0, v] 30 (0, 0)) ∧ w.ownsRow base 23 1 v L.length (L.map u32V)
theorem RefAt.open_ {w : World} {r base : Nat} {L : List Nat} (h : RefAt w r base L) : ∃ a c, (w.cell? ⟨r, 0, none⟩ = some (.int .u32 0) ∧ w.cell? ⟨r, 1, none⟩ = some (.slice a L.length c) ∧ w.frozen? ⟨r, 1, none⟩ = false) ∧ w.heap[r]? = some (.cells #[.int .u32 0, .slice a L.length c] 30 (0, 0)) ∧ w.ownsRow base 23 1 (.slice a L.length c) L.length (L.map u32V) ∧ ∀ j, j < L.length → ∃ g, a = some ⟨g, 0, none⟩ ∧ w.cell? ⟨g, j, none⟩ = some (.int .u32 ((L.getD j 0 : Nat) : Int)) := by
  obtain ⟨h0, v, h1, h2⟩ := h
  obtain ⟨a, c, rfl, _, h3⟩ := IsU.of_row h2
  exact ⟨a, c, ⟨by rw [blk_cell h1]; rfl, by rw [blk_cell h1]; rfl, blk_free h1 1⟩, h1, h2, h3⟩
theorem RefAt.kept {w w' : World} {r base : Nat} {L : List Nat} {X : Nat → Prop} (h : RefAt w r base L) (hk : Kept X w w') (hr : ¬ X r) (hX : ∀ k, base ≤ k → k < w.heap.size → ¬ X k) : RefAt w' r base L := by
  obtain ⟨h0, v, h1, h2⟩ := h
  exact ⟨h0, v, (hk.block r (blk_lt h1) hr).trans h1, hk.row h2 (fun g e => hX g (h2.lt g e).1 (h2.lt g e).2)⟩

set_option maxHeartbeats 1000000 in
theorem rhas_any {w : World} {r base n : Nat} {L : List Nat} (h : RefAt w r base L) (hl : L.length ≤ 100000) :
    Calls Tryd.prog 18 #[.pointer (some ⟨r, 0, none⟩), .int .u32 (n : Nat)] w fun x w' => x = .returned (.bool (decide (n ∈ L))) ∧ w' = w := by
  obtain ⟨a, c, ⟨c0, c1, _⟩, _, _, hc⟩ := h.open_
  obtain ⟨P, hP⟩ : ∃ P : Ending → World → Prop, P = fun x w' => x = .returned (.bool (decide (n ∈ L))) ∧ w' = w := ⟨_, rfl⟩
  have HT : Hid (n ∈ L → P (.returned (.bool true)) w) := by rw [hP]; exact fun h => ⟨by rw [decide_eq_true h], rfl⟩
  have HF : Hid (n ∉ L → P (.returned (.bool false)) w) := by rw [hP]; exact fun h => ⟨by rw [decide_eq_false h], rfl⟩
  have HE : Hid (∀ j, j < L.length → (L.take (j + 1) = L.take j ++ [L.getD j 0]) ∧ L.getD j 0 ∈ L) := fun j hj => ⟨take_snoc_nat hj, by rw [List.getD_eq_getElem?_getD, List.getElem?_eq_getElem hj]; exact List.getElem_mem hj⟩
  have HA : Hid (L.take L.length = L) := List.take_length
  rw [← hP]
  clear hP h
  obtain ⟨N, hN⟩ : ∃ N, N = L.length := ⟨_, rfl⟩
  rw [← hN] at hl c1 hc HE HA
  have HC := Lib.hid hc
  have HL := Lib.hid hl
  clear hc hN hl
  have main : ∀ d1 : Bool, decide ((0 : Int) < (n : Int)) = d1 → decide ((n : Int) ≤ 0) = !d1 → decide (0 < n) = d1 →
      Calls Tryd.prog 18 #[.pointer (some ⟨r, 0, none⟩), .int .u32 (n : Nat)] w P := by
    intro d1 e1 e2 e3
    cases d1
    · go_enter Tryd.func18, Tryd.ntmps18
      go_wp2
      go_loopw [5] (fun i wr => ∃ j : Nat, j ≤ N ∧ i = .int .i64 (j : Int) ∧ n ∉ L.take j ∧ w = wr) (fun i _ => N - (intOf i).toNat)
      case atStart => exact ⟨0, Nat.zero_le _, rfl, by simp, rfl⟩
      case round =>
        obtain ⟨j, hj, rfl, hn, rfl⟩ := hrel
        by_cases hjN : j < N
        · obtain ⟨g, rfl, cg⟩ := HC.out j hjN
          obtain ⟨ht, hm⟩ := HE.out j hjN
          generalize hx : L.getD j 0 = x at *
          clear hx
          have q0 : (0 : Int) ≤ (j : Int) := by omega
          have q1 : (j : Int) < (N : Int) := by omega
          have d2 : decide ((j : Int) < (N : Int)) = true := by simpa using hjN
          have d3 : decide (j < N) = true := by simpa using hjN
          have q2 : IntKind.i64.wrap ((j : Int) + 1) = (j : Int) + 1 := IntWalk.i64_in _ (by have := HL.out; omega)
          have HJ := Lib.hid hjN
          by_cases hxn : x = n
          · have HQ := Lib.hid (HT.out (hxn ▸ hm))
            subst hxn
            clear hn ht hm hj hjN
            go_wp2
            first | exact HQ.out | (go_ret; exact HQ.out)
          · have HS : Hid (n ∉ L.take (j + 1)) := by
              show ¬ _
              rw [ht]
              intro hh
              rcases List.mem_append.1 hh with h5 | h5
              · exact hn h5
              · exact hxn (List.mem_singleton.1 h5).symm
            have d4 : ((x : Int) == (n : Int)) = false := by
              have : ¬ (x : Int) = (n : Int) := by omega
              simpa using this
            have d5 : (x == n) = false := by simpa using hxn
            clear hn ht hm hj hjN hxn
            go_wp2
            exact ⟨⟨j + 1, HJ.out, by push_cast; rfl, HS.out, by trivial⟩, by simp [intOf]; have := HJ.out; omega⟩
        · obtain rfl : j = N := by omega
          rw [HA.out] at hn
          have HQ := Lib.hid (HF.out hn)
          have d2 : decide ((j : Int) < (j : Int)) = false := by simp
          clear hn hj hjN
          go_wp2
          first | exact HQ.out | (go_ret; exact HQ.out)
    · simp only [Bool.not_true] at e2
      have e4 : ¬ n = 0 := by have := of_decide_eq_true e3; omega
      go_enter Tryd.func18, Tryd.ntmps18
      go_wp2
      go_loopw [5] (fun i wr => ∃ j : Nat, j ≤ N ∧ i = .int .i64 (j : Int) ∧ n ∉ L.take j ∧ w = wr) (fun i _ => N - (intOf i).toNat)
      case atStart => exact ⟨0, Nat.zero_le _, rfl, by simp, rfl⟩
      case round =>
        obtain ⟨j, hj, rfl, hn, rfl⟩ := hrel
        by_cases hjN : j < N
        · obtain ⟨g, rfl, cg⟩ := HC.out j hjN
          obtain ⟨ht, hm⟩ := HE.out j hjN
          generalize hx : L.getD j 0 = x at *
          clear hx
          have q0 : (0 : Int) ≤ (j : Int) := by omega
          have q1 : (j : Int) < (N : Int) := by omega
          have d2 : decide ((j : Int) < (N : Int)) = true := by simpa using hjN
          have d3 : decide (j < N) = true := by simpa using hjN
          have q2 : IntKind.i64.wrap ((j : Int) + 1) = (j : Int) + 1 := IntWalk.i64_in _ (by have := HL.out; omega)
          have HJ := Lib.hid hjN
          by_cases hxn : x = n
          · have HQ := Lib.hid (HT.out (hxn ▸ hm))
            subst hxn
            clear hn ht hm hj hjN
            go_wp2
            first | exact HQ.out | (go_ret; exact HQ.out)
          · have HS : Hid (n ∉ L.take (j + 1)) := by
              show ¬ _
              rw [ht]
              intro hh
              rcases List.mem_append.1 hh with h5 | h5
              · exact hn h5
              · exact hxn (List.mem_singleton.1 h5).symm
            have d4 : ((x : Int) == (n : Int)) = false := by
              have : ¬ (x : Int) = (n : Int) := by omega
              simpa using this
            have d5 : (x == n) = false := by simpa using hxn
            clear hn ht hm hj hjN hxn
            go_wp2
            exact ⟨⟨j + 1, HJ.out, by push_cast; rfl, HS.out, by trivial⟩, by simp [intOf]; have := HJ.out; omega⟩
        · obtain rfl : j = N := by omega
          rw [HA.out] at hn
          have HQ := Lib.hid (HF.out hn)
          have d2 : decide ((j : Int) < (j : Int)) = false := by simp
          clear hn hj hjN
          go_wp2
          first | exact HQ.out | (go_ret; exact HQ.out)
  by_cases h0 : n = 0
  · subst h0; exact main false rfl rfl rfl
  · exact main true (by simp; omega) (by simp; omega) (by simp; omega)
end Go.Proofs.YtcbgadjnheagmaaDoor
