/-
  The walk of grid.Map's All.
-/
import Derived.Test.YtlkojoinbogkmaaDoorW3
namespace Go.Proofs.YtlkojoinbogkmaaDoor
set_option maxRecDepth 100000
open Go.RowKit

/-- The free cells among the first k. -/
def freeK (ms : List UInt8) (k : Nat) : List Nat := (List.range k).filter (fun i => ms.getD i 0 != 35)
def natV (i : Nat) : Value := .int .i64 (i : Int)

theorem freeK_hit {ms : List UInt8} {k : Nat} (h : (ms.getD k 0 != 35) = true) : freeK ms (k + 1) = freeK ms k ++ [k] := by simp only [freeK, List.range_succ, List.filter_append, List.filter_cons, h, List.filter_nil, if_true]
theorem freeK_miss {ms : List UInt8} {k : Nat} (h : (ms.getD k 0 != 35) = false) : freeK ms (k + 1) = freeK ms k := by simp only [freeK, List.range_succ, List.filter_append, List.filter_cons, h, List.filter_nil, Bool.false_eq_true, if_false, List.append_nil]
theorem freeK_le (ms : List UInt8) (k : Nat) : (freeK ms k).length ≤ k := Nat.le_trans (List.length_filter_le _ _) (by simp)

theorem Tryd.infoInt : (Tryd.prog.info? 3).map (fun i => (i.zero, i.size, i.bytes)) = some (some (.int .i64 0), 1, 8) := by kernel_rfl

theorem freeB_nat {ms : List UInt8} {k : Nat} (h : k < ms.length) : freeB ms (k : Int) = (ms.getD k 0 != 35) := by simp [freeB, h]

/-- The free cells. -/
def frees (ms : List UInt8) : List Nat := freeK ms ms.length

/-- What All leaves: a list of its own that holds the free cells. -/
def AllPost (ms : List UInt8) (w : World) (e : Ending) (w' : World) : Prop :=
  ∃ a cap, e = .returned (.slice a (frees ms).length cap) ∧ w'.ownsRow w.heap.size 3 1 (.slice a (frees ms).length cap) (frees ms).length ((frees ms).map natV) ∧ Below w.heap.size w w'

theorem all_post {ms : List UInt8} {w w' : World} {v : Value} (hown : w'.ownsRow w.heap.size 3 1 v (freeK ms ms.length).length ((freeK ms ms.length).map natV)) (hb : Below w.heap.size w w') : AllPost ms w (.returned v) w' := by
  have h2 := hown.2
  rcases h2 with ⟨h, h0⟩ | ⟨g, cap, _, h, _⟩
  · subst h
    exact ⟨none, 0, by simp [frees, h0], by simpa [frees, h0] using hown, hb⟩
  · subst h
    exact ⟨some ⟨g, 0, none⟩, cap, rfl, hown, hb⟩

set_option maxHeartbeats 400000 in
theorem all_any (b g cap : Nat) (ms : List UInt8) (w : World) (hn : ms.length ≤ 100000) (hb : b < w.heap.size) (hg : g < w.heap.size) (hm : w.cell? ⟨b, 2, none⟩ = some (.slice (some ⟨g, 0, none⟩) ms.length cap))
    (hc : ∀ j, j < ms.length → w.cell? ⟨g, j, none⟩ = some (byteV (ms.getD j 0))) :
    Calls Tryd.prog 27 #[.pointer (some ⟨b, 0, none⟩)] w (AllPost ms w) := by
  obtain ⟨i0, hi, hz0, hz1, hz2⟩ := info_parts Tryd.infoInt
  have HC : Hid (∀ j, j < ms.length → w.cell? ⟨g, j, none⟩ = some (byteV (ms.getD j 0))) := hc
  clear hc
  go_enter Tryd.func27, Tryd.ntmps27
  go_wp2_with (go_at_call 22; refine (cells_any _ _ _ _ _ hm).mono ?_; rintro e w' ⟨rfl, rfl⟩)
  go_loopw [3, 7] (fun v i wr => ∃ k : Nat, k ≤ ms.length ∧ i = .int .i64 k ∧ wr.ownsRow w.heap.size 3 1 v (freeK ms k).length ((freeK ms k).map natV) ∧ Below w.heap.size w wr) (fun _ i _ => ms.length - (intOf i).toNat)
  case atStart => exact ⟨0, Nat.zero_le _, rfl, World.ownsRow_nil _ _ _ _, Below.refl _ _⟩
  case round =>
    obtain ⟨k, hk, rfl, hown, hnx⟩ := hrel
    have hmr : wr.cell? ⟨b, 2, none⟩ = some (.slice (some ⟨g, 0, none⟩) ms.length cap) := (hnx.cell (p := ⟨b, 2, none⟩) hb).trans hm
    have hcr : Hid (∀ j, j < ms.length → wr.cell? ⟨g, j, none⟩ = some (byteV (ms.getD j 0))) := fun j hj => (hnx.cell (p := ⟨g, j, none⟩) hg).trans (HC.out j hj)
    have hle := freeK_le ms k
    by_cases hlt : k < ms.length
    · by_cases hf : (ms.getD k 0 != 35) = true
      · have hfb := freeB_nat hlt
        rw [hf] at hfb
        have hit : Hid (freeK ms (k + 1) = freeK ms k ++ [k]) := freeK_hit hf
        clear hf
        go_wp2_with (first
          | (go_at_call 23; refine (free_any _ _ _ _ _ _ hmr hcr.out).mono ?_; rintro e w' ⟨rfl, rfl⟩; rw [hfb])
          | (at_builtin; refine wpList_append_own _ rfl _ _ 30 rfl w.heap.size 3 i0 (.int .i64 0) 1 8 Tryd.underlying30 hi hz0 hz1 hz2 rfl (by decide) _ _ _ rfl (hown.alloc _) ⟨wr.heap.size, 0, none⟩ 1 1 [natV k] rfl rfl ?c1 ?c2 ?c3 ?c4 ?c5 ?_))
        case c1 => intro j u hj; match j, hj with | 0, hj => simp at hj; subst hj; simp [Addr.add, natV]
        case c2 => intro u hu; simp at hu; subst hu; rfl
        case c3 => unfold maxLen; omega
        case c4 => omega
        case c5 => have := hnx.size; simp; omega
        intro v' w1 hown' hgrow _
        have hnx1 : Below w.heap.size w w1 := (hnx.alloc hnx.size _).grown hgrow (by simp; have := hnx.size; omega) (fun j hj => (hown.lt j hj).1)
        have hown1 : w1.ownsRow w.heap.size 3 1 v' (freeK ms (k + 1)).length ((freeK ms (k + 1)).map natV) := by rw [hit.out]; simpa using hown'
        clear hgrow hown' hown
        go_wp2
        go_roundw
        case rel => exact ⟨k + 1, by omega, by go_num, hown1, hnx1⟩
        case measure => simp [intOf]; omega
      · have hf' : (ms.getD k 0 != 35) = false := by simpa using hf
        have hfb := freeB_nat hlt
        rw [hf'] at hfb
        have hit : Hid (freeK ms (k + 1) = freeK ms k) := freeK_miss hf'
        clear hf hf'
        go_wp2_with (go_at_call 23; refine (free_any _ _ _ _ _ _ hmr hcr.out).mono ?_; rintro e w' ⟨rfl, rfl⟩; rw [hfb])
        go_roundw
        case rel => exact ⟨k + 1, by omega, by go_num, by rw [hit.out]; exact hown, hnx⟩
        case measure => simp [intOf]; omega
    · obtain rfl : k = ms.length := by omega
      go_wp2
      go_ret
      exact all_post hown hnx

/-- A list of bytes in memory, cell by cell. -/
theorem byte_cells {w : World} {base g cap : Nat} {ms : List UInt8} {e : TypeId} (h : w.ownsRow base e 1 (.slice (some ⟨g, 0, none⟩) ms.length cap) ms.length (ms.map byteV)) :
    ∀ j, j < ms.length → w.cell? ⟨g, j, none⟩ = some (byteV (ms.getD j 0)) := by
  intro j hj
  have := h.cells (g := g) rfl j (byteV (ms.getD j 0)) (by simp [List.getD, hj])
  have e : (⟨g, 0, none⟩ : Addr).add j = ⟨g, j, none⟩ := by unfold Addr.add; split <;> simp_all
  rw [e] at this
  exact this

theorem frees_none (ms : List UInt8) : (frees ms).length = 0 ↔ ms.all (· == 35) = true := by
  rw [List.length_eq_zero_iff, frees, freeK, List.filter_eq_nil_iff, List.all_eq_true]
  constructor
  · intro h c hc
    obtain ⟨j, hj, rfl⟩ := List.getElem_of_mem hc
    have := h j (by simpa using hj)
    simpa [List.getD, hj] using this
  · intro h j hj
    have hj' : j < ms.length := by simpa using hj
    have := h ms[j] (by simp)
    simpa [List.getD, hj'] using this

end Go.Proofs.YtlkojoinbogkmaaDoor
