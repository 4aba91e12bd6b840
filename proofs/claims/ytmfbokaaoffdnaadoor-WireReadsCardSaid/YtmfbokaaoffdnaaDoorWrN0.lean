/-
  The law WireBack.
-/
import Derived.Test.YtmfbokaaoffdnaaDoorWrM
import Derived.Test.YtmfbokaaoffdnaaDoorWrJ0
import Derived.Laws.IdiomStrings
namespace Go.Proofs.YtmfbokaaoffdnaaDoor
set_option maxRecDepth 100000
set_option linter.unusedSimpArgs false
open Go Go.RowKit Wr

def strN (l : List Nat) : ByteArray := ⟨(l.map UInt8.ofNat).toArray⟩
theorem conv_bytes {w : World} {A : Option Addr} {l : List Nat} (cap : Nat) (h : BytesAt w A l) (hlt : ∀ c ∈ l, c < 256) :
    (convert 34 9 (.slice A l.length cap)).run Tryd.prog w = .ok (.string (strN l)) w := by
  have h1 : Tryd.prog.underlying 34 = some (.slice 5) := by kernel_rfl
  have h2 : Tryd.prog.underlying 5 = some (.int .u8) := by kernel_rfl
  have h3 : Tryd.prog.underlying 9 = some .string := by kernel_rfl
  cases A with
  | none =>
    have hl : l = [] := by
      cases l with
      | nil => rfl
      | cons c l => obtain ⟨a, ha, _⟩ := h 0 (by simp); cases ha
    subst hl
    exact run_convert_bytes_nil w _ _ h1 h2 _ _ _ h3
  | some a =>
    have := run_convert_bytes_back w _ _ _ a cap (l.map UInt8.ofNat) h1 h2 h3 (by
      intro j hj
      rw [List.length_map] at hj
      obtain ⟨a', ha, hc⟩ := h j hj
      cases ha
      rw [hc]
      have hlt' := hlt _ (List.getElem_mem hj)
      simp [byV, List.getD, hj, Nat.mod_eq_of_lt hlt'])
    rw [List.length_map] at this
    exact this
theorem readF_nil : readF [] = none := by decide +kernel
theorem pktZ_no : okP ⟨0, 0, 0, 0, 0, 0, ⟨0, 0, 0, 0, 0, 0, 0, 0, []⟩⟩ = false := by decide +kernel
theorem bytes_zero {w : World} (hT : Tab w) : Calls Tryd.prog 9 #[.agg pktZ] w fun e w' => e = .returned (.tuple #[.slice none 0 0, .int .i64 71]) ∧ Below w.heap.size w w' := by
  have := bytesB_any hT ⟨0, 0, 0, 0, 0, 0, ⟨0, 0, 0, 0, 0, 0, 0, 0, []⟩⟩ 0 (A := none) (fun k hk => by simp at hk) (by decide) ⟨by decide, by decide, by decide, by decide, by decide, by decide, fun c hc => by simp at hc⟩
  refine Calls.mono (P := Tryd.prog) (h := this) ?_
  rintro e w' ⟨hb, ⟨_, rfl⟩ | ⟨h, _⟩⟩
  · exact ⟨rfl, hb⟩
  · rw [pktZ_no] at h; cases h

end Go.Proofs.YtmfbokaaoffdnaaDoor
