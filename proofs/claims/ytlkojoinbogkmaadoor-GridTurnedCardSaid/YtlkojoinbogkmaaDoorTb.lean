/-
  The walk of the law GridTurned: the text upside down is built.
-/
import Derived.Test.YtlkojoinbogkmaaDoorMany
import Derived.Test.YtlkojoinbogkmaaDoorTurn
import Derived.Laws.IdiomStrings
namespace Go.Proofs.YtlkojoinbogkmaaDoor
set_option maxRecDepth 100000
set_option linter.unusedSimpArgs false
open Go.RowKit

/-- string([]byte{c}). -/
theorem conv_one (w : World) (c : UInt8) (v : Int) (hv : v = (c.toNat : Int)) : (convert 41 9 (.slice (some ⟨w.heap.size, 0, none⟩) 1 1)).run Tryd.prog (w.alloc (.cells #[.int .u8 v] 5)) = .ok (.string ⟨#[c]⟩) (w.alloc (.cells #[.int .u8 v] 5)) := by
  subst hv
  have := run_convert_bytes_back (P := Tryd.prog) (w.alloc (.cells #[.int .u8 (c.toNat : Int)] 5)) 41 9 5 ⟨w.heap.size, 0, none⟩ 1 [c] Tryd.underlying41 Tryd.underlying5 Tryd.underlying9 (by
    intro j hj
    have hj0 : j = 0 := by simpa using hj
    subst hj0
    have e : (⟨w.heap.size, 0, none⟩ : Addr).add 0 = ⟨w.heap.size, 0, none⟩ := by unfold Addr.add; simp
    rw [e, blk_cell (World.alloc_heap_new w _)]
    rfl)
  simpa using this

theorem turned_row {L : List (List UInt8)} (hG : Pure.Good L) {p c : Nat} (hp : p < L.length) (hc : c < Pure.wid L) : ∃ row, (turned L)[p]? = some row ∧ row[c]? = some (turnC (L.flatten.getD ((L.length - 1 - p) * Pure.wid L + c) 0)) ∧ row.length = Pure.wid L := by
  have h1 := row_cell hG (k := L.length - 1 - p) (j := c) (by omega) hc
  have hp2 : L.length - 1 - p < L.length := by omega
  refine ⟨L[L.length - 1 - p].map turnC, ?_, ?_, ?_⟩
  · unfold turned
    rw [List.getElem?_map, List.getElem?_reverse hp, List.getElem?_eq_getElem hp2]
    rfl
  · have hl := hG.row L[L.length - 1 - p] (List.getElem_mem hp2)
    rw [List.getElem?_map, List.getElem?_eq_getElem (by omega)]
    simp only [List.getD, h1, Option.map_some, Option.getD_some]
  · rw [List.length_map]
    exact hG.row _ (List.getElem_mem hp2)

/-- The text behind p rows and c cells. -/
def tb (L : List (List UInt8)) (p c : Nat) : List UInt8 := Pure.text ((turned L).take p) ++ (((turned L)[p]?).getD []).take c

theorem tb_cell {L : List (List UInt8)} (hG : Pure.Good L) {p c : Nat} (hp : p < L.length) (hc : c < Pure.wid L) : tb L p (c + 1) = tb L p c ++ [turnC (L.flatten.getD ((L.length - 1 - p) * Pure.wid L + c) 0)] := by
  obtain ⟨row, h1, h2, h3⟩ := turned_row hG hp hc
  unfold tb
  rw [h1, Option.getD_some, List.take_add_one, h2, List.append_assoc]
  rfl
theorem tb_row {L : List (List UInt8)} (hG : Pure.Good L) {p : Nat} (hp : p < L.length) : tb L (p + 1) 0 = tb L p (Pure.wid L) ++ [10] := by
  obtain ⟨row, h1, _, h3⟩ := turned_row hG hp (c := 0) (by have := hG.lo; omega)
  have e : row.take (Pure.wid L) = row := List.take_of_length_le (by omega)
  unfold tb
  rw [h1, Option.getD_some, e, List.take_zero, List.append_nil, List.take_add_one, h1]
  simp [Pure.text]
theorem tb_end {L : List (List UInt8)} : tb L L.length 0 = Pure.text (turned L) := by
  unfold tb
  rw [List.take_zero, List.append_nil, List.take_of_length_le (by simp [turned])]
theorem tb_len {L : List (List UInt8)} (hG : Pure.Good L) {p c : Nat} (hc : c ≤ Pure.wid L) : (tb L p c).length ≤ 2000 := by
  have hk : ∀ M : List (List UInt8), (∀ x ∈ M, x.length ≤ 32) → (Pure.text M).length ≤ 33 * M.length := by
    intro M
    induction M with
    | nil => intro _; simp [Pure.text]
    | cons a M ih =>
      intro h
      have h1 := h a (by simp)
      have h2 := ih (fun x hx => h x (by simp [hx]))
      simp only [Pure.text, List.flatMap_cons, List.length_append, List.length_cons, List.length_nil] at h2 ⊢
      omega
  have h2 := turned_good hG
  have h3 := hk ((turned L).take p) (fun x hx => by rw [h2.row x (List.mem_of_mem_take hx)]; exact h2.hi)
  have h4 : ((turned L).take p).length ≤ 32 := by rw [List.length_take]; have := h2.len; omega
  unfold tb
  rw [List.length_append, List.length_take]
  have := hG.hi
  omega
end Go.Proofs.YtlkojoinbogkmaaDoor
