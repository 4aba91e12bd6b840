/-
  The document's Read.
-/
import Derived.Test.YtmfbokaaoffdnaaDoorWrGb
import Derived.Test.YtmfbokaaoffdnaaDoorWrBb
import Derived.Test.YtmfbokaaoffdnaaDoorWrN0
namespace Go.Proofs.YtmfbokaaoffdnaaDoor
set_option maxRecDepth 100000
set_option linter.unusedSimpArgs false
open Go Go.RowKit Wr
attribute [local go_sem] Oper.semAt_some

/-- Every other byte. -/
def evs (l : List Nat) (j : Nat) : List Nat := (List.range j).map (fun k => l.getD (2 * k) 0)
def half (n : Nat) : Nat := (n + 1) / 2
theorem evs_succ (l : List Nat) (j : Nat) : evs l (j + 1) = evs l j ++ [l.getD (2 * j) 0] := by unfold evs; rw [List.range_succ, List.map_append]; rfl
theorem evs_len (l : List Nat) (j : Nat) : (evs l j).length = j := by unfold evs; simp
theorem evs_lt {l : List Nat} (h : ∀ c ∈ l, c < 256) (j : Nat) : ∀ c ∈ evs l j, c < 256 := by
  intro c hc
  unfold evs at hc
  obtain ⟨k, _, rfl⟩ := List.mem_map.1 hc
  rw [List.getD_eq_getElem?_getD]
  rcases Nat.lt_or_ge (2 * k) l.length with h1 | h1
  · rw [List.getElem?_eq_getElem h1]; exact h _ (List.getElem_mem h1)
  · rw [List.getElem?_eq_none h1]; decide
theorem evs_dbl (l : List Nat) : evs (dbl l) (half (dbl l).length) = l := by
  have e : half (dbl l).length = l.length := by rw [dbl_length]; unfold half; omega
  rw [e]
  refine List.ext_getElem? (fun k => ?_)
  unfold evs
  rw [List.getElem?_map]
  rcases Nat.lt_or_ge k l.length with h | h
  · rw [List.getElem?_range h, Option.map_some, List.getD_eq_getElem?_getD, (dbl_get l k).1, List.getElem?_eq_getElem h]; rfl
  · rw [List.getElem?_eq_none (by simpa using h), List.getElem?_eq_none h]; rfl
/-- What is guessed of bytes. -/
def gss (l : List Nat) : Pkt := Gu.guP (evs l (half l.length))
theorem gss_bytes {p : Pkt} (h : okP p = true) (hf : Fits p) : gss (Wr.bytes p) = p := by
  unfold gss Wr.bytes
  rw [evs_dbl]
  exact Gu.gu_plain h hf
theorem gss_some {l : List Nat} (hl : ∀ c ∈ l, c < 256) {p : Pkt} (h : readF l = some p) : gss l = p ∧ okP p = true ∧ Fits p ∧ Wr.bytes p = l := by
  obtain ⟨h1, h2, h3⟩ := read_some hl h
  exact ⟨by rw [h1]; exact gss_bytes h2 h3, h2, h3, h1.symm⟩
theorem gss_none {l : List Nat} (h : readF l = none) (hf : Fits (gss l)) (hok : okP (gss l) = true) : Wr.bytes (gss l) ≠ l := by
  intro e
  have := read_bytes hok hf
  rw [e, h] at this
  cases this
theorem fold_gen {l : List Nat} (hlt : ∀ a k, takF l a k < 256 ^ k) : ∀ (nm : List Nat) (s : Msg × Nat), (s.1.gen < 4294967296 ∧ s.1.stamp < 18446744073709551616 ∧ ∀ c ∈ s.1.claims, c.2 < 4294967296) →
    ((nm.foldl (Gu.stepM l) s).1.gen < 4294967296 ∧ (nm.foldl (Gu.stepM l) s).1.stamp < 18446744073709551616 ∧ ∀ c ∈ (nm.foldl (Gu.stepM l) s).1.claims, c.2 < 4294967296)
  | [], s, h => h
  | c :: nm, s, h => by
    rw [List.foldl_cons]
    refine fold_gen hlt nm _ ?_
    have e4 : (256 : Nat) ^ 4 = 4294967296 := by decide
    have e8 : (256 : Nat) ^ 8 = 18446744073709551616 := by decide
    unfold Gu.stepM
    split
    · exact h
    · split
      · exact ⟨by have := hlt s.2 4; rw [e4] at this; exact this, h.2⟩
      · split
        · exact ⟨h.1, by have := hlt s.2 8; rw [e8] at this; exact this, h.2.2⟩
        · split
          · exact h
          · split
            · exact h
            · split
              · exact h
              · split
                · exact h
                · split
                  · refine ⟨h.1, h.2.1, fun x hx => ?_⟩
                    rcases List.mem_append.1 hx with hx | hx
                    · exact h.2.2 x hx
                    · unfold Gu.clms at hx
                      obtain ⟨k, _, rfl⟩ := List.mem_map.1 hx
                      have := hlt (s.2 + 1 + 6 * k + 2) 4
                      rw [e4] at this
                      exact this
                  · exact h
theorem gu_fits {l : List Nat} (hlt : ∀ c ∈ l, c < 256) : Fits (Gu.guP l) := by
  have e4 : (256 : Nat) ^ 4 = 4294967296 := by decide
  have hk : ∀ a k, takF l a k < 256 ^ k := fun a k => takF_lt hlt a k
  have h4 : ∀ a, takF l a 4 < 4294967296 := fun a => by have := hk a 4; rw [e4] at this; exact this
  obtain ⟨g1, g2, g3⟩ := fold_gen hk (nmI (takF l 18 1 : Nat)) (Gu.msg0 (takF l 18 1 : Nat), 19) ⟨by simp [Gu.msg0], by simp [Gu.msg0], by simp [Gu.msg0]⟩
  exact ⟨h4 2, h4 6, h4 10, h4 14, g1, g2, g3⟩
theorem strN_ne {a b : List Nat} (ha : ∀ c ∈ a, c < 256) (hb : ∀ c ∈ b, c < 256) (h : a ≠ b) : strN a ≠ strN b := by
  intro e
  apply h
  have e1 : (strN a).data.toList = (strN b).data.toList := by rw [e]
  have e2 : a.map UInt8.ofNat = b.map UInt8.ofNat := by simpa [strN] using e1
  have key : ∀ l : List Nat, (∀ c ∈ l, c < 256) → (l.map UInt8.ofNat).map UInt8.toNat = l := by
    intro l hl
    rw [List.map_map]
    conv => rhs; rw [← List.map_id l]
    refine List.map_congr_left (fun c hc => ?_)
    simp [Function.comp, Nat.mod_eq_of_lt (hl c hc)]
  rw [← key a ha, ← key b hb, e2]
end Go.Proofs.YtmfbokaaoffdnaaDoor
