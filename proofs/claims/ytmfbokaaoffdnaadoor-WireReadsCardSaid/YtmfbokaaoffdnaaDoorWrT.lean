/-
  The document's Name, names and has.
-/
import Derived.Test.YtmfbokaaoffdnaaDoorWrN0
namespace Go.Proofs.YtmfbokaaoffdnaaDoor
set_option maxRecDepth 100000
set_option linter.unusedSimpArgs false
open Go Go.RowKit Wr

/-- The letters of a kind's fields. -/
def nmL : List (List Nat) := [[], [99, 115, 112], [99, 103, 115], [99, 103], [], [99, 115, 119], [99, 111, 119, 112, 104], [111, 119], [99, 112], [], [99, 103], [108]]
def nmI (k : Int) : List Nat := if 0 ≤ k ∧ k < 12 then nmL.getD k.toNat [] else []
set_option maxHeartbeats 1000000 in
theorem rname_any (w : World) (k : Int) : Calls Tryd.prog 16 #[.int .i64 k] w fun e w' => e = .returned (wordI k) ∧ w' = w := by
  obtain ⟨P, hP⟩ : ∃ P : Ending → World → Prop, P = fun e w' => e = .returned (wordI k) ∧ w' = w := ⟨_, rfl⟩
  have HQ : Hid (P (.returned (wordI k)) w) := by rw [hP]; exact ⟨rfl, rfl⟩
  rw [← hP]
  clear hP
  by_cases hk : 1 ≤ k ∧ k ≤ 11
  · have cases_ : k = 1 ∨ k = 2 ∨ k = 3 ∨ k = 4 ∨ k = 5 ∨ k = 6 ∨ k = 7 ∨ k = 8 ∨ k = 9 ∨ k = 10 ∨ k = 11 := by omega
    rcases cases_ with rfl | rfl | rfl | rfl | rfl | rfl | rfl | rfl | rfl | rfl | rfl
    · go_enter Tryd.func16, Tryd.ntmps16
      go_wp2
      first | exact HQ.out | (go_ret; exact HQ.out)
    · go_enter Tryd.func16, Tryd.ntmps16
      go_wp2
      first | exact HQ.out | (go_ret; exact HQ.out)
    · go_enter Tryd.func16, Tryd.ntmps16
      go_wp2
      first | exact HQ.out | (go_ret; exact HQ.out)
    · go_enter Tryd.func16, Tryd.ntmps16
      go_wp2
      first | exact HQ.out | (go_ret; exact HQ.out)
    · go_enter Tryd.func16, Tryd.ntmps16
      go_wp2
      first | exact HQ.out | (go_ret; exact HQ.out)
    · go_enter Tryd.func16, Tryd.ntmps16
      go_wp2
      first | exact HQ.out | (go_ret; exact HQ.out)
    · go_enter Tryd.func16, Tryd.ntmps16
      go_wp2
      first | exact HQ.out | (go_ret; exact HQ.out)
    · go_enter Tryd.func16, Tryd.ntmps16
      go_wp2
      first | exact HQ.out | (go_ret; exact HQ.out)
    · go_enter Tryd.func16, Tryd.ntmps16
      go_wp2
      first | exact HQ.out | (go_ret; exact HQ.out)
    · go_enter Tryd.func16, Tryd.ntmps16
      go_wp2
      first | exact HQ.out | (go_ret; exact HQ.out)
    · go_enter Tryd.func16, Tryd.ntmps16
      go_wp2
      first | exact HQ.out | (go_ret; exact HQ.out)
  · have HF : Hid (P (.returned (.string ⟨#[]⟩)) w) := by
      have e : wordI k = .string ⟨#[]⟩ := by
        unfold wordI
        by_cases h : 0 ≤ k ∧ k < 12
        · have h0 : k = 0 := by omega
          subst h0; rfl
        · rw [if_neg h]
      rw [e] at HQ
      exact HQ
    have d1 : (k == 1) = false := by simp; omega
    have d2 : (k == 2) = false := by simp; omega
    have d3 : (k == 3) = false := by simp; omega
    have d4 : (k == 4) = false := by simp; omega
    have d5 : (k == 5) = false := by simp; omega
    have d6 : (k == 6) = false := by simp; omega
    have d7 : (k == 7) = false := by simp; omega
    have d8 : (k == 8) = false := by simp; omega
    have d9 : (k == 9) = false := by simp; omega
    have d10 : (k == 10) = false := by simp; omega
    have d11 : (k == 11) = false := by simp; omega
    clear hk HQ
    go_enter Tryd.func16, Tryd.ntmps16
    go_wp2
    first | exact HF.out | (go_ret; exact HF.out)

def nmV (k : Int) : Value := .string (strN (nmI k))
set_option maxHeartbeats 1000000 in
theorem rnames_any (w : World) (k : Int) : Calls Tryd.prog 19 #[.int .i64 k] w fun e w' => e = .returned (nmV k) ∧ w' = w := by
  obtain ⟨P, hP⟩ : ∃ P : Ending → World → Prop, P = fun e w' => e = .returned (nmV k) ∧ w' = w := ⟨_, rfl⟩
  have HQ : Hid (P (.returned (nmV k)) w) := by rw [hP]; exact ⟨rfl, rfl⟩
  rw [← hP]
  clear hP
  by_cases hk : 1 ≤ k ∧ k ≤ 11
  · have cases_ : k = 1 ∨ k = 2 ∨ k = 3 ∨ k = 4 ∨ k = 5 ∨ k = 6 ∨ k = 7 ∨ k = 8 ∨ k = 9 ∨ k = 10 ∨ k = 11 := by omega
    rcases cases_ with rfl | rfl | rfl | rfl | rfl | rfl | rfl | rfl | rfl | rfl | rfl
    · go_enter Tryd.func19, Tryd.ntmps19
      go_wp2
      first | exact HQ.out | (go_ret; exact HQ.out)
    · go_enter Tryd.func19, Tryd.ntmps19
      go_wp2
      first | exact HQ.out | (go_ret; exact HQ.out)
    · go_enter Tryd.func19, Tryd.ntmps19
      go_wp2
      first | exact HQ.out | (go_ret; exact HQ.out)
    · go_enter Tryd.func19, Tryd.ntmps19
      go_wp2
      first | exact HQ.out | (go_ret; exact HQ.out)
    · go_enter Tryd.func19, Tryd.ntmps19
      go_wp2
      first | exact HQ.out | (go_ret; exact HQ.out)
    · go_enter Tryd.func19, Tryd.ntmps19
      go_wp2
      first | exact HQ.out | (go_ret; exact HQ.out)
    · go_enter Tryd.func19, Tryd.ntmps19
      go_wp2
      first | exact HQ.out | (go_ret; exact HQ.out)
    · go_enter Tryd.func19, Tryd.ntmps19
      go_wp2
      first | exact HQ.out | (go_ret; exact HQ.out)
    · go_enter Tryd.func19, Tryd.ntmps19
      go_wp2
      first | exact HQ.out | (go_ret; exact HQ.out)
    · go_enter Tryd.func19, Tryd.ntmps19
      go_wp2
      first | exact HQ.out | (go_ret; exact HQ.out)
    · go_enter Tryd.func19, Tryd.ntmps19
      go_wp2
      first | exact HQ.out | (go_ret; exact HQ.out)
  · have HF : Hid (P (.returned (.string ⟨#[]⟩)) w) := by
      have e : nmV k = .string ⟨#[]⟩ := by
        unfold nmV nmI
        by_cases h : 0 ≤ k ∧ k < 12
        · have h0 : k = 0 := by omega
          subst h0; rfl
        · rw [if_neg h]; rfl
      rw [e] at HQ
      exact HQ
    have d1 : (k == 1) = false := by simp; omega
    have d2 : (k == 2) = false := by simp; omega
    have d3 : (k == 3) = false := by simp; omega
    have d4 : (k == 4) = false := by simp; omega
    have d5 : (k == 5) = false := by simp; omega
    have d6 : (k == 6) = false := by simp; omega
    have d7 : (k == 7) = false := by simp; omega
    have d8 : (k == 8) = false := by simp; omega
    have d9 : (k == 9) = false := by simp; omega
    have d10 : (k == 10) = false := by simp; omega
    have d11 : (k == 11) = false := by simp; omega
    clear hk HQ
    go_enter Tryd.func19, Tryd.ntmps19
    go_wp2
    first | exact HF.out | (go_ret; exact HF.out)

set_option maxHeartbeats 1000000 in
theorem has_any (w : World) (l : List Nat) (hl : ∀ c ∈ l, c < 256) (hn : l.length ≤ 100) (c : Nat) :
    Calls Tryd.prog 20 #[.string (strN l), .int .u8 (c : Nat)] w fun e w' => e = .returned (.bool (l.contains c)) ∧ w' = w := by
  obtain ⟨P, hP⟩ : ∃ P : Ending → World → Prop, P = fun e w' => e = .returned (.bool (l.contains c)) ∧ w' = w := ⟨_, rfl⟩
  have HQ : Hid (∀ b, b = l.contains c → P (.returned (.bool b)) w) := by rw [hP]; exact fun b h => ⟨by rw [h], rfl⟩
  rw [← hP]
  clear hP
  obtain ⟨S, hS⟩ : ∃ S, S = strN l := ⟨_, rfl⟩
  obtain ⟨n, hnn⟩ : ∃ n, n = l.length := ⟨_, rfl⟩
  have HNN := Lib.hid hnn
  have hsz : S.size = n := by rw [hS, hnn]; show ((l.map UInt8.ofNat).toArray).size = l.length; simp
  have HI : Hid (∀ i, i < n → ∀ W, (Instr.index 9 (.string S) (.int .i64 (i : Int))).run Tryd.prog W = .ok (.int .u8 ((l.getD i 0 : Nat) : Int)) W) := by
    intro i hi W
    rw [run_index_string W _ S .i64 i Tryd.underlying9, dif_pos ⟨by omega, by rw [hsz]; omega⟩]
    have hil : i < l.length := by omega
    have : (S[((i : Int)).toNat]'(by rw [hsz]; omega)).toNat = l.getD i 0 := by
      subst hS
      show ((l.map UInt8.ofNat).toArray[((i : Int)).toNat]'(by simp; omega)).toNat = _
      have h256 := hl _ (List.getElem_mem hil)
      simp [List.getD, hil, Nat.mod_eq_of_lt h256]
    rw [this]
  rw [← hS]
  rw [← hnn] at hn
  clear hS hnn hl
  go_enter Tryd.func20, Tryd.ntmps20
  go_wp2
  go_loopw [5] (fun v wr => ∃ i : Nat, i ≤ n ∧ v = .int .i64 (i : Int) ∧ (∀ j, j < i → l.getD j 0 ≠ c) ∧ w = wr) (fun v _ => n - (intOf v).toNat)
  case atStart => exact ⟨0, Nat.zero_le _, rfl, fun j hj => by omega, rfl⟩
  case round =>
    obtain ⟨i, hi, rfl, hno, rfl⟩ := hrel
    have HNO := Lib.hid hno
    clear hno
    by_cases hlt : i < n
    · have hx := HI.out i hlt
      have hil : i < l.length := by rw [← HNN.out]; exact hlt
      by_cases hc : l.getD i 0 = c
      · have HF := Lib.hid (HQ.out true (by
          have : c ∈ l := by rw [← hc, List.getD_eq_getElem?_getD, List.getElem?_eq_getElem hil]; exact List.getElem_mem hil
          simp [this]))
        rw [hc] at hx
        clear hil
        go_wp2
        first | exact HF.out | (go_ret; exact HF.out)
      · have HR : Hid (∀ j, j < i + 1 → l.getD j 0 ≠ c) := fun j hj => by
          by_cases e : j = i
          · subst e; exact hc
          · exact HNO.out j (by omega)
        generalize l.getD i 0 = x at *
        have d1 : ((x : Int) == (c : Int)) = false := by simp; omega
        clear hil
        go_wp2
        go_roundw
        case rel => exact ⟨i + 1, by omega, by go_num, HR.out, trivial⟩
        case measure => simp [intOf]; omega
    · obtain rfl : i = n := by omega
      have HF := Lib.hid (HQ.out false (by
        symm
        rw [Bool.eq_false_iff]
        intro h
        rw [List.contains_iff_mem] at h
        obtain ⟨j, hj, e⟩ := List.getElem_of_mem h
        exact HNO.out j (by rw [HNN.out]; exact hj) (by rw [List.getD_eq_getElem?_getD, List.getElem?_eq_getElem hj]; exact e)))
      go_wp2
      first | exact HF.out | (go_ret; exact HF.out)
end Go.Proofs.YtmfbokaaoffdnaaDoor
