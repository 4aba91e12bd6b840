/-
  Len, has, Has, and the library's search.
-/
import Derived.Test.YtlcadkhhpnaofaaGMem
import Derived.Test.YtlcadkhhpnaofaaGLay
import Derived.RegionTactic
import Derived.ChangeAlike
import Derived.BigRegion
import Derived.Outline
namespace Go.Proofs.Ytlcadkhhpnaofaa
set_option maxRecDepth 100000
open Go Go.RowKit Gq

def gp (b : Nat) : Value := .pointer (some ⟨b, 0, none⟩)

theorem len_any {w : World} {b : Nat} {R : Gr} {S : Nat → Prop} (h : GAt w b R S) :
    Calls Try.prog 18 #[.pointer (some ⟨b, 0, none⟩)] w fun e w' => e = .returned (.int .i64 (R.length : Int)) ∧ w' = w := by
  obtain ⟨A, Vs, T, hc, hf, ht, _⟩ := h
  obtain ⟨P, cap, rfl⟩ := ht.form
  clear ht hf
  generalize R.length = n at *
  go_enter Try.func18, Try.ntmps18
  go_wp2
  go_ret
  exact ⟨rfl, rfl⟩
theorem len_nil (w : World) :
    Calls Try.prog 18 #[.pointer none] w fun e w' => e = .returned (.int .i64 0) ∧ w' = w := by
  go_enter Try.func18, Try.ntmps18
  go_wp2
  go_ret
  exact ⟨rfl, rfl⟩

/-- Whether a number is a node's. -/
def isNode (n : Nat) (a : Int) : Bool := decide (0 ≤ a) && decide (a < n)

theorem has_any {w : World} {b : Nat} {R : Gr} {S : Nat → Prop} (h : GAt w b R S) (a : Int) :
    Calls Try.prog 26 #[.pointer (some ⟨b, 0, none⟩), .int .i64 a] w fun e w' => e = .returned (.bool (isNode R.length a)) ∧ w' = w := by
  have HL := Lib.hid (len_any h)
  clear h
  unfold isNode
  generalize R.length = n at *
  by_cases h0 : 0 ≤ a
  · go_enter Try.func26, Try.ntmps26
    go_wp2_with fail
    refine HL.out.mono ?_
    rintro e w' ⟨rfl, rfl⟩
    go_wp2
    go_ret
    simp [h0]
  · go_enter Try.func26, Try.ntmps26
    go_wp2
    go_ret
    simp
    omega
theorem has_nil (w : World) (a : Int) :
    Calls Try.prog 26 #[.pointer none, .int .i64 a] w fun e w' => e = .returned (.bool false) ∧ w' = w := by
  by_cases h0 : 0 ≤ a
  · go_enter Try.func26, Try.ntmps26
    go_wp2_with fail
    refine (len_nil _).mono ?_
    rintro e w' ⟨rfl, rfl⟩
    go_wp2
    go_ret
    simp
    omega
  · go_enter Try.func26, Try.ntmps26
    go_wp2
    go_ret
    exact ⟨rfl, rfl⟩

/-- The library's search of a rising list. -/
theorem search_any {w : World} {v : Value} {l : List Nat} (h : RowAt w v l) (hl : l.length ≤ 100000) (hr : l.Pairwise (· < ·)) (x : Nat) :
    Calls Try.prog 27 #[v, .int .i64 (x : Int)] w fun e w' => e = .returned (.tuple #[.int .i64 ((l.countP (· < x) : Nat) : Int), .bool (decide (x ∈ l))]) ∧ ∃ q, w' = w.drewN q := by
  obtain ⟨A, cap, rfl, _, _, hnil, hc⟩ := h.form
  cases A with
  | none =>
    obtain ⟨rfl, rfl⟩ := hnil rfl
    go_enter Try.func27, Try.ntmps27
    go_wp2
    refine wp_loop_rounds 1 ?_
    rw [rounds_succ]
    go_wp2
    go_ret2
    exact ⟨by simp, 0, rfl⟩
  | some a =>
    by_cases h0 : l = []
    · subst h0
      go_enter Try.func27, Try.ntmps27
      go_wp2
      refine wp_loop_rounds 1 ?_
      rw [rounds_succ]
      go_wp2
      go_ret2
      exact ⟨by simp, 0, rfl⟩
    · have hpos : 0 < l.length := List.length_pos_iff.2 h0
      obtain ⟨g, e, _⟩ := hc 0 hpos
      cases e
      have hz : (l.map (fun n : Nat => (n : Int))).length = l.length := by simp
      have := Any.slices_BinarySearch_int laySearch g 0 l.length cap (l.map (fun n : Nat => (n : Int))) (x : Int) w (by simp) (by omega) (fun j hj => by
        obtain ⟨g', e', h1, _⟩ := hc j (by simpa using hj)
        cases e'
        rw [Nat.zero_add, h1]
        simp [List.getD, show j < l.length by simpa using hj]) (by
        rw [List.take_of_length_le (by simp)]
        rw [List.pairwise_map]
        exact hr.imp (fun {a b} h => by omega))
      refine Calls.mono this fun e w' ⟨he, hw⟩ => ⟨?_, hw⟩
      rw [he, List.take_of_length_le (by simp)]
      have e1 : (l.map (fun n : Nat => (n : Int))).countP (fun y => decide (y < (x : Int))) = l.countP (fun y => decide (y < x)) := by
        rw [List.countP_map]
        congr 1
        funext y
        simp
      have e2 : (l.map (fun n : Nat => (n : Int))).contains (x : Int) = decide (x ∈ l) := by
        rw [Bool.eq_iff_iff]
        simp
        exact ⟨fun ⟨a, h, e⟩ => by have : a = x := by omega
                                   rw [← this]; exact h, fun h => ⟨x, h, rfl⟩⟩
      rw [e1, e2]

theorem gHas_any {w : World} {b : Nat} {R : Gr} {S : Nat → Prop} (h : GAt w b R S) (hO : Ok R) {a : Nat} (ha : a < R.length) (x : Nat) :
    Calls Try.prog 10 #[.pointer (some ⟨b, 0, none⟩), .int .i64 (a : Int), .int .i64 (x : Int)] w fun e w' => e = .returned (.bool (decide (x ∈ row R a))) ∧ ∃ q, w' = w.drewN q := by
  have HH := Lib.hid (has_any h (a : Int))
  obtain ⟨A, Vs, T, hc, hf, ht, _⟩ := h
  obtain ⟨g, cap, rfl, _, hc2, _⟩ := ht.head ha
  have HR := Lib.hid (search_any (ht.row a ha).1 (by have := hO.len a; have := hO.size; omega) (hO.rise a) x)
  have hn := hO.size
  have hnode : isNode R.length (a : Int) = true := by simp [isNode, ha]
  rw [hnode] at HH
  clear ht hf hO hnode
  generalize R.length = n at *
  generalize hd Vs a = v at *
  go_enter Try.func10, Try.ntmps10
  go_wp2_with fail
  refine HH.out.mono ?_
  rintro e w' ⟨rfl, rfl⟩
  go_wp2_with fail
  refine HR.out.mono ?_
  rintro e w' ⟨rfl, q, rfl⟩
  obtain ⟨r, hr⟩ : ∃ r, decide (x ∈ row R a) = r := ⟨_, rfl⟩
  rw [hr]
  have HR2 := Lib.hid hr
  clear hr HR
  go_wp2
  go_ret
  exact ⟨by rw [HR2.out]; rfl, q, rfl⟩
theorem gHas_out {w : World} {b : Nat} {R : Gr} {S : Nat → Prop} (h : GAt w b R S) {a : Int} (ha : isNode R.length a = false) (x : Int) :
    Calls Try.prog 10 #[.pointer (some ⟨b, 0, none⟩), .int .i64 a, .int .i64 x] w fun e w' => e = .returned (.bool false) ∧ w' = w := by
  have HH := Lib.hid (has_any h a)
  rw [ha] at HH
  clear h
  go_enter Try.func10, Try.ntmps10
  go_wp2_with fail
  refine HH.out.mono ?_
  rintro e w' ⟨rfl, rfl⟩
  go_wp2
  go_ret
  exact ⟨rfl, rfl⟩
theorem gHas_nil (w : World) (a x : Int) :
    Calls Try.prog 10 #[.pointer none, .int .i64 a, .int .i64 x] w fun e w' => e = .returned (.bool false) ∧ w' = w := by
  go_enter Try.func10, Try.ntmps10
  go_wp2_with fail
  refine (has_nil _ _).mono ?_
  rintro e w' ⟨rfl, rfl⟩
  go_wp2
  go_ret
  exact ⟨rfl, rfl⟩
end Go.Proofs.Ytlcadkhhpnaofaa
