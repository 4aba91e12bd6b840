/-
  The first of alarms.
-/
import Derived.Test.YtinihggcibghaaaAi
namespace Go.Proofs.Ytinihggcibghaaa
set_option maxRecDepth 100000
set_option linter.unusedSimpArgs false
open Go Go.RowKit

structure Alr where
  on : Bool
  at_ : Nat
  tr : Int
instance : Inhabited Alr := ⟨⟨false, 0, 0⟩⟩
def AlmAt (w : World) (A : Option Addr) (l : List Alr) : Prop :=
  ∀ k, k < l.length → ∃ a0, A = some a0 ∧ w.cell? (a0.add (k * 3)) = some (.bool (l.getD k default).on) ∧ w.cell? ⟨(a0.add (k * 3)).block, (a0.add (k * 3)).off + 1, none⟩ = some (.int .u64 ((l.getD k default).at_ : Nat)) ∧ w.cell? ⟨(a0.add (k * 3)).block, (a0.add (k * 3)).off + 2, none⟩ = some (.int .i64 (l.getD k default).tr)
theorem AlmAt.below {w W : World} {A : Option Addr} {l : List Alr} (h : AlmAt w A l) (hb : Below w.heap.size w W) : AlmAt W A l := fun k hk => by
  obtain ⟨a0, e, h1, h2, h3⟩ := h k hk
  exact ⟨a0, e, (hb.cell (World.block_lt_of_cell? w _ h1)).trans h1, (hb.cell (World.block_lt_of_cell? w _ h2)).trans h2, (hb.cell (World.block_lt_of_cell? w _ h3)).trans h3⟩
def fiS (s : Nat × Bool) (x : Alr) : Nat × Bool := if x.on && (!s.2 || decide (x.at_ < s.1)) then (x.at_, true) else s
def fiV (l : List Alr) : Nat × Bool := l.foldl fiS (0, false)
theorem fiV_take {l : List Alr} {j : Nat} (hj : j < l.length) : fiV (l.take (j + 1)) = fiS (fiV (l.take j)) (l.getD j default) := by
  rw [List.take_add_one, List.getElem?_eq_getElem hj, fiV, fiV, Option.toList, List.foldl_append]
  simp [List.getD, hj]

set_option maxHeartbeats 1000000 in
theorem first_any {w : World} {A : Option Addr} {l : List Alr} {cap : Nat} (h : AlmAt w A l) (hl : l.length ≤ 100) :
    Calls Try.prog 24 #[.slice A l.length cap] w fun e w' => e = .returned (.tuple #[.int .u64 ((fiV l).1 : Nat), .bool (fiV l).2]) ∧ Below w.heap.size w w' := by
  obtain ⟨N, hN⟩ : ∃ N, N = l.length := ⟨_, rfl⟩
  have HN := Lib.hid hN
  have HA := Lib.hid h
  rw [← hN] at hl ⊢
  clear hN h
  go_enter Try.func24, Try.ntmps24
  go_wp2
  go_loopw [4, 5, 10] (fun f t i wr => ∃ (j : Nat) (s : Nat × Bool), j ≤ N ∧ s = fiV (l.take j) ∧ f = .int .u64 (s.1 : Nat) ∧ t = .bool s.2 ∧ i = .int .i64 (j : Int) ∧ Below w.heap.size w wr) (fun _ _ i _ => N - (intOf i).toNat)
  case atStart => exact ⟨0, (0, false), by omega, rfl, rfl, rfl, rfl, Below.refl _ _⟩
  case round =>
    obtain ⟨j, ⟨f, t⟩, hj, hs, rfl, rfl, rfl, hb⟩ := hrel
    have HS := Lib.hid hs
    have HB := Lib.hid hb
    have HJ := Lib.hid hj
    by_cases hlt : j < N
    · obtain ⟨a0, rfl, c0, c1, c2⟩ := HA.out.below hb j (by have := HN.out; omega)
      have hst := fiV_take (l := l) (j := j) (by have := HN.out; omega)
      rw [← hs] at hst
      have HLT := Lib.hid hlt
      generalize l.getD j default = x at *
      obtain ⟨on, at_, tr⟩ := x
      have HST := Lib.hid hst
      have j0 : (0 : Int) ≤ (j : Int) := by omega
      have j1 : (j : Int) < (N : Int) := by omega
      have x4 : IntKind.i64.wrap ((j : Int) + 1) = (j : Int) + 1 := IntWalk.i64_in _ (by omega)
      clear hst hs hb hj hlt
      have hrest : ∀ (f' : Nat) (t' : Bool) (W : World), fiS (f, t) ⟨on, at_, tr⟩ = (f', t') → Below w.heap.size w W → ∃ (k : Nat) (s : Nat × Bool), k ≤ N ∧ s = fiV (l.take k) ∧ Value.int .u64 (f' : Nat) = .int .u64 (s.1 : Nat) ∧ Value.bool t' = .bool s.2 ∧ Value.int .i64 ((j : Int) + 1) = .int .i64 (k : Int) ∧ Below w.heap.size w W :=
        fun f' t' W h1 h2 => ⟨j + 1, (f', t'), HLT.out, by rw [HST.out, h1], rfl, rfl, by push_cast; rfl, h2⟩
      have HR := Lib.hid hrest
      have HB2 := Lib.hid ((HB.out).alloc HB.out.size (.cells #[.bool on, .int .u64 (at_ : Nat), .int .i64 tr] 62))
      clear hrest HST
      cases on with
      | false =>
        have HR2 := Lib.hid (HR.out f t _ rfl HB2.out)
        clear HR HB2
        go_wp2
        go_roundw
        case rel => exact HR2.out
        case measure => have := HLT.out; simp [intOf]; omega
      | true =>
        cases t with
        | false =>
          have HR2 := Lib.hid (HR.out at_ true _ rfl HB2.out)
          clear HR HB2
          go_wp2
          go_roundw
          case rel => exact HR2.out
          case measure => have := HLT.out; simp [intOf]; omega
        | true =>
          by_cases haf : at_ < f
          · have e1 : decide (at_ < f) = true := decide_eq_true haf
            have HR2 := Lib.hid (HR.out at_ true _ (by simp [fiS, haf]) HB2.out)
            clear HR HB2 haf
            go_wp2
            go_roundw
            case rel => exact HR2.out
            case measure => have := HLT.out; simp [intOf]; omega
          · have e1 : decide (at_ < f) = false := decide_eq_false haf
            have HR2 := Lib.hid (HR.out f true _ (by simp [fiS, haf]) HB2.out)
            clear HR HB2 haf
            go_wp2
            go_roundw
            case rel => exact HR2.out
            case measure => have := HLT.out; simp [intOf]; omega
    · obtain rfl : j = N := by omega
      have HF : Hid (fiV l = (f, t)) := by
        have := HS.out
        rw [HN.out, List.take_length] at this
        exact this.symm
      clear hs hb hlt hj
      go_wp2
      rw [HF.out]
      go_ret2
      exact ⟨rfl, HB.out⟩
end Go.Proofs.Ytinihggcibghaaa
