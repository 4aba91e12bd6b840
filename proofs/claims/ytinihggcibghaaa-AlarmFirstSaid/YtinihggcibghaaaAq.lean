/-
  The law AlarmFirst.
-/
import Derived.Test.YtinihggcibghaaaAf
namespace Go.Proofs.Ytinihggcibghaaa
set_option maxRecDepth 100000
set_option linter.unusedSimpArgs false
open Go Go.RowKit
open Go.ChangeShapes Go.WideShapes Go.Deep

theorem choose_al {P : Nat → Alr → Prop} : ∀ n : Nat, (∀ i, i < n → ∃ x, P i x) → ∃ l : List Alr, l.length = n ∧ ∀ i, i < n → P i (l.getD i default) := by
  intro n
  induction n with
  | zero => exact fun _ => ⟨[], rfl, fun i hi => by omega⟩
  | succ n ih =>
    intro h
    obtain ⟨l, hl, hp⟩ := ih (fun i hi => h i (by omega))
    obtain ⟨x, hx⟩ := h n (by omega)
    refine ⟨l ++ [x], by simp [hl], fun i hi => ?_⟩
    by_cases hin : i < n
    · have := hp i hin
      simp only [List.getD, List.getElem?_append_left (show i < l.length by omega)] at this ⊢
      exact this
    · obtain rfl : i = n := by omega
      simpa [List.getD, ← hl] using hx
section
variable {H : Type} {enc : TypeId × Value → H} {w : World} {base : Nat} {spare : Nat → Bool} {held : Bool}
theorem alr_of {fuel : Nat} {cs : List Value} {x : DataW H × List MemPlace} (h : DataW.trod enc Try.prog w base spare held fuel 62 cs = some x) :
    ∃ y : Alr, cs = [.bool y.on, .int .u64 (y.at_ : Nat), .int .i64 y.tr] := by
  obtain ⟨xs, n, _, _, hlen, hxl, hf⟩ := DataW.trod_struct Try.underlying62 h
  have hc : Try.prog.cellsOf 62 = 3 := by kernel_rfl
  have q1 : Try.prog.cellsOf 4 = 1 := by kernel_rfl
  have q2 : Try.prog.cellsOf 58 = 1 := by kernel_rfl
  have q3 : Try.prog.cellsOf 3 = 1 := by kernel_rfl
  rw [hc] at hlen
  match cs, hlen with
  | [c0, c1, c2], _ =>
    match xs, hxl with
    | [y0, y1, y2], _ =>
      obtain ⟨a0, e0, _⟩ := DataW.trod_bool (x := y0) Try.underlying4 (hf 0 _ rfl)
      obtain ⟨a1, e1, _⟩ := u64_of (x := y1) (hf 1 _ rfl)
      obtain ⟨a2, e2, _⟩ := DataW.trod_int (x := y2) Try.underlying3 (hf 2 _ rfl)
      simp [q1, q2, q3] at e0 e1 e2
      exact ⟨⟨a0, a1, a2⟩, by rw [e0, e1, e2]⟩
theorem alarms_in {v : Value} {d : DataW H} {ps : List MemPlace} {r : Reach} {b0 : Nat} (hv : Value.okWide Try.prog w r b0 57 v) (h : DataW.Trod enc Try.prog w base spare held 57 v d ps) :
    ∃ (A : Option Addr) (l : List Alr) (cap : Nat), v = .slice A l.length cap ∧ AlmAt w A l ∧ l.length ≤ maxLen := by
  obtain ⟨a, len, cap, rfl⟩ := okWide_slice Try.underlying57 hv
  obtain ⟨fuel, hf⟩ := h
  have hc : Try.prog.cellsOf 62 = 3 := by kernel_rfl
  rcases open_slice Try.underlying57 hf with ⟨h0, _⟩ | ⟨a', len', cap', m, n, D, Pl, hcs, hb, hl, hm, hmm, hx, hi⟩
  · have e : (Value.slice a len cap) = .slice none 0 0 := by simpa [Value.cells] using h0
    cases e
    exact ⟨none, [], 0, rfl, fun k hk => by simp at hk, by simp [maxLen]⟩
  · have e : (Value.slice a len cap) = .slice (some a') len' cap' := by simpa [Value.cells] using hcs
    cases e
    have hml : len ≤ m := by rw [hmm]; split <;> omega
    obtain ⟨l, hll, hp⟩ := choose_al (P := fun i (x : Alr) => w.cell? (a'.add (i * 3)) = some (.bool x.on) ∧ w.cell? ((a'.add (i * 3)).add 1) = some (.int .u64 (x.at_ : Nat)) ∧ w.cell? ((a'.add (i * 3)).add 2) = some (.int .i64 x.tr)) len (by
      intro i hil
      obtain ⟨cs', hcs', ht⟩ := hi i (by omega)
      rw [hc] at hcs'
      obtain ⟨it, rfl⟩ := alr_of ht
      obtain ⟨_, hcl, hat⟩ := World.cells?_some hcs'
      have h0 := hat 0 (by omega)
      have h1 := hat 1 (by omega)
      have h2 := hat 2 (by omega)
      have e0 : (a'.add (i * 3)).add 0 = a'.add (i * 3) := by simp [Addr.add]
      rw [e0] at h0
      exact ⟨it, h0, h1, h2⟩)
    refine ⟨some a', l, cap, by rw [hll], fun k hk => ?_, by omega⟩
    obtain ⟨h0, h1, h2⟩ := hp k (by omega)
    exact ⟨a', rfl, h0, h1, h2⟩
end

def anyOn (l : List Alr) : Bool := l.any (·.on)
def hit (a : Nat) (l : List Alr) : Bool := l.any (fun x => x.on && decide (x.at_ = a))
theorem any_take {l : List Alr} {j : Nat} (f : Alr → Bool) (hj : j < l.length) : (l.take (j + 1)).any f = ((l.take j).any f || f (l.getD j default)) := by
  rw [List.take_add_one, List.getElem?_eq_getElem hj, Option.toList, List.any_append]
  simp [List.getD, hj]
structure FiP (s : Nat × Bool) (l : List Alr) : Prop where
  some : s.2 = anyOn l
  none : s.2 = false → s.1 = 0
  le : ∀ k, k < l.length → (l.getD k default).on = true → s.1 ≤ (l.getD k default).at_
  hit : s.2 = true → hit s.1 l = true
theorem fi_spec (l : List Alr) : ∀ j, j ≤ l.length → FiP (fiV (l.take j)) (l.take j) := by
  intro j
  induction j with
  | zero => exact fun _ => ⟨rfl, fun _ => rfl, fun k hk => by simp at hk, fun h => by simp [fiV] at h⟩
  | succ j ih =>
    intro hj
    obtain ⟨h1, h2, h3, h4⟩ := ih (by omega)
    have hg : ∀ k, k < j → (l.take (j + 1)).getD k default = (l.take j).getD k default := fun k hk => by
      simp only [List.getD, List.getElem?_take]
      rw [if_pos (by omega), if_pos hk]
    have hl : (l.take (j + 1)).getD j default = l.getD j default := by
      simp only [List.getD, List.getElem?_take]
      rw [if_pos (by omega)]
    have hs := fiV_take (l := l) (j := j) (by omega)
    have ha : anyOn (l.take (j + 1)) = (anyOn (l.take j) || (l.getD j default).on) := any_take _ (by omega)
    have hh : ∀ a, Go.Proofs.Ytinihggcibghaaa.hit a (l.take (j + 1)) = (Go.Proofs.Ytinihggcibghaaa.hit a (l.take j) || ((l.getD j default).on && decide ((l.getD j default).at_ = a))) := fun a => any_take _ (by omega)
    generalize fiV (l.take j) = s at *
    obtain ⟨a, t⟩ := s
    rw [hs]
    unfold fiS
    simp only at h1 h2 h3 h4
    split
    · rename_i hc
      simp only [Bool.and_eq_true, Bool.or_eq_true, Bool.not_eq_true', decide_eq_true_eq] at hc
      refine ⟨by rw [ha, hc.1]; simp, by simp, ?_, fun _ => by rw [hh, hc.1]; simp⟩
      intro k hk hon
      simp only [List.length_take] at hk
      by_cases hkj : k = j
      · subst hkj
        rw [hl]
        exact Nat.le_refl _
      · rw [hg k (by omega)] at hon ⊢
        have := h3 k (by simp; omega) hon
        rcases hc.2 with ht | hlt
        · rw [h1] at ht
          have : anyOn (l.take j) = true := by
            unfold anyOn
            rw [List.any_eq_true]
            refine ⟨(l.take j).getD k default, ?_, hon⟩
            rw [List.getD_eq_getElem?_getD, List.getElem?_eq_getElem (by simp; omega)]
            exact List.getElem_mem _
          rw [this] at ht
          cases ht
        · simp only
          omega
    · rename_i hc
      have hc' : (l.getD j default).on = true → t = true ∧ a ≤ (l.getD j default).at_ := fun hon => by
        rw [hon] at hc
        simp only [Bool.true_and, Bool.or_eq_true, Bool.not_eq_true', decide_eq_true_eq, not_or] at hc
        exact ⟨by simpa using hc.1, by omega⟩
      refine ⟨?_, h2, ?_, fun ht => by rw [hh, h4 ht]; rfl⟩
      · rw [ha, ← h1]
        cases hon : (l.getD j default).on with
        | false => simp
        | true => simp [(hc' hon).1]
      · intro k hk hon
        simp only [List.length_take] at hk
        by_cases hkj : k = j
        · subst hkj
          rw [hl] at hon ⊢
          exact (hc' hon).2
        · rw [hg k (by omega)] at hon ⊢
          exact h3 k (by simp; omega) hon

set_option maxHeartbeats 2000000 in
theorem alarmFirst_any {w : World} {A : Option Addr} {l : List Alr} {cap : Nat} (h : AlmAt w A l) :
    Calls Try.prog 5 #[.slice A l.length cap] w fun e w' => e = .returned (.bool true) ∧ Below w.heap.size w w' := by
  by_cases hl : l.length ≤ 100
  · have hfst := first_any (cap := cap) h hl
    have hsp := fi_spec l l.length (Nat.le_refl _)
    rw [List.take_length] at hsp
    obtain ⟨N, hN⟩ : ∃ N, N = l.length := ⟨_, rfl⟩
    have HN := Lib.hid hN
    have HA := Lib.hid h
    obtain ⟨s1, s2, s3, s4⟩ := hsp
    have HF := Lib.hid hfst
    have HAO : Hid (anyOn l = anyOn (l.take N)) := by rw [hN, List.take_length]; rfl
    have HHI : Hid (∀ a, hit a l = hit a (l.take N)) := fun a => by rw [hN, List.take_length]
    rw [← hN] at hl HF ⊢
    generalize fiV l = s at *
    obtain ⟨a, t⟩ := s
    simp only at s1 s2 s3 s4
    have S1 := Lib.hid s1
    have S2 := Lib.hid s2
    have S3 := Lib.hid s3
    have S4 := Lib.hid s4
    clear hN h hfst s1 s2 s3 s4
    have e100 : decide ((100 : Int) < (N : Int)) = false := by simp; omega
    go_enter Try.func5, Try.ntmps5
    go_wp2_with fail
    refine HF.out.mono ?_
    rintro e w1 ⟨rfl, hb1⟩
    have HB1 := Lib.hid hb1
    clear hb1 HF e100
    go_wp2_with fail
    go_loopw [5, 6] (fun o i wr => ∃ j : Nat, j ≤ N ∧ o = .bool (anyOn (l.take j)) ∧ i = .int .i64 (j : Int) ∧ wr = w1) (fun _ i _ => N - (intOf i).toNat)
    case atStart => exact ⟨0, by omega, rfl, rfl, rfl⟩
    case round =>
      obtain ⟨j, hj, rfl, rfl, hw⟩ := hrel
      rw [hw]
      clear hw
      by_cases hlt : j < N
      · have hst : anyOn (l.take (j + 1)) = (anyOn (l.take j) || (l.getD j default).on) := any_take _ (by have := HN.out; omega)
        have h3 := S3.out j (by have := HN.out; omega)
        obtain ⟨a0, rfl, c0, c1, c2⟩ := HA.out.below HB1.out j (by have := HN.out; omega)
        have HLT := Lib.hid hlt
        generalize l.getD j default = x at *
        obtain ⟨on, at_, tr⟩ := x
        generalize hq : anyOn (l.take j) = q at *
        have j0 : (0 : Int) ≤ (j : Int) := by omega
        have j1 : (j : Int) < (N : Int) := by omega
        have x4 : IntKind.i64.wrap ((j : Int) + 1) = (j : Int) + 1 := IntWalk.i64_in _ (by omega)
        cases on with
        | false =>
          simp only [Bool.or_false] at hst
          have HST := Lib.hid hst
          clear hst h3 hj hlt hq
          go_wp2
          go_roundw
          case rel => exact ⟨j + 1, HLT.out, by rw [HST.out], by push_cast; rfl, trivial⟩
          case measure => have := HLT.out; simp [intOf]; omega
        | true =>
          simp only [Bool.or_true] at hst
          have HST := Lib.hid hst
          have h4 := h3 rfl
          have e1 : decide (at_ < a) = false := by simp; omega
          clear hst h3 h4 hj hlt hq
          go_wp2
          go_roundw
          case rel => exact ⟨j + 1, HLT.out, by rw [HST.out], by push_cast; rfl, trivial⟩
          case measure => have := HLT.out; simp [intOf]; omega
      · have hjN : j = N := by omega
        rw [hjN]
        have hq : anyOn (l.take N) = t := by rw [← HAO.out]; exact S1.out.symm
        rw [hq]
        clear hlt hj hq hjN
        -- met, ahead of the second loop
        obtain ⟨m0, hm0⟩ : ∃ m0 : Bool, m0 = (!t && decide (a = 0)) := ⟨_, rfl⟩
        have HM0 := Lib.hid hm0
        have hmt : (t = true ∧ m0 = false) ∨ (t = false ∧ a = 0 ∧ m0 = true) := by
          cases t with
          | true => exact .inl ⟨rfl, by rw [hm0]; rfl⟩
          | false => have := S2.out rfl; exact .inr ⟨rfl, this, by rw [hm0, this]; rfl⟩
        have HEND : Hid ((m0 || hit a l) = true) := by
          show _ = true
          rcases hmt with ⟨h1, h2⟩ | ⟨h1, _, h2⟩
          · rw [S4.out h1]; simp
          · rw [h2]; rfl
        clear hm0 HM0 S1 S2 S3 S4 HAO
        rcases hmt with ⟨rfl, rfl⟩ | ⟨rfl, rfl, rfl⟩
        · go_wp2
          go_loopw [7, 8] (fun o i wr => ∃ j : Nat, j ≤ N ∧ o = .bool (false || hit a (l.take j)) ∧ i = .int .i64 (j : Int) ∧ wr = w1) (fun _ i _ => N - (intOf i).toNat)
          case atStart => exact ⟨0, by omega, by simp [hit], rfl, rfl⟩
          case round =>
            obtain ⟨j, hj, rfl, rfl, hw⟩ := hrel
            rw [hw]
            clear hw
            by_cases hlt : j < N
            · have hst : hit a (l.take (j + 1)) = (hit a (l.take j) || ((l.getD j default).on && decide ((l.getD j default).at_ = a))) := any_take _ (by have := HN.out; omega)
              obtain ⟨a0, rfl, c0, c1, c2⟩ := HA.out.below HB1.out j (by have := HN.out; omega)
              have HLT := Lib.hid hlt
              generalize l.getD j default = x at *
              obtain ⟨on, at_, tr⟩ := x
              have j0 : (0 : Int) ≤ (j : Int) := by omega
              have j1 : (j : Int) < (N : Int) := by omega
              have x4 : IntKind.i64.wrap ((j : Int) + 1) = (j : Int) + 1 := IntWalk.i64_in _ (by omega)
              have HNX : Hid (∀ q : Bool, q = (false || hit a (l.take (j + 1))) → ∃ k : Nat, k ≤ N ∧ Value.bool q = .bool (false || hit a (l.take k)) ∧ Value.int .i64 ((j : Int) + 1) = .int .i64 (k : Int) ∧ True) := fun q hq => ⟨j + 1, HLT.out, by rw [hq], by push_cast; rfl, trivial⟩
              generalize hit a (l.take (j + 1)) = q1 at *
              generalize hit a (l.take j) = q0 at *
              subst hst
              clear hj hlt
              cases hq : (false || q0) with
              | true =>
                have HX := Lib.hid (HNX.out true (by rw [← Bool.or_assoc, hq]; rfl))
                clear HNX hq
                go_wp2
                go_roundw
                case rel => exact HX.out
                case measure => have := HLT.out; simp [intOf]; omega
              | false =>
                cases on with
                | false =>
                  have HX := Lib.hid (HNX.out false (by rw [← Bool.or_assoc, hq]; rfl))
                  clear HNX hq
                  go_wp2
                  go_roundw
                  case rel => exact HX.out
                  case measure => have := HLT.out; simp [intOf]; omega
                | true =>
                  by_cases hae : at_ = a
                  · have e1 : ((at_ : Int) == ((a : Nat) : Int)) = true := by simp [hae]
                    have HX := Lib.hid (HNX.out true (by rw [← Bool.or_assoc, hq, decide_eq_true hae]; rfl))
                    clear HNX hq hae
                    go_wp2
                    go_roundw
                    case rel => exact HX.out
                    case measure => have := HLT.out; simp [intOf]; omega
                  · have e1 : ((at_ : Int) == ((a : Nat) : Int)) = false := by simp; omega
                    have HX := Lib.hid (HNX.out false (by rw [← Bool.or_assoc, hq, decide_eq_false hae]; rfl))
                    clear HNX hq hae
                    go_wp2
                    go_roundw
                    case rel => exact HX.out
                    case measure => have := HLT.out; simp [intOf]; omega
            · have hjN : j = N := by omega
              rw [hjN]
              have hq : (false || hit a (l.take N)) = true := by rw [← HHI.out]; exact HEND.out
              rw [hq]
              clear hlt hj hq hjN
              go_wp2
              go_ret
              exact ⟨rfl, HB1.out⟩
        · go_wp2
          go_loopw [7, 8] (fun o i wr => ∃ j : Nat, j ≤ N ∧ o = .bool (true || hit 0 (l.take j)) ∧ i = .int .i64 (j : Int) ∧ wr = w1) (fun _ i _ => N - (intOf i).toNat)
          case atStart => exact ⟨0, by omega, by simp [hit], rfl, rfl⟩
          case round =>
            obtain ⟨j, hj, rfl, rfl, hw⟩ := hrel
            rw [hw]
            clear hw
            by_cases hlt : j < N
            · have hst : hit 0 (l.take (j + 1)) = (hit 0 (l.take j) || ((l.getD j default).on && decide ((l.getD j default).at_ = 0))) := any_take _ (by have := HN.out; omega)
              obtain ⟨a0, rfl, c0, c1, c2⟩ := HA.out.below HB1.out j (by have := HN.out; omega)
              have HLT := Lib.hid hlt
              generalize l.getD j default = x at *
              obtain ⟨on, at_, tr⟩ := x
              have j0 : (0 : Int) ≤ (j : Int) := by omega
              have j1 : (j : Int) < (N : Int) := by omega
              have x4 : IntKind.i64.wrap ((j : Int) + 1) = (j : Int) + 1 := IntWalk.i64_in _ (by omega)
              have HNX : Hid (∀ q : Bool, q = (true || hit 0 (l.take (j + 1))) → ∃ k : Nat, k ≤ N ∧ Value.bool q = .bool (true || hit 0 (l.take k)) ∧ Value.int .i64 ((j : Int) + 1) = .int .i64 (k : Int) ∧ True) := fun q hq => ⟨j + 1, HLT.out, by rw [hq], by push_cast; rfl, trivial⟩
              generalize hit 0 (l.take (j + 1)) = q1 at *
              generalize hit 0 (l.take j) = q0 at *
              subst hst
              clear hj hlt
              cases hq : (true || q0) with
              | true =>
                have HX := Lib.hid (HNX.out true (by rw [← Bool.or_assoc, hq]; rfl))
                clear HNX hq
                go_wp2
                go_roundw
                case rel => exact HX.out
                case measure => have := HLT.out; simp [intOf]; omega
              | false => simp at hq
            · have hjN : j = N := by omega
              rw [hjN]
              have hq : (true || hit 0 (l.take N)) = true := by rw [← HHI.out]; exact HEND.out
              rw [hq]
              clear hlt hj hq hjN
              go_wp2
              go_ret
              exact ⟨rfl, HB1.out⟩
  · have e100 : decide ((100 : Int) < (l.length : Int)) = true := by simp; omega
    generalize l.length = N at *
    clear hl h
    go_enter Try.func5, Try.ntmps5
    go_wp2
    go_ret
    exact ⟨rfl, Below.refl _ _⟩
end Go.Proofs.Ytinihggcibghaaa
