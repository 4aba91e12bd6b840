/-
  The document's take: the number of so many bytes at a place.
-/
import Derived.Test.YtmfbokaaoffdnaaDoorWrG
namespace Go.Proofs.YtmfbokaaoffdnaaDoor
set_option maxRecDepth 100000
set_option linter.unusedSimpArgs false
open Go Go.RowKit Wr

/-- The number of the bytes from a place on, as many as there are. -/
def takF (l : List Nat) (at_ m : Nat) : Nat := val ((l.drop at_).take m)
theorem takF_next {l : List Nat} {at_ i : Nat} (h : at_ + i < l.length) : takF l at_ (i + 1) = takF l at_ i * 256 + l.getD (at_ + i) 0 := by
  unfold takF
  have e : (l.drop at_).take (i + 1) = (l.drop at_).take i ++ [l.getD (at_ + i) 0] := by
    rw [List.take_add_one, List.getElem?_drop, List.getD_eq_getElem?_getD, List.getElem?_eq_getElem h]
    rfl
  rw [e, val_snoc]
theorem takF_end {l : List Nat} {at_ i m : Nat} (h : l.length ≤ at_ + i) (hm : i ≤ m) : takF l at_ i = takF l at_ m := by
  unfold takF
  rw [List.take_of_length_le (by simp; omega), List.take_of_length_le (by simp; omega)]
theorem takF_lt {l : List Nat} (h : ∀ c ∈ l, c < 256) (at_ i : Nat) : takF l at_ i < 256 ^ i := by
  have h1 := val_lt (l := (l.drop at_).take i) (fun c hc => h c (List.mem_of_mem_drop (List.mem_of_mem_take hc)))
  have h2 : ((l.drop at_).take i).length ≤ i := by simp; omega
  exact Nat.lt_of_lt_of_le h1 (Nat.pow_le_pow_right (by omega) h2)

set_option maxHeartbeats 2000000 in
theorem rtake_any {w : World} {A : Option Addr} {l : List Nat} (cap : Nat) (hB : BytesAt w A l) (hlt : ∀ c ∈ l, c < 256) (_hl : l.length ≤ 100000) (at_ m : Nat) (ha : at_ ≤ 100000) (hm : m ≤ 8) :
    Calls Tryd.prog 34 #[.slice A l.length cap, .int .i64 (at_ : Nat), .int .i64 (m : Nat)] w fun e w' => e = .returned (.int .u64 (takF l at_ m : Nat)) ∧ w' = w := by
  obtain ⟨P, hP⟩ : ∃ P : Ending → World → Prop, P = fun e w' => e = .returned (.int .u64 (takF l at_ m : Nat)) ∧ w' = w := ⟨_, rfl⟩
  have HQ : Hid (∀ x : Nat, x = takF l at_ m → P (.returned (.int .u64 (x : Nat))) w) := by rw [hP]; exact fun x e => ⟨by rw [e], rfl⟩
  rw [← hP]
  clear hP
  have HB := Lib.hid hB
  have HLT := Lib.hid hlt
  obtain ⟨n, hn⟩ : ∃ n, n = l.length := ⟨_, rfl⟩
  have HN := Lib.hid hn
  rw [← hn] at _hl ⊢
  clear hB hlt hn
  go_enter Tryd.func34, Tryd.ntmps34
  go_wp2
  go_loopw [7, 8] (fun u v wr => ∃ i : Nat, i ≤ m ∧ v = .int .i64 (i : Int) ∧ u = .int .u64 (takF l at_ i : Nat) ∧ w = wr) (fun _ v _ => m - (intOf v).toNat)
  case atStart => exact ⟨0, Nat.zero_le _, rfl, by simp [takF, val], rfl⟩
  case round =>
    obtain ⟨i, hi, rfl, rfl, rfl⟩ := hrel
    have s1 : IntKind.i64.wrap ((at_ : Int) + (i : Int)) = (at_ : Int) + (i : Int) := by rw [wrap_w64]; unfold w64; omega
    by_cases him : i < m
    · by_cases hal : at_ + i < n
      · have hal' : at_ + i < l.length := by rw [← HN.out]; exact hal
        obtain ⟨a, haa, c1⟩ := HB.out (at_ + i) hal'
        have HX := Lib.hid (takF_next hal')
        have hb := HLT.out _ (List.getElem_mem hal')
        have hb2 : l.getD (at_ + i) 0 < 256 := by rw [List.getD_eq_getElem?_getD, List.getElem?_eq_getElem hal']; exact hb
        have h2 : takF l at_ i * 256 + l.getD (at_ + i) 0 < 18446744073709551616 := by
          rw [← HX.out]
          have h3 := takF_lt HLT.out at_ (i + 1)
          have h4 : 256 ^ (i + 1) ≤ 256 ^ 8 := Nat.pow_le_pow_right (by omega) (by omega)
          have h5 : (256 : Nat) ^ 8 = 18446744073709551616 := by decide
          omega
        subst haa
        simp only [byV] at c1
        clear hb hal'
        generalize takF l at_ i = T at *
        generalize l.getD (at_ + i) 0 = x at *
        have s2 : IntKind.u64.wrap ((T : Int) * 256) = (T : Int) * 256 := by simp [IntKind.wrap, IntKind.bits, IntKind.signed]; omega
        have s3 : IntKind.u64.wrap ((T : Int) * 256 + (x : Int)) = (T : Int) * 256 + (x : Int) := by simp [IntKind.wrap, IntKind.bits, IntKind.signed]; omega
        have s4 : IntKind.u64.wrap (x : Int) = (x : Int) := by simp [IntKind.wrap, IntKind.bits, IntKind.signed]; omega
        have i0 : (0 : Int) ≤ (at_ : Int) + (i : Int) := by omega
        have i1 : (at_ : Int) + (i : Int) < (n : Int) := by omega
        go_wp2
        go_roundw
        case rel => exact ⟨i + 1, by omega, by go_num, by rw [HX.out]; push_cast; rfl, trivial⟩
        case measure => simp [intOf]; omega
      · have HF := Lib.hid (HQ.out (takF l at_ i) (takF_end (by rw [← HN.out]; omega) hi))
        generalize takF l at_ i = T at *
        go_wp2
        first | exact HF.out | (go_ret; exact HF.out)
    · obtain rfl : i = m := by omega
      have HF := Lib.hid (HQ.out (takF l at_ i) rfl)
      generalize takF l at_ i = T at *
      go_wp2
      first | exact HF.out | (go_ret; exact HF.out)
end Go.Proofs.YtmfbokaaoffdnaaDoor
