/-
  Messages by their numbers, told one by one: the iterator.
-/
import Derived.Test.YtfgajjfcjlejmaaDoorLkC
namespace Go.Proofs.YtfgajjfcjlejmaaDoor
set_option maxRecDepth 100000
set_option linter.unusedSimpArgs false
open Go Go.RowKit Wr
attribute [local go_sem] Oper.semAt_some

/-- A map without one number. -/
def wo (g : Nat → Option En) (x : Nat) : Nat → Option En := fun i => if i = x then none else g i
def numK (q k : Nat) : Nat := (q + k) % 4294967296
theorem wo_map {w : World} {m N : Nat} {g : Nat → Option En} (h : MapV w 22 litU m N (fun n => (g n).map enA)) {x : Nat} (hx : x ≤ 4294967295) :
    ((Instr.lookup 95 (.map (some m)) (.int .u32 (x : Nat)) true).run Tryd.prog w = .ok (.tuple #[((g x).map enA).getD zeroMsg, .bool (g x).isSome]) w) ∧
    ∀ o : Obj, ∃ w', (Builtin.delete_ #[95, 22] 0 #[.map (some m), .int .u32 (x : Nat)]).run Tryd.prog (w.alloc o) = .ok (.tuple #[]) w' ∧ MapV w' 22 litU m N (fun n => (wo g x n).map enA) ∧ Kept (fun i => i = m) (w.alloc o) w' := by
  refine ⟨?_, fun o => ?_⟩
  · have := h.look u32Keyed Tryd.underlying95 (zeroMsg_run w) (u32_key hx)
    rw [this]
    cases g x <;> rfl
  · have h' : MapV (w.alloc o) 22 litU m N (fun n => (g n).map enA) := h.same (Below.heap_alloc _ _ _ h.lt)
    refine h'.del (g := fun n => (wo g x n).map enA) u32Keyed Tryd.underlying95 (u32_key hx) 0 (by simp [wo]) (fun y hy => ?_) (fun y hy => ?_)
    · have : y ≠ x := fun e => hy (by rw [e])
      simp [wo, this]
    · exact Classical.byContradiction fun hn => litU_ne hn hy

set_option maxHeartbeats 4000000 in
/-- Number by number the message that came early by it, which it is no more then; till one did not come. -/
theorem from_run (n l bn bs o mb q cnt N : Nat) {W : World} {J : Nat → World → Prop} {J' : Nat → En → World → Prop} {Jl Jx : World → Prop} (hn : 1 ≤ n) (hq : q ≤ 4294967295) (hc : cnt ≤ 64)
    (hqc : q + cnt ≤ 4294967296) (h1 : 1 ≤ q)
    (hR : ∀ k W1, J k W1 → k ≤ cnt → (W1.cell? ⟨bs, 0, none⟩ = some (.pointer (some ⟨o, 6, none⟩)) ∧ W1.cell? ⟨o, 10, none⟩ = some (.map (some mb)) ∧ bs ≠ mb ∧ o ≠ mb) ∧ ∃ g : Nat → Option En, MapV W1 22 litU mb N (fun n => (g n).map enA) ∧
      (k < cnt → ∃ e, g (numK q k) = some e ∧ ∀ W2 x, Kept (fun i => i = mb) (W1.alloc x) W2 → MapV W2 22 litU mb N (fun n => (wo g (numK q k) n).map enA) → J' k e W2) ∧
      (k = cnt → g (numK q k) = none ∧ ∀ W2 x, Kept (fun i => i = mb) (W1.alloc x) W2 → MapV W2 22 litU mb N (fun n => (wo g (numK q k) n).map enA) → Jl W2))
    (hY : ∀ (k : Nat) (e : En) W2, J' k e W2 → k < cnt → YieldAt Fence.wide (n - 1) Tryd.prog l #[enA e, .bool true] W2 fun e W' => e = .returned (.bool true) ∧ J (k + 1) W')
    (hYx : ∀ W2, Jl W2 → YieldAt Fence.wide (n - 1) Tryd.prog l #[zeroMsg, .bool false] W2 fun e W' => e = .returned (.bool false) ∧ Jx W')
    (hN : W.cell? ⟨bn, 0, none⟩ = some (.int .u32 (q : Nat))) (h0 : J 0 W) :
    CallsIn Fence.wide n Tryd.prog 79 #[.func (.yield l) #[] #[], .pointer (some ⟨bn, 0, none⟩), .pointer (some ⟨bs, 0, none⟩)] W fun e W' => (∃ v, e = .returned v) ∧ Jx W' := by
  have HY := Lib.hid hY
  have HYX := Lib.hid hYx
  have HR := Lib.hid hR
  have H0 := Lib.hid h0
  have HQ0 : Hid (numK q 0 = q) := by show numK q 0 = q; unfold numK; omega
  clear hY hYx hR h0
  obtain ⟨P, hP⟩ : ∃ P : Ending → World → Prop, P = fun e W' => (∃ v, e = .returned v) ∧ Jx W' := ⟨_, rfl⟩
  have HQ : Hid (∀ W', Jx W' → P (.returned (.tuple #[])) W') := by rw [hP]; exact fun W' h => ⟨⟨_, rfl⟩, h⟩
  rw [← hP]
  clear hP
  have HNS : Hid (∀ k, k < cnt → IntKind.u32.wrap ((numK q k : Int) + 1) = (numK q (k + 1) : Int)) := by
    intro k hk
    unfold numK
    by_cases hlt : q + (k + 1) < 4294967296
    · rw [Nat.mod_eq_of_lt (show q + k < 4294967296 by omega), Nat.mod_eq_of_lt hlt, u32_in (by omega) (by omega)]
      push_cast; omega
    · have e1 : q + (k + 1) = 4294967296 := by omega
      have e2 : q + k = 4294967295 := by omega
      rw [e1, e2]
      rfl
  have HNM : Hid (∀ k, k < cnt → numK q k = q + k) := by
    intro k hk
    unfold numK
    exact Nat.mod_eq_of_lt (by omega)
  have HNL : Hid (∀ k, numK q k ≤ 4294967295) := by
    intro k
    have : numK q k < 4294967296 := Nat.mod_lt _ (by omega)
    omega
  have HME : Hid (∀ k, k < cnt → (if numK q (k + 1) = 0 then 0 else q + cnt + 1 - numK q (k + 1)) < (if numK q k = 0 then 0 else q + cnt + 1 - numK q k)) := by
    intro k hk
    have hh : (if numK q k = 0 then 0 else q + cnt + 1 - numK q k) = q + cnt + 1 - (q + k) := by rw [HNM.out k hk, if_neg (by omega)]
    rw [hh]
    split
    · omega
    · by_cases hlt : k + 1 < cnt
      · rw [HNM.out _ hlt]; omega
      · have e : k + 1 = cnt := by omega
        rename_i h0
        unfold numK at h0 ⊢
        have : q + (k + 1) < 4294967296 ∨ q + (k + 1) = 4294967296 := by omega
        rcases this with h | h
        · rw [Nat.mod_eq_of_lt h]; omega
        · rw [h] at h0; exact absurd rfl h0
  clear hq hqc h1
  refine callsIn_of_wp Tryd.func79 rfl trivial ?_ rfl
  simp only [Tryd.ntmps79, List.size_toArray, List.length_cons, List.length_nil, Nat.reduceAdd, Nat.reduceSub, Array.replicate_succ, Array.replicate_zero, List.push_toArray, List.append_toArray, List.nil_append, List.cons_append]
  gi_wp2
  clear hN
  gi_loopw [4] (fun i wr => ∃ k : Nat, k ≤ cnt ∧ i = .int .u32 (numK q k : Nat) ∧ J k wr) (fun i _ => if (intOf i).toNat = 0 then 0 else q + cnt + 1 - (intOf i).toNat)
  case atStart => exact ⟨0, by omega, by rw [HQ0.out], H0.out⟩
  case round =>
    obtain ⟨k, hk, rfl, hJ⟩ := hrel
    rename World => V
    obtain ⟨⟨r1, r2, r3, r4⟩, g, hM, hA, hB⟩ := HR.out k V hJ hk
    obtain ⟨hlk, hdl⟩ := wo_map hM (HNL.out k)
    obtain ⟨dw, hdw⟩ := Classical.axiomOfChoice hdl
    have hmv := hM.lt
    have r1' : ∀ x, (V.alloc x).cell? ⟨bs, 0, none⟩ = some (.pointer (some ⟨o, 6, none⟩)) := fun x => Lib.cell?_alloc_some _ r1
    have r2' : ∀ x, (V.alloc x).cell? ⟨o, 10, none⟩ = some (.map (some mb)) := fun x => Lib.cell?_alloc_some _ r2
    have hde : ∀ x, (Builtin.delete_ #[95, 22] 0 #[.map (some mb), .int .u32 (numK q k : Nat)]).run Tryd.prog (V.alloc x) = .ok (.tuple #[]) (dw x) := fun x => (hdw x).1
    have HBX : Hid (∀ x, (dw x).heap[V.heap.size]? = some x) := fun x => by
      rw [(hdw x).2.2.block V.heap.size (by simp) (by omega)]
      exact World.alloc_heap_new V x
    by_cases hkc : k < cnt
    · obtain ⟨e, hge, hJ'⟩ := hA hkc
      rw [hge] at hlk
      have HJP : Hid (∀ x, J' k e (dw x)) := fun x => hJ' (dw x) x (hdw x).2.2 (hdw x).2.1
      have HYE : Hid (∀ x, YieldAt Fence.wide (n - 1) Tryd.prog l #[enA e, .bool true] (dw x) fun e W' => e = .returned (.bool true) ∧ J (k + 1) W') := fun x => HY.out k e (dw x) (HJP.out x) hkc
      have hns := HNS.out k hkc
      have HMK := Lib.hid (HME.out k hkc)
      have HKC := Lib.hid hkc
      obtain ⟨⟨x0, x1, x2, x3, x4, x5, x6, x7, x8⟩, A, cap⟩ := e
      simp only [enA, msgA, Option.map_some, Option.getD_some, Option.isSome_some] at hlk HYE
      generalize x8.length = L at *
      obtain ⟨⟨b0, b1, b2, b3, b4, b5, b6, b7, b8⟩, _⟩ := nine (HBX.out (.cells #[.int .i64 x0, .int .i64 x1, .int .u32 (x2 : Nat), .int .u64 (x3 : Nat), .int .i64 x4, .int .i64 x5, .int .i64 x6, .int .i64 x7, .slice A L cap] 37))
      obtain ⟨fn, tmps, assign, body, hy, hYR⟩ := HYE.out (.cells #[.int .i64 x0, .int .i64 x1, .int .u32 (x2 : Nat), .int .u64 (x3 : Nat), .int .i64 x4, .int .i64 x5, .int .i64 x6, .int .i64 x7, .slice A L cap] 37)
      have HYR := Lib.hid hYR
      clear hYR HYE HJP hJ' hA hB hge hdw hdl hM hJ hmv hkc hk
      generalize numK q k = nk at *
      generalize hn1 : numK q (k + 1) = nk1 at *
      have HN1 := Lib.hid hn1
      clear hn1
      gi_wp2
      refine HYR.out.mono ?_
      rintro e w2 ⟨rfl, hJ2⟩
      have HJ2 := Lib.hid hJ2
      clear hJ2 b0 b1 b2 b3 b4 b5 b6 b7 b8 hy r1 r2 r1' r2' hde hlk
      gi_wp2
      exact ⟨⟨k + 1, by have := HKC.out; omega, by rw [HN1.out], HJ2.out⟩, by simp only [intOf, Int.toNat_natCast]; exact HMK.out⟩
    · obtain rfl : k = cnt := by omega
      obtain ⟨hge, hJ'⟩ := hB rfl
      rw [hge] at hlk
      have HYE : Hid (∀ x, YieldAt Fence.wide (n - 1) Tryd.prog l #[zeroMsg, .bool false] (dw x) fun e W' => e = .returned (.bool false) ∧ Jx W') := fun x => HYX.out (dw x) (hJ' (dw x) x (hdw x).2.2 (hdw x).2.1)
      simp only [zeroMsg, Option.map_none, Option.getD_none, Option.isSome_none] at hlk HYE
      obtain ⟨⟨b0, b1, b2, b3, b4, b5, b6, b7, b8⟩, _⟩ := nine (HBX.out (.cells #[.int .i64 0, .int .i64 0, .int .u32 0, .int .u64 0, .int .i64 0, .int .i64 0, .int .i64 0, .int .i64 0, .slice none 0 0] 37))
      obtain ⟨fn, tmps, assign, body, hy, hYR⟩ := HYE.out (.cells #[.int .i64 0, .int .i64 0, .int .u32 0, .int .u64 0, .int .i64 0, .int .i64 0, .int .i64 0, .int .i64 0, .slice none 0 0] 37)
      have HYR := Lib.hid hYR
      clear hYR HYE hJ' hA hB hge hdw hdl hM hJ hmv hk
      generalize numK q k = nk at *
      gi_wp2
      refine HYR.out.mono ?_
      rintro e w2 ⟨rfl, hJ2⟩
      have HF := Lib.hid (HQ.out w2 hJ2)
      clear hJ2 b0 b1 b2 b3 b4 b5 b6 b7 b8 hy r1 r2 r1' r2' hde hlk
      gi_wp2
      exact bodyPost_end (results_none rfl _ _ _) rfl HF.out
end Go.Proofs.YtfgajjfcjlejmaaDoor
