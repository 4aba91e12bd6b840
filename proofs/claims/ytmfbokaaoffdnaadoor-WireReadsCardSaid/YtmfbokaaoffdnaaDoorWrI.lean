/-
  The laws' arguments as they come in: packets, messages, bytes.
-/
import Derived.Test.YtmfbokaaoffdnaaDoorWr8
import Derived.Test.YtmfbokaaoffdnaaDoorWr9
import Derived.Deep.Slices
import Derived.Deep.Fields
import Derived.ChangeSlices
import Derived.ChangeSame
import Derived.OpenShut
namespace Go.Proofs.YtmfbokaaoffdnaaDoor
set_option maxRecDepth 100000
set_option linter.unusedSimpArgs false
open Go Go.RowKit Wr
open Go.ChangeShapes Go.WideShapes Go.Deep

theorem choose_nat {α : Type} [Inhabited α] {P : Nat → α → Prop} : ∀ n, (∀ i, i < n → ∃ x, P i x) → ∃ l : List α, l.length = n ∧ ∀ i, i < n → P i (l.getD i default)
  | 0, _ => ⟨[], rfl, fun i hi => by omega⟩
  | n + 1, h => by
    obtain ⟨l, hl, hp⟩ := choose_nat n (fun i hi => h i (by omega))
    obtain ⟨x, hx⟩ := h n (by omega)
    refine ⟨l ++ [x], by simp [hl], fun i hi => ?_⟩
    by_cases e : i = n
    · subst e
      have : (l ++ [x]).getD i default = x := by rw [← hl]; simp [List.getD]
      rw [this]; exact hx
    · have : (l ++ [x]).getD i default = l.getD i default := by simp [List.getD, List.getElem?_append_left (show i < l.length by omega)]
      rw [this]; exact hp i (by omega)

/-- A message's numbers fit. -/
structure FitM (m : Msg) : Prop where
  gen : m.gen < 4294967296
  stamp : m.stamp < 18446744073709551616
  cgen : ∀ c ∈ m.claims, c.2 < 4294967296

section
variable {H : Type} {enc : TypeId × Value → H} {w : World} {base : Nat} {spare : Nat → Bool} {held : Bool}
theorem int_of {fuel : Nat} {c : List Value} {x : DataW H × List MemPlace} (h : DataW.trod enc Tryd.prog w base spare held fuel 3 c = some x) : ∃ n : Int, c = [.int .i64 n] := by
  obtain ⟨n, e, _, _⟩ := DataW.trod_int Tryd.underlying3 h
  exact ⟨n, e⟩
theorem u32_of {fuel : Nat} {c : List Value} {x : DataW H × List MemPlace} (h : DataW.trod enc Tryd.prog w base spare held fuel 22 c = some x) : ∃ n : Nat, c = [.int .u32 (n : Nat)] ∧ n < 4294967296 := by
  obtain ⟨n, e, _, hw⟩ := DataW.trod_int Tryd.underlying22 h
  have hb := bounds_u32 hw
  obtain ⟨k, rfl⟩ := Int.eq_ofNat_of_zero_le hb.1
  exact ⟨k, e, by omega⟩
theorem u64_of {fuel : Nat} {c : List Value} {x : DataW H × List MemPlace} (h : DataW.trod enc Tryd.prog w base spare held fuel 23 c = some x) : ∃ n : Nat, c = [.int .u64 (n : Nat)] ∧ n < 18446744073709551616 := by
  obtain ⟨n, e, _, hw⟩ := DataW.trod_int Tryd.underlying23 h
  have hb := bounds_u64 hw
  obtain ⟨k, rfl⟩ := Int.eq_ofNat_of_zero_le hb.1
  exact ⟨k, e, by omega⟩

theorem bytes_in {v : Value} {d : DataW H} {ps : List MemPlace} {r : Reach} {b0 : Nat} (hv : Value.okWide Tryd.prog w r b0 34 v) (h : DataW.Trod enc Tryd.prog w base spare held 34 v d ps) :
    ∃ (A : Option Addr) (l : List Nat) (cap : Nat), v = .slice A l.length cap ∧ BytesAt w A l ∧ (∀ c ∈ l, c < 256) ∧ l.length ≤ cap ∧ cap ≤ maxLen := by
  obtain ⟨a, len, cap, rfl⟩ := okWide_slice Tryd.underlying34 hv
  obtain ⟨fuel, hf⟩ := h
  have hc : Tryd.prog.cellsOf 5 = 1 := by kernel_rfl
  rcases open_slice1 Tryd.underlying34 hc hf with ⟨h0, _⟩ | ⟨a', len', cap', m, n, V, D, Pl, hcs, hb, hl, hm, hmm, hx, hi⟩
  · have e : (Value.slice a len cap) = .slice none 0 0 := by simpa [Value.cells] using h0
    cases e
    exact ⟨none, [], 0, rfl, fun k hk => by simp at hk, fun x hx => by simp at hx, by simp, by simp [maxLen]⟩
  · have e : (Value.slice a len cap) = .slice (some a') len' cap' := by simpa [Value.cells] using hcs
    cases e
    have hml : len ≤ m := by rw [hmm]; split <;> omega
    obtain ⟨l, hll, hp⟩ := choose_nat (P := fun i (x : Nat) => w.cell? (a'.add i) = some (byV x) ∧ x < 256) len (by
      intro i hil
      obtain ⟨h1, h2⟩ := hi i (by omega)
      obtain ⟨k, e, _, hw⟩ := DataW.trod_int Tryd.underlying5 h2
      have hbd := bounds_u8 hw
      obtain ⟨k, rfl⟩ := Int.eq_ofNat_of_zero_le hbd.1
      simp at e
      exact ⟨k, by rw [h1, e]; rfl, by omega⟩)
    refine ⟨some a', l, cap, by rw [hll], fun k hk => ?_, fun x hx => ?_, by omega, hm⟩
    · exact ⟨a', rfl, (hp k (by omega)).1⟩
    · obtain ⟨j, hj, rfl⟩ := List.getElem_of_mem hx
      have := (hp j (by omega)).2
      simpa [List.getD, hj] using this

theorem claim_of {fuel : Nat} {cs : List Value} {x : DataW H × List MemPlace} (h : DataW.trod enc Tryd.prog w base spare held fuel 50 cs = some x) : ∃ c : Int × Nat, cs = [.int .i64 c.1, .int .u32 (c.2 : Nat)] ∧ c.2 < 4294967296 := by
  obtain ⟨xs, n, _, _, hlen, hxl, hf⟩ := DataW.trod_struct Tryd.underlying50 h
  have hc : Tryd.prog.cellsOf 50 = 2 := by kernel_rfl
  have q1 : Tryd.prog.cellsOf 3 = 1 := by kernel_rfl
  have q2 : Tryd.prog.cellsOf 22 = 1 := by kernel_rfl
  rw [hc] at hlen
  match cs, hlen with
  | [c0, c1], _ =>
    match xs, hxl with
    | [y0, y1], _ =>
      obtain ⟨a, e0⟩ := int_of (x := y0) (hf 0 _ rfl)
      obtain ⟨b, e1, hb⟩ := u32_of (x := y1) (hf 1 _ rfl)
      simp [q1, q2] at e0 e1
      exact ⟨(a, b), by rw [e0, e1], hb⟩

theorem claims_of {fuel : Nat} {v : Value} {x : DataW H × List MemPlace} (hf : DataW.trod enc Tryd.prog w base spare held fuel 24 [v] = some x) :
    ∃ (A : Option Addr) (l : List (Int × Nat)) (cap : Nat), v = .slice A l.length cap ∧ ClaimsAt w A l ∧ (∀ c ∈ l, c.2 < 4294967296) ∧ l.length ≤ maxLen := by
  have hc : Tryd.prog.cellsOf 50 = 2 := by kernel_rfl
  rcases open_slice Tryd.underlying24 hf with ⟨h0, _⟩ | ⟨a', len', cap', m, n, D, Pl, hcs, hb, hl, hm, hmm, hx, hi⟩
  · have e : v = .slice none 0 0 := by simpa using h0
    exact ⟨none, [], 0, e, fun k hk => by simp at hk, fun x hx => by simp at hx, by simp [maxLen]⟩
  · have e : v = .slice (some a') len' cap' := by simpa using hcs
    have hml : len' ≤ m := by rw [hmm]; split <;> omega
    obtain ⟨l, hll, hp⟩ := choose_nat (P := fun i (x : Int × Nat) => x.2 < 4294967296 ∧ w.cell? (a'.add (i * 2)) = some (.int .i64 x.1) ∧ w.cell? ((a'.add (i * 2)).add 1) = some (.int .u32 (x.2 : Nat))) len' (by
      intro i hil
      obtain ⟨cs', hcs', ht⟩ := hi i (by omega)
      rw [hc] at hcs'
      obtain ⟨it, rfl, hw⟩ := claim_of ht
      obtain ⟨_, hcl, hat⟩ := World.cells?_some hcs'
      have h0 := hat 0 (by omega)
      have h1 := hat 1 (by omega)
      have e0 : (a'.add (i * 2)).add 0 = a'.add (i * 2) := by simp [Addr.add]
      rw [e0] at h0
      exact ⟨it, hw, h0, h1⟩)
    have hd : (default : Int × Nat) = (0, 0) := rfl
    rw [hd] at hp
    refine ⟨some a', l, cap', by rw [hll]; exact e, fun k hk => ?_, fun x hx => ?_, by omega⟩
    · obtain ⟨_, h1, h2⟩ := hp k (by omega)
      exact ⟨a', rfl, h1, h2⟩
    · obtain ⟨j, hj, rfl⟩ := List.getElem_of_mem hx
      have := (hp j (by omega)).1
      simpa [List.getD, hj] using this

theorem msg_of {fuel : Nat} {cs : List Value} {x : DataW H × List MemPlace} (h : DataW.trod enc Tryd.prog w base spare held fuel 26 cs = some x) :
    ∃ (m : Msg) (A : Option Addr) (cap : Nat), cs = [.int .i64 m.kind, .int .i64 m.cell, .int .u32 (m.gen : Nat), .int .u64 (m.stamp : Nat), .int .i64 m.prio, .int .i64 m.hops, .int .i64 m.origin, .int .i64 m.other, .slice A m.claims.length cap] ∧ ClaimsAt w A m.claims ∧ FitM m ∧ m.claims.length ≤ maxLen := by
  obtain ⟨xs, n, _, _, hlen, hxl, hf⟩ := DataW.trod_struct Tryd.underlying26 h
  have hc : Tryd.prog.cellsOf 26 = 9 := by kernel_rfl
  have q1 : Tryd.prog.cellsOf 3 = 1 := by kernel_rfl
  have q2 : Tryd.prog.cellsOf 22 = 1 := by kernel_rfl
  have q3 : Tryd.prog.cellsOf 23 = 1 := by kernel_rfl
  have q4 : Tryd.prog.cellsOf 24 = 1 := by kernel_rfl
  rw [hc] at hlen
  match cs, hlen with
  | [c0, c1, c2, c3, c4, c5, c6, c7, c8], _ =>
    match xs, hxl with
    | [y0, y1, y2, y3, y4, y5, y6, y7, y8], _ =>
      obtain ⟨a0, e0⟩ := int_of (x := y0) (hf 0 _ rfl)
      obtain ⟨a1, e1⟩ := int_of (x := y1) (hf 1 _ rfl)
      obtain ⟨a2, e2, b2⟩ := u32_of (x := y2) (hf 2 _ rfl)
      obtain ⟨a3, e3, b3⟩ := u64_of (x := y3) (hf 3 _ rfl)
      obtain ⟨a4, e4⟩ := int_of (x := y4) (hf 4 _ rfl)
      obtain ⟨a5, e5⟩ := int_of (x := y5) (hf 5 _ rfl)
      obtain ⟨a6, e6⟩ := int_of (x := y6) (hf 6 _ rfl)
      obtain ⟨a7, e7⟩ := int_of (x := y7) (hf 7 _ rfl)
      have h8 : DataW.trod enc Tryd.prog w base spare held n 24 ((([c0, c1, c2, c3, c4, c5, c6, c7, c8] : List Value).drop 8).take (Tryd.prog.cellsOf 24)) = some y8 := hf 8 _ rfl
      rw [q4] at h8
      obtain ⟨A, l, cap, e8, hC, hg, hm⟩ := claims_of h8
      simp [q1, q2, q3] at e0 e1 e2 e3 e4 e5 e6 e7
      exact ⟨⟨a0, a1, a2, a3, a4, a5, a6, a7, l⟩, A, cap, by rw [e0, e1, e2, e3, e4, e5, e6, e7, e8], hC, ⟨b2, b3, hg⟩, hm⟩

theorem msg_in {v : Value} {d : DataW H} {ps : List MemPlace} {r : Reach} {b0 : Nat} (hv : Value.okWide Tryd.prog w r b0 26 v) (h : DataW.Trod enc Tryd.prog w base spare held 26 v d ps) :
    ∃ (m : Msg) (A : Option Addr) (cap : Nat), v = msgA m A m.claims.length cap ∧ ClaimsAt w A m.claims ∧ FitM m ∧ m.claims.length ≤ maxLen := by
  obtain ⟨cs, rfl, hsz⟩ := okWide_struct Tryd.underlying26 hv
  obtain ⟨fuel, hf⟩ := h
  obtain ⟨l⟩ := cs
  obtain ⟨m, A, cap, e, h1, h2, h3⟩ := msg_of hf
  have e' : l = _ := e
  exact ⟨m, A, cap, by rw [e'], h1, h2, h3⟩

theorem pkt_in {v : Value} {d : DataW H} {ps : List MemPlace} {r : Reach} {b0 : Nat} (hv : Value.okWide Tryd.prog w r b0 28 v) (h : DataW.Trod enc Tryd.prog w base spare held 28 v d ps) :
    ∃ (p : Pkt) (A : Option Addr) (cap : Nat), v = pktA p A p.msg.claims.length cap ∧ ClaimsAt w A p.msg.claims ∧ Fits p ∧ p.msg.claims.length ≤ maxLen := by
  obtain ⟨cs, rfl, hsz⟩ := okWide_struct Tryd.underlying28 hv
  obtain ⟨fuel, hf⟩ := h
  obtain ⟨l⟩ := cs
  obtain ⟨xs, n, _, _, hlen, hxl, hf⟩ := DataW.trod_struct Tryd.underlying28 hf
  have hc : Tryd.prog.cellsOf 28 = 15 := by kernel_rfl
  have q1 : Tryd.prog.cellsOf 3 = 1 := by kernel_rfl
  have q2 : Tryd.prog.cellsOf 22 = 1 := by kernel_rfl
  have q9 : Tryd.prog.cellsOf 26 = 9 := by kernel_rfl
  rw [hc] at hlen
  match l, hlen with
  | [c0, c1, c2, c3, c4, c5, c6, c7, c8, c9, c10, c11, c12, c13, c14], _ =>
    match xs, hxl with
    | [y0, y1, y2, y3, y4, y5, y6], _ =>
      obtain ⟨a0, e0⟩ := int_of (x := y0) (hf 0 _ rfl)
      obtain ⟨a1, e1⟩ := int_of (x := y1) (hf 1 _ rfl)
      obtain ⟨a2, e2, b2⟩ := u32_of (x := y2) (hf 2 _ rfl)
      obtain ⟨a3, e3, b3⟩ := u32_of (x := y3) (hf 3 _ rfl)
      obtain ⟨a4, e4, b4⟩ := u32_of (x := y4) (hf 4 _ rfl)
      obtain ⟨a5, e5, b5⟩ := u32_of (x := y5) (hf 5 _ rfl)
      obtain ⟨m, A, cap, e6, hC, hm, hl⟩ := msg_of (x := y6) (hf 6 _ rfl)
      simp [Value.cells, q1, q2] at e0 e1 e2 e3 e4 e5
      simp [Value.cells, q9] at e6
      obtain ⟨rfl, rfl, rfl, rfl, rfl, rfl, rfl, rfl, rfl⟩ := e6
      exact ⟨⟨a0, a1, a2, a3, a4, a5, m⟩, A, cap, by rw [e0, e1, e2, e3, e4, e5], hC, ⟨b2, b3, b4, b5, hm.gen, hm.stamp, hm.cgen⟩, hl⟩
end
end Go.Proofs.YtmfbokaaoffdnaaDoor
