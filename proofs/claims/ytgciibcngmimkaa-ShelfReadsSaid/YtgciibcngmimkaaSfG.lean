/-
  The laws' arguments; Great; the chapter's example.
-/
import Derived.Test.YtgciibcngmimkaaSfF
import Derived.Test.YtgciibcngmimkaaSf5
import Derived.Deep.Slices
import Derived.Deep.Fields
import Derived.ChangeSlices
import Derived.ChangeSame
import Derived.OpenShut
namespace Go.Proofs.Ytgciibcngmimkaa
set_option maxRecDepth 100000
set_option linter.unusedSimpArgs false
open Go Go.RowKit Sf
open Go.ChangeShapes Go.WideShapes Go.Deep

theorem choose_nat {α : Type} [Inhabited α] {P : Nat → α → Prop} : ∀ n, (∀ i, i < n → ∃ x, P i x) → ∃ l : List α, l.length = n ∧ ∀ i, i < n → P i (l.getD i default)
  | 0, _ => ⟨[], rfl, fun i hi => by omega⟩
  | n + 1, h => by
    obtain ⟨l, hl, hp⟩ := choose_nat n (fun i hi => h i (by omega))
    obtain ⟨x, hx⟩ := h n (by omega)
    refine ⟨l ++ [x], by simp [hl], fun i hi => ?_⟩
    by_cases e : i = n
    · subst e
      have : (l ++ [x]).getD i default = x := by rw [← hl]; simp [List.getD]
      rw [this]; exact hx
    · have : (l ++ [x]).getD i default = l.getD i default := by simp [List.getD, List.getElem?_append_left (show i < l.length by omega)]
      rw [this]; exact hp i (by omega)
section
variable {H : Type} {enc : TypeId × Value → H} {w : World} {base : Nat} {spare : Nat → Bool} {held : Bool}
theorem int_of {fuel : Nat} {c : List Value} {x : DataW H × List MemPlace} (h : DataW.trod enc Try.prog w base spare held fuel 3 c = some x) : ∃ n : Int, c = [.int .i64 n] := by
  obtain ⟨n, e, _, _⟩ := DataW.trod_int Try.underlying3 h
  exact ⟨n, e⟩
theorem u8_of {fuel : Nat} {c : List Value} {x : DataW H × List MemPlace} (h : DataW.trod enc Try.prog w base spare held fuel 5 c = some x) : ∃ n : Nat, c = [.int .u8 (n : Nat)] ∧ n < 256 := by
  obtain ⟨n, e, _, hw⟩ := DataW.trod_int Try.underlying5 h
  have hb := bounds_u8 hw
  obtain ⟨k, rfl⟩ := Int.eq_ofNat_of_zero_le hb.1
  exact ⟨k, e, by omega⟩
theorem bytes_of {fuel : Nat} {v : Value} {x : DataW H × List MemPlace} (hf : DataW.trod enc Try.prog w base spare held fuel 30 [v] = some x) :
    ∃ (A : Option Addr) (l : List Nat) (cap : Nat), v = .slice A l.length cap ∧ BytesAt w A l ∧ (∀ c ∈ l, c < 256) ∧ l.length ≤ cap ∧ cap ≤ maxLen ∧ (A = none → l = [] ∧ cap = 0) := by
  have hc : Try.prog.cellsOf 5 = 1 := by kernel_rfl
  rcases open_slice1 Try.underlying30 hc hf with ⟨h0, _⟩ | ⟨a', len', cap', m, n, V, D, Pl, hcs, hb, hl, hm, hmm, hx, hi⟩
  · have e : v = .slice none 0 0 := by simpa using h0
    exact ⟨none, [], 0, e, fun k hk => by simp at hk, fun x hx => by simp at hx, by simp, by simp [maxLen], fun _ => ⟨rfl, rfl⟩⟩
  · have e : v = .slice (some a') len' cap' := by simpa using hcs
    have hml : len' ≤ m := by rw [hmm]; split <;> omega
    obtain ⟨l, hll, hp⟩ := choose_nat (P := fun i (x : Nat) => w.cell? (a'.add i) = some (byV x) ∧ x < 256) len' (by
      intro i hil
      obtain ⟨h1, h2⟩ := hi i (by omega)
      obtain ⟨k, e, hk⟩ := u8_of h2
      simp at e
      exact ⟨k, by rw [h1, e]; rfl, hk⟩)
    refine ⟨some a', l, cap', by rw [hll]; exact e, fun k hk => ?_, fun x hx => ?_, by omega, hm, fun e => by cases e⟩
    · exact ⟨a', rfl, (hp k (by omega)).1⟩
    · obtain ⟨j, hj, rfl⟩ := List.getElem_of_mem hx
      have := (hp j (by omega)).2
      simpa [List.getD, hj] using this
theorem rc_of {fuel : Nat} {cs : List Value} {x : DataW H × List MemPlace} (h : DataW.trod enc Try.prog w base spare held fuel 32 cs = some x) :
    ∃ y : Rc, cs = [.int .i64 y.r.k, .int .i64 y.r.n, .slice y.A y.r.d.length y.cap] ∧ RecOk w y.r y.A y.cap := by
  obtain ⟨xs, n, _, _, hlen, hxl, hf⟩ := DataW.trod_struct Try.underlying32 h
  have hc : Try.prog.cellsOf 32 = 3 := by kernel_rfl
  have q1 : Try.prog.cellsOf 3 = 1 := by kernel_rfl
  have q3 : Try.prog.cellsOf 30 = 1 := by kernel_rfl
  rw [hc] at hlen
  match cs, hlen with
  | [c0, c1, c2], _ =>
    match xs, hxl with
    | [y0, y1, y2], _ =>
      have f2 := hf 2 _ rfl
      obtain ⟨a0, e0⟩ := int_of (x := y0) (hf 0 _ rfl)
      obtain ⟨a1, e1⟩ := int_of (x := y1) (hf 1 _ rfl)
      simp [q1, q3] at e0 e1 f2
      obtain ⟨A, l, cap, e2, g1, g2, g3, g4, g5⟩ := bytes_of (x := y2) f2
      exact ⟨⟨⟨a0, a1, l⟩, A, cap⟩, by rw [e0, e1, e2], ⟨g1, g5, g2⟩⟩
theorem rcs_in {v : Value} {d : DataW H} {ps : List MemPlace} {r : Reach} {b0 : Nat} (hv : Value.okWide Try.prog w r b0 22 v) (h : DataW.Trod enc Try.prog w base spare held 22 v d ps) :
    ∃ (A : Option Addr) (l : List Rc) (cap : Nat), v = .slice A l.length cap ∧ RsAt w A l ∧ l.length ≤ cap ∧ cap ≤ maxLen := by
  obtain ⟨a, len, cap, rfl⟩ := okWide_slice Try.underlying22 hv
  obtain ⟨fuel, hf⟩ := h
  have hc : Try.prog.cellsOf 32 = 3 := by kernel_rfl
  rcases open_slice Try.underlying22 hf with ⟨h0, _⟩ | ⟨a', len', cap', m, n, D, Pl, hcs, hb, hl, hm, hmm, hx, hi⟩
  · have e : (Value.slice a len cap) = .slice none 0 0 := by simpa [Value.cells] using h0
    cases e
    exact ⟨none, [], 0, rfl, fun k hk => by simp at hk, by simp, by simp [maxLen]⟩
  · have e : (Value.slice a len cap) = .slice (some a') len' cap' := by simpa [Value.cells] using hcs
    cases e
    have hml : len ≤ m := by rw [hmm]; split <;> omega
    obtain ⟨l, hll, hp⟩ := choose_nat (P := fun i (x : Rc) => RecOk w x.r x.A x.cap ∧ w.cell? (a'.add (i * 3)) = some (.int .i64 x.r.k) ∧ w.cell? ((a'.add (i * 3)).add 1) = some (.int .i64 x.r.n) ∧ w.cell? ((a'.add (i * 3)).add 2) = some (.slice x.A x.r.d.length x.cap)) len (by
      intro i hil
      obtain ⟨cs', hcs', ht⟩ := hi i (by omega)
      rw [hc] at hcs'
      obtain ⟨it, rfl, hw⟩ := rc_of ht
      obtain ⟨_, hcl, hat⟩ := World.cells?_some hcs'
      have h0 := hat 0 (by omega)
      have h1 := hat 1 (by omega)
      have h2 := hat 2 (by omega)
      have e0 : (a'.add (i * 3)).add 0 = a'.add (i * 3) := by simp [Addr.add]
      rw [e0] at h0
      exact ⟨it, hw, h0, h1, h2⟩)
    refine ⟨some a', l, cap, by rw [hll], fun k hk => ?_, by omega, hm⟩
    obtain ⟨h6, h0, h1, h2⟩ := hp k (by omega)
    exact ⟨a', rfl, ⟨h0, h1, h2⟩, h6⟩
end

set_option maxHeartbeats 1000000 in
theorem great_any {w : World} {A : Option Addr} {l : List Rc} (cap : Nat) (h : RsAt w A l) (hl : l.length ≤ 1000000000000000) :
    Calls Try.prog 9 #[.slice A l.length cap] w fun e w' => (e = .returned (.int .i64 0) ∨ e = .returned (.int .i64 1)) ∧ w = w' := by
  obtain ⟨P, hP⟩ : ∃ P : Ending → World → Prop, P = fun e w' => (e = .returned (.int .i64 0) ∨ e = .returned (.int .i64 1)) ∧ w = w' := ⟨_, rfl⟩
  have H1 : Hid (P (.returned (.int .i64 1)) w) := Lib.hid (by rw [hP]; exact ⟨.inr rfl, rfl⟩)
  have H0 : Hid (P (.returned (.int .i64 0)) w) := Lib.hid (by rw [hP]; exact ⟨.inl rfl, rfl⟩)
  rw [← hP]
  clear hP
  have HO := Lib.hid h
  clear h
  obtain ⟨L, hL⟩ : ∃ L, L = l.length := ⟨_, rfl⟩
  have HL := Lib.hid hL
  have hL9 : L ≤ 1000000000000000 := by rw [hL]; exact hl
  rw [← hL]
  clear hL hl
  go_enter Try.func9, Try.ntmps9
  go_wp2_with fail
  go_loopw [3, 4] (fun n i wr => ∃ (j : Nat) (z : Int), j ≤ L ∧ i = .int .i64 (j : Int) ∧ n = .int .i64 z ∧ wr = w) (fun _ i _ => L - (intOf i).toNat)
  case atStart => exact ⟨0, 0, by omega, rfl, rfl, rfl⟩
  case round =>
    obtain ⟨j, z, hj, rfl, rfl, rfl⟩ := hrel
    by_cases hlt : j < L
    · obtain ⟨a, rfl, ⟨_, _, c2⟩, _⟩ := HO.out j (by rw [← HL.out]; exact hlt)
      generalize (l.getD j default).r.d.length = dl at *
      generalize (l.getD j default).A = Ad at *
      generalize (l.getD j default).cap = cp at *
      go_wp2
      go_roundw
      case rel => exact ⟨j + 1, _, by omega, by go_num, rfl, by first | rfl | trivial⟩
      case measure => simp [intOf]; omega
    · obtain rfl : j = L := by omega
      by_cases hz : 4000 < z
      · go_wp2
        exact H1.out
      · go_wp2
        exact H0.out
end Go.Proofs.Ytgciibcngmimkaa
