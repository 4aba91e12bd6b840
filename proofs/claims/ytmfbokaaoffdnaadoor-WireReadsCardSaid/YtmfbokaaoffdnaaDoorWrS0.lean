/-
  Of packets' bytes that were spoilt, cut, or have more behind them; bytes behind bytes.
-/
import Derived.Test.YtmfbokaaoffdnaaDoorWrJ0
import Derived.Laws.AppendOwn
import Derived.Laws.AppendOwnNone
import Derived.Laws.MakeOwn
namespace Go.Proofs.YtmfbokaaoffdnaaDoor
set_option maxRecDepth 100000
set_option linter.unusedSimpArgs false
open Go Go.RowKit Wr
open Go.ChangeShapes Go.WideShapes Go.Deep

namespace Wr
theorem spoil_same {p : Pkt} (h : okP p = true) (hf : Fits p) {N : Nat} (hN : N < (bytes p).length) : readF ((bytes p).set N ((bytes p).getD N 0)) = some p := by
  have : (bytes p).set N ((bytes p).getD N 0) = bytes p := by
    rw [List.getD_eq_getElem?_getD, List.getElem?_eq_getElem hN]
    simp
  rw [this]; exact read_bytes h hf
theorem spoil_none {p : Pkt} {N c : Nat} (hN : N < (bytes p).length) (hc : c < 256) (hne : c ≠ (bytes p).getD N 0) : readF ((bytes p).set N c) = none := by
  cases hr : readF ((bytes p).set N c) with
  | none => rfl
  | some x =>
    exfalso
    have hlt : ∀ b ∈ (bytes p).set N c, b < 256 := by
      intro b hb
      rcases List.mem_or_eq_of_mem_set hb with h | h
      · exact bytes_lt p b h
      · omega
    obtain ⟨he, hok, _⟩ := read_some hlt hr
    have hl : (bytes x).length = (bytes p).length := by rw [← he]; simp
    have hg : ∀ j, (bytes x).getD j 0 = if j = N then c else (bytes p).getD j 0 := by
      intro j
      rw [← he, List.getD_eq_getElem?_getD, List.getElem?_set]
      by_cases hj : N = j
      · subst hj; simp [hN]
      · rw [if_neg hj, if_neg (fun e => hj e.symm), List.getD_eq_getElem?_getD]
    have hev := (bytes_38 p).2
    by_cases h2 : N % 2 = 0
    · have e : 2 * (N / 2) = N := by omega
      obtain ⟨a1, a2, a3⟩ := bytes_pair x (k := N / 2) (by rw [e, hl]; exact hN)
      obtain ⟨b1, b2, b3⟩ := bytes_pair p (k := N / 2) (by rw [e]; exact hN)
      rw [e] at a1 a2 a3 b1 b2 b3
      rw [hg, hg, if_pos rfl, if_neg (by omega)] at a3
      omega
    · have e : 2 * (N / 2) + 1 = N := by omega
      obtain ⟨a1, a2, a3⟩ := bytes_pair x (k := N / 2) (by rw [hl]; omega)
      obtain ⟨b1, b2, b3⟩ := bytes_pair p (k := N / 2) (by omega)
      rw [e] at a3 b3
      rw [hg, hg, if_neg (by omega), if_pos rfl] at a3
      omega
theorem cut_none {p : Pkt} (h : okP p = true) (hf : Fits p) {N : Nat} (hN : N < (bytes p).length) : readF ((bytes p).take N) = none := by
  cases hr : readF ((bytes p).take N) with
  | none => rfl
  | some x =>
    exfalso
    obtain ⟨he, hok, hfx⟩ := read_some (fun c hc => bytes_lt p c (List.mem_of_mem_take hc)) hr
    have h1 := rdP_be hok hfx ((bytes p).drop N)
    rw [← he, List.take_append_drop] at h1
    have h2 := rdP_be h hf []
    rw [List.append_nil, h1] at h2
    have h3 : (bytes p).drop N = [] := congrArg (fun y : Pkt × RS => y.2.1) h2
    have := congrArg List.length h3
    simp at this
    omega
end Wr

section
variable {H : Type} {enc : TypeId × Value → H} {w : World} {base : Nat} {spare : Nat → Bool} {held : Bool}
theorem bytes_in2 {v : Value} {d : DataW H} {ps : List MemPlace} {r : Reach} {b0 : Nat} (hv : Value.okWide Tryd.prog w r b0 34 v) (h : DataW.Trod enc Tryd.prog w base spare held 34 v d ps) :
    ∃ (A : Option Addr) (l : List Nat) (cap : Nat), v = .slice A l.length cap ∧ BytesAt w A l ∧ (∀ c ∈ l, c < 256) ∧ l.length ≤ cap ∧ cap ≤ maxLen ∧ (A = none → l = [] ∧ cap = 0) := by
  obtain ⟨A, l, cap, rfl, h1, h2, h3, h4⟩ := bytes_in hv h
  refine ⟨A, l, cap, rfl, h1, h2, h3, h4, ?_⟩
  rintro rfl
  obtain ⟨fuel, hf⟩ := h
  rcases open_slice Tryd.underlying34 hf with ⟨h0, _⟩ | ⟨a', len', cap', m, n, D, Pl, hcs, _⟩
  · have e : (Value.slice none l.length cap) = .slice none 0 0 := by simpa [Value.cells] using h0
    injection e with _ e1 e2
    exact ⟨List.length_eq_zero_iff.1 e1, e2⟩
  · simp [Value.cells] at hcs
end

/-- Bytes behind bytes of the call's own. -/
theorem wpList_append_bytes {ops : Array Oper} {rest : List Oper} {o : Oper} {a : Act} {w : World} {Q : Exit → Act → World → Prop} (hgd : o.guard = none) (s x : Operand)
    (ho : o.op = .call { callee := .builtin .append, args := #[s, x], argTypes := #[34, 34] }) (base : Nat) {v : Value} {n : Nat} {L : List Nat} (hs : a.eval s = v) (hown : w.ownsRow base 5 1 v n (L.map byV))
    {A : Option Addr} {m c : Nat} {news : List Nat} (hx : a.eval x = .slice A m c) (hA : BytesAt w A news) (hm : m = news.length) (hn : A = none → news = [] ∧ c = 0)
    (h63 : n + m ≤ 1000000) (hbase : base ≤ w.heap.size)
    (h : ∀ v' w', w'.ownsRow base 5 1 v' (n + m) ((L ++ news).map byV) → w.grownBy w' v.ownBlock → wpList Tryd.prog ops Q rest (a.put o.dst v') w') : wpList Tryd.prog ops Q (o :: rest) a w := by
  obtain ⟨i0, hi0, hz0, hz1, hz2⟩ := info_parts Tryd.infoU8
  cases A with
  | none =>
    obtain ⟨rfl, rfl⟩ := hn rfl
    subst hm
    exact wpList_append_own_none hgd s x 34 ho base 5 i0 1 Tryd.underlying34 hi0 v n (L.map byV) hs hown hx (h v w (by simpa using hown) (World.grownBy.refl w _))
  | some ad =>
    refine wpList_append_own (P := Tryd.prog) w hgd s x 34 ho base 5 i0 (.int .u8 0) 1 1 Tryd.underlying34 hi0 hz0 hz1 hz2 rfl (by decide) v n (L.map byV) hs hown ad m c (news.map byV) hx (by rw [List.length_map]; omega) ?_ (by intro u hu; obtain ⟨z, _, rfl⟩ := List.mem_map.1 hu; rfl) (by unfold maxLen; omega) (by omega) hbase (fun v' w' h1 h2 _ => h v' w' (by rw [List.map_append]; exact h1) h2)
    intro j u hu
    have hj : j < news.length := by
      rcases Nat.lt_or_ge j news.length with h | h
      · exact h
      · rw [List.getElem?_eq_none (by simpa using h)] at hu; cases hu
    obtain ⟨a', e1, h2⟩ := hA j hj
    cases e1
    rw [h2, ← hu]
    simp [List.getD, hj]

/-- Read, whatever it answers: an error or none. -/
theorem read_flag {w : World} (hT : Tab w) {A : Option Addr} {l : List Nat} {cap : Nat} (hB : BytesAt w A l) (hcap : l.length ≤ cap) (hlt : ∀ c ∈ l, c < 256) (hl : l.length ≤ 100000) :
    Calls Tryd.prog 12 #[.slice A l.length cap] w fun e w' => ∃ (q : Pkt) (A : Option Addr) (n cap : Nat), e = .returned (.tuple #[pktA q A n cap, .int .i64 (if (readF l).isSome then 0 else 70)]) ∧ Below w.heap.size w w' := by
  refine (read_any hT hB hcap hlt hl).mono ?_
  rintro e w' ⟨hb, ⟨h, rfl⟩ | ⟨p, A, cap, h, rfl, _⟩⟩
  · rw [h]; exact ⟨⟨0, 0, 0, 0, 0, 0, ⟨0, 0, 0, 0, 0, 0, 0, 0, []⟩⟩, none, 0, 0, rfl, hb⟩
  · rw [h]; exact ⟨p, A, _, cap, rfl, hb⟩

theorem mod_facts (at_ : Int) {L : Nat} (hL : 38 ≤ L) (hL2 : L ≤ 400) : IntKind.i64.wrap (at_.tmod L + L) = at_.tmod L + L ∧ ∃ N : Nat, N < L ∧ (at_.tmod L + L).tmod L = (N : Int) := by
  have h1 := Int.tmod_lt_of_pos at_ (show (0 : Int) < L by omega)
  have h2 := Int.lt_tmod_of_pos at_ (show (0 : Int) < L by omega)
  refine ⟨by rw [wrap_w64]; unfold w64; omega, ((at_.tmod L + L) % L).toNat, ?_, ?_⟩
  · have := Int.emod_lt_of_pos (at_.tmod L + L) (show (0 : Int) < L by omega)
    have := Int.emod_nonneg (at_.tmod L + L) (show (L : Int) ≠ 0 by omega)
    omega
  · rw [Int.tmod_eq_emod_of_nonneg (by omega)]
    have := Int.emod_nonneg (at_.tmod L + L) (show (L : Int) ≠ 0 by omega)
    omega
end Go.Proofs.YtmfbokaaoffdnaaDoor
