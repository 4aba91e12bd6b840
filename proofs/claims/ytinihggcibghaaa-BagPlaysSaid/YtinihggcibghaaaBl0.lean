/-
  The document's bag: Find; appends.
-/
import Derived.Test.YtinihggcibghaaaB4
import Derived.Laws.AppendOwnNone
import Derived.Laws.AppendOwn
namespace Go.Proofs.Ytinihggcibghaaa
set_option maxRecDepth 100000
set_option linter.unusedSimpArgs false
open Go Go.RowKit Bg
attribute [local go_sem] Oper.semAt_some

/-- Where a packet is; -1: nowhere. -/
def rfV (b : St) (n : Int) : Int := match idx b.l n with | none => -1 | some i => (i : Int)
theorem idx_first {l : List Fl} {n : Int} {j : Nat} (hj : j < l.length) (h : ∀ q, q < j → (l.getD q noFl).n ≠ n) (he : (l.getD j noFl).n = n) : idx l n = some j := by
  unfold idx
  rw [List.findIdx?_eq_some_iff_getElem]
  have e : ∀ q (hq : q < l.length), l.getD q noFl = l[q] := fun q hq => by rw [List.getD_eq_getElem?_getD, List.getElem?_eq_getElem hq]; rfl
  refine ⟨hj, by rw [e j hj] at he; simpa using he, fun q hq => ?_⟩
  have := h q hq
  rw [e q (by omega)] at this
  simpa using this
theorem idx_no {l : List Fl} {n : Int} (h : ∀ q, q < l.length → (l.getD q noFl).n ≠ n) : idx l n = none := by
  unfold idx
  rw [List.findIdx?_eq_none_iff]
  intro x hx
  obtain ⟨q, hq, rfl⟩ := List.getElem_of_mem hx
  have := h q hq
  rw [List.getD_eq_getElem?_getD, List.getElem?_eq_getElem hq] at this
  simpa using this

set_option maxHeartbeats 2000000 in
theorem rfind_any {w : World} {S : Nat → Prop} {o : Nat} {b : St} (h : BagAt 32 w S o b) (h256 : b.l.length ≤ 256) (n : Int) :
    Calls Try.prog 13 #[.pointer (some ⟨o, 0, none⟩), .int .i64 n] w fun e w' => e = .returned (.int .i64 (rfV b n)) ∧ w = w' := by
  obtain ⟨P, hP⟩ : ∃ P : Ending → World → Prop, P = fun e w' => e = .returned (.int .i64 (rfV b n)) ∧ w = w' := ⟨_, rfl⟩
  have HS : Hid (∀ j, j < b.l.length → (∀ q, q < j → (b.l.getD q noFl).n ≠ n) → (b.l.getD j noFl).n = n → P (.returned (.int .i64 (j : Int))) w) := fun j hj h1 h2 => by
    rw [hP]; exact ⟨by rw [rfV, idx_first hj h1 h2], rfl⟩
  have HN : Hid ((∀ q, q < b.l.length → (b.l.getD q noFl).n ≠ n) → P (.returned (.int .i64 (-1))) w) := fun h1 => by
    rw [hP]; exact ⟨by rw [rfV, idx_no h1], rfl⟩
  rw [← hP]
  clear hP
  obtain ⟨⟨v, E, hE, ho, hw⟩, _, _⟩ := h
  obtain ⟨A, cap, rfl, hle, _, hA⟩ := hw.form
  have hlen : E.length = b.l.length := by rw [← hE]; simp
  have HC : Hid (∀ j, j < b.l.length → ∃ g, A = some ⟨g, 0, none⟩ ∧ w.cell? ⟨g, j * 5, none⟩ = some (.int .i64 (b.l.getD j noFl).n)) := fun j hj => by
    obtain ⟨g, rfl⟩ := hA (by omega)
    have := (hw.cells (k := j) (by omega)).1
    rw [entD hE] at this
    exact ⟨g, rfl, this⟩
  obtain ⟨⟨z0, _⟩, _⟩ := eight ho
  rw [hlen] at z0 hle
  clear hw hA ho hE hlen
  generalize b.l.length = N at *
  have hN : N ≤ 9223372036854775807 := by omega
  go_enter Try.func13, Try.ntmps13
  go_wp2
  go_loopw [5] (fun i wr => ∃ j : Nat, j ≤ N ∧ i = .int .i64 (j : Int) ∧ wr = w ∧ ∀ q, q < j → (b.l.getD q noFl).n ≠ n) (fun i _ => N - (intOf i).toNat)
  case atStart => exact ⟨0, by omega, rfl, rfl, fun q hq => by omega⟩
  case round =>
    obtain ⟨j, hj, rfl, rfl, hq⟩ := hrel
    have HQ := Lib.hid hq
    clear hq
    by_cases hlt : j < N
    · obtain ⟨g, rfl, hc⟩ := HC.out j hlt
      have j0 : (0 : Int) ≤ (j : Int) := by omega
      have j1 : (j : Int) < (N : Int) := by omega
      by_cases he : (b.l.getD j noFl).n = n
      · have HF := Lib.hid (HS.out j hlt HQ.out he)
        rw [he] at hc
        clear he HS HN HC
        go_wp2
        first | exact HF.out | (go_ret; exact HF.out)
      · have HQ2 : Hid (∀ q, q < j + 1 → (b.l.getD q noFl).n ≠ n) := fun q hq => by
          by_cases e : q = j
          · subst e; exact he
          · exact HQ.out q (by omega)
        generalize (b.l.getD j noFl).n = m at *
        have hd : (m == n) = false := by simpa using he
        clear HQ HS HN HC
        go_wp2
        go_roundw
        case rel => exact ⟨j + 1, by omega, by go_num, by first | rfl | trivial, HQ2.out⟩
        case measure => simp [intOf]; omega
    · obtain rfl : j = N := by omega
      have HF := Lib.hid (HN.out HQ.out)
      clear HS HN HC
      go_wp2
      first | exact HF.out | (go_ret; exact HF.out)

theorem wpList_append_bytes {ops : Array Oper} {rest : List Oper} {o : Oper} {a : Act} {w : World} {Q : Exit → Act → World → Prop} (hgd : o.guard = none) (s x : Operand)
    (ho : o.op = .call { callee := .builtin .append, args := #[s, x], argTypes := #[34, 34] }) (base : Nat) {v : Value} {n : Nat} {L : List Nat} (hs : a.eval s = v) (hown : w.ownsRow base 5 1 v n (L.map byV))
    {A : Option Addr} {m c : Nat} {news : List Nat} (hx : a.eval x = .slice A m c) (hA : BytesAt w A news) (hm : m = news.length) (hn : A = none → news = [] ∧ c = 0)
    (h63 : n + m ≤ 1000000) (hbase : base ≤ w.heap.size)
    (h : ∀ v' w', w'.ownsRow base 5 1 v' (n + m) ((L ++ news).map byV) → w.grownBy w' v.ownBlock → wpList Try.prog ops Q rest (a.put o.dst v') w') : wpList Try.prog ops Q (o :: rest) a w := by
  obtain ⟨i0, hi0, hz0, hz1, hz2⟩ := info_parts Try.infoU8
  cases A with
  | none =>
    obtain ⟨rfl, rfl⟩ := hn rfl
    subst hm
    exact wpList_append_own_none hgd s x 34 ho base 5 i0 1 Try.underlying34 hi0 v n (L.map byV) hs hown hx (h v w (by simpa using hown) (World.grownBy.refl w _))
  | some ad =>
    refine wpList_append_own (P := Try.prog) w hgd s x 34 ho base 5 i0 (.int .u8 0) 1 1 Try.underlying34 hi0 hz0 hz1 hz2 rfl (by decide) v n (L.map byV) hs hown ad m c (news.map byV) hx (by rw [List.length_map]; omega) ?_ (by intro u hu; obtain ⟨z, _, rfl⟩ := List.mem_map.1 hu; rfl) (by unfold maxLen; omega) (by omega) hbase (fun v' w' h1 h2 _ => h v' w' (by rw [List.map_append]; exact h1) h2)
    intro j u hu
    have hj : j < news.length := by
      rcases Nat.lt_or_ge j news.length with h | h
      · exact h
      · rw [List.getElem?_eq_none (by simpa using h)] at hu; cases hu
    obtain ⟨a', e1, h2⟩ := hA j hj
    cases e1
    rw [h2, ← hu]
    simp [List.getD, hj]
/-- Packets are appended to a list of the call's own. -/
theorem wpList_append_fl {ops : Array Oper} {rest : List Oper} {o : Oper} {a : Act} {w : World} {Q : Exit → Act → World → Prop} (hgd : o.guard = none) (s x : Operand)
    (ho : o.op = .call { callee := .builtin .append, args := #[s, x], argTypes := #[25, 25] }) (base : Nat) {v : Value} {n : Nat} {L : List Ent} (hs : a.eval s = v) (hown : w.ownsRow base 38 5 v n (csE L))
    {ad : Addr} {m c : Nat} {news : List Ent} (hx : a.eval x = .slice (some ad) m c) (hA : ∀ j u, (csE news)[j]? = some u → w.cell? (ad.add j) = some u) (hm : m = news.length)
    (h63 : n + m ≤ 1000000) (hbase : base ≤ w.heap.size)
    (h : ∀ v' w', w'.ownsRow base 38 5 v' (n + m) (csE (L ++ news)) → w.grownBy w' v.ownBlock → wpList Try.prog ops Q rest (a.put o.dst v') w') : wpList Try.prog ops Q (o :: rest) a w := by
  obtain ⟨i0, hi0, hz0, hz1, hz2⟩ := info_parts Try.infoFl
  exact wpList_append_own (P := Try.prog) w hgd s x 25 ho base 38 i0 (.agg #[.int .i64 0, .int .i64 0, .int .i64 0, .slice none 0 0, .bool false]) 5 56 Try.underlying25 hi0 hz0 hz1 hz2 rfl (by decide) v n (csE L) hs hown ad m c (csE news) hx (by rw [csE_length, hm]) hA csE_one (by unfold maxLen; omega) (by omega) hbase (fun v' w' h1 h2 _ => h v' w' (by rw [csE_append]; exact h1) h2)
end Go.Proofs.Ytinihggcibghaaa
