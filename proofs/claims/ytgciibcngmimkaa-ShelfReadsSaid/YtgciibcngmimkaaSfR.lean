/-
  Two writes may be turned; Great, where its sum is within.
-/
import Derived.Test.YtgciibcngmimkaaSfQ
namespace Go.Proofs.Ytgciibcngmimkaa
set_option maxRecDepth 100000
set_option linter.unusedSimpArgs false
open Go Go.RowKit Sf

theorem two_filters {M : List Ent} {p q : Ent → Bool} (h : ∀ e, ¬ (p e = true ∧ q e = true)) : (M.filter p).length + (M.filter q).length ≤ M.length := by
  induction M with
  | nil => simp
  | cons e t ih =>
    simp only [List.filter_cons, List.length_cons]
    have := h e
    cases hp : p e <;> cases hq : q e <;> simp_all <;> omega
theorem wr_len (M : List Ent) (r : Rec) : (wrM M r).length ≤ M.length + 1 := by
  rcases wrM_cases M r with ⟨_, h1⟩ | ⟨_, _, _, h1⟩ | ⟨_, _, _, h1⟩
  · rw [h1]; omega
  · rw [h1]; unfold cutM
    have := List.length_filter_le (fun e : Ent => e.1 != pl r) M
    omega
  · rw [h1]; unfold putM
    have := two_filters (M := M) (p := fun e => decide (e.1 < pl r)) (q := fun e => decide (pl r < e.1)) (fun e => by simp; omega)
    rw [List.length_append, List.length_cons]
    exact Nat.succ_le_succ this
theorem bh_len (l : List Rec) : ∀ M, (bhM M l).length ≤ M.length + l.length := by
  induction l with
  | nil => intro M; simp [bhM]
  | cons r t ih =>
    intro M
    have h1 := ih (wrM M r)
    have h2 := wr_len M r
    show (bhM (wrM M r) t).length ≤ _
    simp only [List.length_cons]
    omega
theorem wr_may_not (M : List Ent) {r : Rec} (h : may r = false) : wrM M r = M := (wr_bad M h).2
theorem mem_may {M : List Ent} {r : Rec} (hm : may r = true) (hl : M.length < 4096) {e : Ent} : e ∈ wrM M r ↔ (e ∈ M ∧ e.1 ≠ pl r) ∨ (r.d ≠ [] ∧ e = (pl r, r.d)) := by
  have h0 : wrE M r = 0 := by
    unfold wrE
    rw [if_neg (by rw [hm]; decide)]
    split
    · rfl
    · split
      · rfl
      · rw [if_neg (by omega)]
  rcases wrM_cases M r with ⟨h, _⟩ | ⟨_, _, hd, h1⟩ | ⟨_, _, hd, h1⟩
  · exact absurd h0 h
  · rw [h1, mem_cut]
    exact ⟨fun h => .inl h, fun h => by rcases h with h | h; exact h; exact absurd hd h.1⟩
  · rw [h1, mem_put]
    exact ⟨fun h => by rcases h with h | h; exact .inr ⟨hd, h⟩; exact .inl h, fun h => by rcases h with h | h; exact .inr h; exact .inl h.2⟩
/-- Records of different places may be written in any order. -/
theorem wr_turn {M : List Ent} (hM : Ok M) (hl : M.length ≤ 4000) {x y : Rec} (hx : ∀ c ∈ x.d, c < 256) (hy : ∀ c ∈ y.d, c < 256) (hne : ¬ (x.k = y.k ∧ x.n = y.n)) : wrM (wrM M x) y = wrM (wrM M y) x := by
  cases mx : may x with
  | false => rw [wr_may_not _ mx, wr_may_not _ mx]
  | true =>
    cases my : may y with
    | false => rw [wr_may_not _ my, wr_may_not _ my]
    | true =>
      have hp : pl x ≠ pl y := fun e => hne (pl_eq mx my e)
      have l1 := wr_len M x
      have l2 := wr_len M y
      refine srt_eq ((hM.wr hx).wr hy).srt ((hM.wr hy).wr hx).srt (fun e => ?_)
      rw [mem_may my (by omega), mem_may mx (by omega), mem_may mx (by omega), mem_may my (by omega)]
      constructor
      · rintro (⟨⟨h1, h2⟩ | ⟨h1, rfl⟩, h3⟩ | ⟨h1, rfl⟩)
        · exact .inl ⟨.inl ⟨h1, h3⟩, h2⟩
        · exact .inr ⟨h1, rfl⟩
        · exact .inl ⟨.inr ⟨h1, rfl⟩, fun e => hp e.symm⟩
      · rintro (⟨⟨h1, h2⟩ | ⟨h1, rfl⟩, h3⟩ | ⟨h1, rfl⟩)
        · exact .inl ⟨.inl ⟨h1, h3⟩, h2⟩
        · exact .inr ⟨h1, rfl⟩
        · exact .inl ⟨.inr ⟨h1, rfl⟩, hp⟩

def gsum (l : List Rc) : Nat := (l.map (fun x => 10 + x.r.d.length)).sum
theorem gsum_take {l : List Rc} {j : Nat} (hj : j < l.length) : gsum (l.take (j + 1)) = gsum (l.take j) + (10 + (l.getD j default).r.d.length) := by
  have e : l.take (j + 1) = l.take j ++ [l.getD j default] := by
    rw [List.take_add_one]
    congr 1
    rw [List.getElem?_eq_getElem hj]
    simp [List.getD, hj]
  rw [e]
  simp [gsum]
theorem gsum_le (l : List Rc) : ∀ j, gsum (l.take j) ≤ gsum l := by
  intro j
  have : gsum l = gsum (l.take j) + gsum (l.drop j) := by
    unfold gsum
    rw [← List.sum_append, ← List.map_append, List.take_append_drop]
  omega
theorem gsum_len (l : List Rc) : 10 * l.length ≤ gsum l := by
  induction l with
  | nil => simp
  | cons x t ih =>
    have : gsum (x :: t) = 10 + x.r.d.length + gsum t := by simp [gsum]
    rw [this, List.length_cons]
    omega
set_option maxHeartbeats 1000000 in
theorem great_sum {w : World} {A : Option Addr} {l : List Rc} (cap : Nat) (h : RsAt w A l) (hs : gsum l ≤ 1000000000000000) :
    Calls Try.prog 9 #[.slice A l.length cap] w fun e w' => ((e = .returned (.int .i64 0) ∧ l.length ≤ 400) ∨ e = .returned (.int .i64 1)) ∧ w = w' := by
  obtain ⟨P, hP⟩ : ∃ P : Ending → World → Prop, P = fun e w' => ((e = .returned (.int .i64 0) ∧ l.length ≤ 400) ∨ e = .returned (.int .i64 1)) ∧ w = w' := ⟨_, rfl⟩
  have H1 : Hid (P (.returned (.int .i64 1)) w) := Lib.hid (by rw [hP]; exact ⟨.inr rfl, rfl⟩)
  have H0 : Hid (¬ 4000 < gsum l → P (.returned (.int .i64 0)) w) := Lib.hid (fun hn => by
    rw [hP]
    have := gsum_len l
    exact ⟨.inl ⟨rfl, by omega⟩, rfl⟩)
  rw [← hP]
  clear hP
  have hlen := gsum_len l
  have HO := Lib.hid h
  have HS : Hid (∀ j, gsum (l.take j) ≤ 1000000000000000) := Lib.hid (fun j => Nat.le_trans (gsum_le l j) hs)
  clear h
  obtain ⟨L, hL⟩ : ∃ L, L = l.length := ⟨_, rfl⟩
  have HL := Lib.hid hL
  have hL9 : L ≤ 1000000000000000 := by omega
  rw [← hL]
  clear hL hlen hs
  go_enter Try.func9, Try.ntmps9
  go_wp2_with fail
  go_loopw [3, 4] (fun n i wr => ∃ (j z : Nat), j ≤ L ∧ i = .int .i64 (j : Int) ∧ n = .int .i64 (z : Int) ∧ z = gsum (l.take j) ∧ wr = w) (fun _ i _ => L - (intOf i).toNat)
  case atStart => exact ⟨0, 0, by omega, rfl, rfl, rfl, rfl⟩
  case round =>
    obtain ⟨j, z, hj, rfl, rfl, hz, rfl⟩ := hrel
    have hzb : z ≤ 1000000000000000 := by rw [hz]; exact HS.out j
    by_cases hlt : j < L
    · have hjl : j < l.length := by rw [← HL.out]; exact hlt
      obtain ⟨a, rfl, ⟨_, _, c2⟩, _⟩ := HO.out j hjl
      have hz2 : gsum (l.take (j + 1)) = z + 10 + (l.getD j default).r.d.length := by rw [gsum_take hjl, hz]; omega
      have hb2 := HS.out (j + 1)
      rw [hz2] at hb2
      have HZ2 := Lib.hid hz2
      clear hz2 hz hjl
      generalize (l.getD j default).r.d.length = dl at *
      generalize (l.getD j default).A = Ad at *
      generalize (l.getD j default).cap = cp at *
      have HZ3 : Hid (((z + 10 + dl : Nat) : Int) = (z : Int) + 10 + (dl : Int)) := Lib.hid (by omega)
      go_wp2
      go_roundw
      case rel => exact ⟨j + 1, z + 10 + dl, by omega, by go_num, by go_num, HZ2.out.symm, by first | rfl | trivial⟩
      case measure => simp [intOf]; omega
    · obtain rfl : j = L := by omega
      have hzz : z = gsum l := by rw [hz, List.take_of_length_le (by rw [← HL.out]; omega)]
      by_cases hz : 4000 < z
      · go_wp2
        exact H1.out
      · have HF := Lib.hid (H0.out (by rw [← hzz]; exact hz))
        clear hzz
        go_wp2
        exact HF.out
end Go.Proofs.Ytgciibcngmimkaa
