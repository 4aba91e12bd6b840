/-
  The walk of the law GridWalled.
-/
import Derived.Test.YtlkojoinbogkmaaDoorMany
namespace Go.Proofs.YtlkojoinbogkmaaDoor
set_option maxRecDepth 100000
set_option linter.unusedSimpArgs false
open Go.RowKit

theorem walled_below (L : List (List UInt8)) (q s : ByteArray) (hs : s.data.toList = Pure.text L) (hq : q.data.toList = Pure.wallRow (Pure.wid L)) : (s ++ q ++ ⟨#[10]⟩).data.toList = Pure.text (L ++ [Pure.wallRow (Pure.wid L)]) := by
  rw [Pure.text_snoc, ← hs, ← hq]
  simp
theorem walled_above (L : List (List UInt8)) (q s : ByteArray) (hs : s.data.toList = Pure.text L) (hq : q.data.toList = Pure.wallRow (Pure.wid L)) : (q ++ ⟨#[10]⟩ ++ s).data.toList = Pure.text (Pure.wallRow (Pure.wid L) :: L) := by
  have : Pure.text (Pure.wallRow (Pure.wid L) :: L) = Pure.wallRow (Pure.wid L) ++ [10] ++ Pure.text L := by simp [Pure.text]
  rw [this, ← hs, ← hq]
  simp

theorem parse_good {K : List (List UInt8)} (hK : Pure.Good K) (t : ByteArray) (ht : t.data.toList = Pure.text K) (w : World) :
    Calls Tryd.prog 7 #[.string t] w fun e w' => ∃ b g cap, e = .returned (.tuple #[.pointer (some ⟨b, 0, none⟩), .int .i64 0, .int .i64 0, .int .i64 0]) ∧ (MapAt w' b g cap K ∧ Below w.heap.size w w' ∧ w.heap.size ≤ b) := by
  have hv := Pure.verdict_text hK
  rw [← ht] at hv
  have hsz : t.size ≤ 1056 := by
    have h1 : t.size = (Pure.text K).length := by rw [← ht]; simp
    have h2 : ∀ M : List (List UInt8), (Pure.text M).length = M.flatten.length + M.length := by
      intro M
      induction M with
      | nil => rfl
      | cons a M ih => simp only [Pure.text, List.flatMap_cons, List.length_append, List.length_cons, List.length_nil, List.flatten_cons] at ih ⊢; omega
    rw [h1, h2]
    have := hK.small
    have := hK.len
    omega
  refine (parse_any t w (by omega)).mono ?_
  rintro e w' ⟨h1, h2⟩
  rw [hv] at h2
  obtain ⟨g, cap, h3, h4⟩ := h2
  exact ⟨_, g, cap, h3, h4, h1, Nat.le_refl _⟩

theorem mp_at {w w4 : World} {b g cap : Nat} {L : List (List UInt8)} (hw : Ways w) (hG : Pure.Good L) (hm : MapAt w4 b g cap L) (hb : Below w.heap.size w w4) (lo : w.heap.size ≤ b) (F : Nat) :
    EM b g cap L.length (Pure.wid L) L.flatten w4 ∧ Up F b w4 := ⟨(m1_start hw hG hm hb lo).em, up_ready (R := L.length) (C := Pure.wid L) (ms := L.flatten) hm.blk⟩

theorem many_start {w w2 w3 w4 : World} {bm gm cm ba ga ca bb gb cb : Nat} {L : List (List UInt8)} (hw : Ways w) (hG : Pure.Good L) (hr : L.length < 31)
    (hm : MapAt w2 bm gm cm L ∧ Below w.heap.size w w2 ∧ w.heap.size ≤ bm) (ha : MapAt w3 ba ga ca (L ++ [Pure.wallRow (Pure.wid L)]) ∧ Below w2.heap.size w2 w3 ∧ w2.heap.size ≤ ba)
    (hb : MapAt w4 bb gb cb (Pure.wallRow (Pure.wid L) :: L) ∧ Below w3.heap.size w3 w4 ∧ w3.heap.size ≤ bb) :
    Many w w4.heap.size [⟨bm, gm, cm, L.length, Pure.wid L, L.flatten⟩, ⟨ba, ga, ca, L.length + 1, Pure.wid L, L.flatten ++ Pure.wallRow (Pure.wid L)⟩, ⟨bb, gb, cb, L.length + 1, Pure.wid L, Pure.wallRow (Pure.wid L) ++ L.flatten⟩] w4 := by
  obtain ⟨m1, m2, m3⟩ := hm
  obtain ⟨a1, a2, a3⟩ := ha
  obtain ⟨b1, b2, b3⟩ := hb
  have hwl : 0 < w.heap.size := World.block_lt_of_cell? w ⟨0, 0, none⟩ (hw 0 _ rfl)
  have lm := blk_lt m1.blk
  have la := blk_lt a1.blk
  have lb := blk_lt b1.blk
  have gm1 := m1.own.lt gm rfl
  have ga1 := a1.own.lt ga rfl
  have gb1 := b1.own.lt gb rfl
  have s3 := a2.size
  have s4 := b2.size
  have hbel3 : Below w.heap.size w w3 := m2.trans (a2.mono m2.size)
  have hbel4 : Below w.heap.size w w4 := hbel3.trans (b2.mono hbel3.size)
  have s2 := m2.size
  have hm4 := (m1.below a2 (Nat.le_refl _)).below b2 (Nat.le_refl _)
  have ha4 := a1.below b2 (Nat.le_refl _)
  have em := mp_at hw hG hm4 hbel4 m3 w4.heap.size
  have ea := mp_at hw (Pure.good_below hG (by omega)) ha4 hbel4 (by omega) w4.heap.size
  have eb := mp_at hw (Pure.good_above hG (by omega)) b1 hbel4 (by omega) w4.heap.size
  rw [Pure.wid_snoc _ _ hG.ne] at ea
  have hwb : Pure.wid (Pure.wallRow (Pure.wid L) :: L) = Pure.wid L := by show (Pure.wallRow (Pure.wid L)).length = _; simp [Pure.wallRow]
  rw [hwb] at eb
  simp only [List.length_append, List.length_cons, List.length_nil, List.flatten_append, List.flatten_cons, List.flatten_nil, List.append_nil, Nat.zero_add] at ea eb
  refine ⟨?_, ?_, ?_, ?_, hwl, hbel4, Nat.le_refl _⟩
  · intro p hp
    simp only [List.mem_cons, List.not_mem_nil, or_false] at hp
    rcases hp with rfl | rfl | rfl
    · exact em
    · exact ea
    · exact eb
  · intro p hp
    simp only [List.mem_cons, List.not_mem_nil, or_false] at hp
    rcases hp with rfl | rfl | rfl <;> (dsimp only; omega)
  · intro p hp q hq
    simp only [List.mem_cons, List.not_mem_nil, or_false] at hp hq
    rcases hp with rfl | rfl | rfl <;> rcases hq with rfl | rfl | rfl <;> (dsimp only; omega)
  · intro p hp q hq h
    simp only [List.mem_cons, List.not_mem_nil, or_false] at hp hq
    rcases hp with rfl | rfl | rfl <;> rcases hq with rfl | rfl | rfl <;> first | rfl | (dsimp only at h; omega)

set_option maxHeartbeats 1000000 in
theorem walled_bad (s : ByteArray) (w : World) (hw : Ways w) (h : s.size ≤ 500) {l c : Nat} (hv : Pure.verdict s.data.toList = .bad l c) :
    Calls Tryd.prog 6 #[.string s] w fun e w' => e = .returned (.bool true) ∧ Below w.heap.size w w' := by
  have HA : Hid (Calls Tryd.prog 20 #[] w fun e w' => e = .returned (.bool true) ∧ Below w.heap.size w w') := alive_any w hw
  have HP : Hid (∀ w, Calls Tryd.prog 7 #[.string s] w fun e w' => e = .returned (.tuple #[.pointer none, .int .i64 (l : Int), .int .i64 (c : Int), .int .i64 10]) ∧ Below w.heap.size w w') := by
    intro w
    refine (parse_any s w (by omega)).mono ?_
    rintro e w' ⟨h1, h2⟩
    rw [hv] at h2
    exact ⟨h2, h1⟩
  clear hv hw
  go_enter Tryd.func6, Tryd.ntmps6
  go_wp2_with (first
    | (go_at_call 20; (with_reducible refine HA.out.mono ?_); rintro e w1 ⟨rfl, hb⟩)
    | (go_at_call 7; (with_reducible refine (HP.out _).mono ?_); rintro e w2 ⟨rfl, hb2⟩))
  go_ret
  exact ⟨rfl, hb.trans (hb2.mono hb.size)⟩

set_option maxHeartbeats 1000000 in
theorem walled_long (s : ByteArray) (w : World) (hw : Ways w) (h : 500 < s.size) (hs : s.size ≤ 9223372036854775807) :
    Calls Tryd.prog 6 #[.string s] w fun e w' => e = .returned (.bool true) ∧ Below w.heap.size w w' := by
  have HA : Hid (Calls Tryd.prog 20 #[] w fun e w' => e = .returned (.bool true) ∧ Below w.heap.size w w') := alive_any w hw
  have HP : Hid (∀ w, Calls Tryd.prog 7 #[.string s] w fun e w' => ∃ m l c x, e = .returned (.tuple #[m, .int .i64 l, .int .i64 c, .int .i64 x]) ∧ Below w.heap.size w w') := by
    intro w
    refine (parse_any s w hs).mono ?_
    rintro e w' ⟨h1, h2⟩
    cases hv : Pure.verdict s.data.toList with
    | bad l c => rw [hv] at h2; exact ⟨_, _, _, _, h2, h1⟩
    | good L => rw [hv] at h2; obtain ⟨g, cap, h3, _⟩ := h2; exact ⟨_, _, _, _, h3, h1⟩
  clear hw
  go_enter Tryd.func6, Tryd.ntmps6
  go_wp2_with (first
    | (go_at_call 20; (with_reducible refine HA.out.mono ?_); rintro e w1 ⟨rfl, hb⟩)
    | (go_at_call 7; (with_reducible refine (HP.out _).mono ?_); rintro e w2 ⟨m, l, c, x, rfl, hb2⟩))
  go_ret
  exact ⟨rfl, hb.trans (hb2.mono hb.size)⟩

set_option maxHeartbeats 1000000 in
theorem walled_tall (s : ByteArray) (w : World) (hw : Ways w) (h : s.size ≤ 500) {L : List (List UInt8)} (hv : Pure.verdict s.data.toList = .good L) (hr : 31 ≤ L.length) :
    Calls Tryd.prog 6 #[.string s] w fun e w' => e = .returned (.bool true) ∧ Below w.heap.size w w' := by
  have hgt := Pure.good_of hv
  have HA : Hid (Calls Tryd.prog 20 #[] w fun e w' => e = .returned (.bool true) ∧ Below w.heap.size w w') := alive_any w hw
  have HP : Hid (∀ w, Calls Tryd.prog 7 #[.string s] w fun e w' => ∃ b g cap, e = .returned (.tuple #[.pointer (some ⟨b, 0, none⟩), .int .i64 0, .int .i64 0, .int .i64 0]) ∧ (MapAt w' b g cap L ∧ Below w.heap.size w w' ∧ w.heap.size ≤ b)) := fun w => parse_good hgt.1 s hgt.2.symm w
  clear hv hw hgt
  have hri : (31 : Int) ≤ (L.length : Int) := by omega
  go_enter Tryd.func6, Tryd.ntmps6
  go_wp2_with (first
    | (go_at_call 20; (with_reducible refine HA.out.mono ?_); rintro e w1 ⟨rfl, hb⟩)
    | (go_at_call 7; (with_reducible refine (HP.out _).mono ?_); rintro e w2 ⟨bm, gm, cm, rfl, hm⟩; have hb2 := hm.2.1; have HM : Hid (MapAt w2 bm gm cm L) := hm.1; clear hm)
    | (go_at_call 25; refine (rows_any bm (L.length : Int) w2 (by rw [blk_cell HM.out.blk]; rfl)).mono ?_; rintro e w' ⟨rfl, rfl⟩))
  go_ret
  exact ⟨rfl, hb.trans (hb2.mono hb.size)⟩
end Go.Proofs.YtlkojoinbogkmaaDoor
