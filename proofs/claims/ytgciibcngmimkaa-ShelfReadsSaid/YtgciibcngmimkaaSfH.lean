/-
  The chapter's example.
-/
import Derived.Test.YtgciibcngmimkaaSfG
import Derived.Lib.SmallJoins
namespace Go.Proofs.Ytgciibcngmimkaa
set_option maxRecDepth 100000
set_option linter.unusedSimpArgs false
open Go Go.RowKit Sf

def ex3 : List Rec := [⟨1, 5, [97, 98]⟩, ⟨1, 2, [99]⟩, ⟨1, 5, []⟩]
/-- The chapter's three writes, in a list. -/
def ThQ (w : World) (e : Ending) (w' : World) : Prop := ∃ (A : Option Addr) (l : List Rc) (cap : Nat), e = .returned (.slice A l.length cap) ∧ RsAt w' A l ∧ l.map (·.r) = ex3 ∧ l.length = 3 ∧ l.length ≤ cap ∧ Below w.heap.size w w'
set_option maxHeartbeats 1000000 in
theorem three_any (w : World) : Calls Try.prog 34 #[] w (ThQ w) := by
  have k1 := Go.Joins.run_convert_bytes_const_at (P := Try.prog) w 30 5 #[.int .u8 97, .int .u8 98] 2 2 w.heap.size rfl Try.underlying30 Try.underlying5
  have k2 := Go.Joins.run_convert_bytes_const_at (P := Try.prog) (w.alloc (.cells #[.int .u8 97, .int .u8 98] 5 (2, 3))) 30 5 #[.int .u8 99] 1 1 (w.heap.size + 1) (by simp) Try.underlying30 Try.underlying5
  simp only [List.size_toArray, List.length_cons, List.length_nil, Nat.reduceAdd] at k1 k2
  have HF : Hid (∀ w', w' = ((w.alloc (.cells #[.int .u8 97, .int .u8 98] 5 (2, 3))).alloc (.cells #[.int .u8 99] 5 (1, 2))).alloc (.cells #[.int .i64 1, .int .i64 5, .slice (some ⟨w.heap.size, 0, none⟩) 2 2, .int .i64 1, .int .i64 2, .slice (some ⟨w.heap.size + 1, 0, none⟩) 1 1, .int .i64 1, .int .i64 5, .slice none 0 0] 32) →
      ThQ w (.returned (.slice (some ⟨w.heap.size + 1 + 1, 0, none⟩) 3 3)) w') := Lib.hid (fun w' hw' => by
    obtain ⟨b1, b2, b3⟩ := heap3 w (.cells #[.int .u8 97, .int .u8 98] 5 (2, 3)) (.cells #[.int .u8 99] 5 (1, 2)) (.cells #[.int .i64 1, .int .i64 5, .slice (some ⟨w.heap.size, 0, none⟩) 2 2, .int .i64 1, .int .i64 2, .slice (some ⟨w.heap.size + 1, 0, none⟩) 1 1, .int .i64 1, .int .i64 5, .slice none 0 0] 32)
    have hb : Below w.heap.size w w' := by rw [hw']; exact (((Below.refl _ w).alloc (Nat.le_refl _) _).alloc (by simp) _).alloc (by simp; omega) _
    rw [← hw'] at b1 b2 b3
    clear hw'
    have d1 : BytesAt w' (some ⟨w.heap.size, 0, none⟩) [97, 98] := by
      intro j hj
      refine ⟨_, rfl, ?_⟩
      match j, hj with
      | 0, _ => exact (by rw [show (⟨w.heap.size, 0, none⟩ : Addr).add 0 = ⟨w.heap.size, 0, none⟩ from rfl, blk_cell b1]; rfl)
      | 1, _ => exact (by rw [show (⟨w.heap.size, 0, none⟩ : Addr).add 1 = ⟨w.heap.size, 1, none⟩ by simp [Addr.add], blk_cell b1]; rfl)
    have d2 : BytesAt w' (some ⟨w.heap.size + 1, 0, none⟩) [99] := by
      intro j hj
      refine ⟨_, rfl, ?_⟩
      match j, hj with
      | 0, _ => exact (by rw [show (⟨w.heap.size + 1, 0, none⟩ : Addr).add 0 = ⟨w.heap.size + 1, 0, none⟩ from rfl, blk_cell b2]; rfl)
    refine ⟨_, [⟨⟨1, 5, [97, 98]⟩, some ⟨w.heap.size, 0, none⟩, 2⟩, ⟨⟨1, 2, [99]⟩, some ⟨w.heap.size + 1, 0, none⟩, 1⟩, ⟨⟨1, 5, []⟩, none, 0⟩], 3, rfl, ?_, rfl, rfl, Nat.le_refl _, hb⟩
    intro j hj
    refine ⟨_, rfl, ?_⟩
    match j, hj with
    | 0, _ => exact ⟨⟨by rw [show (⟨w.heap.size + 1 + 1, 0, none⟩ : Addr).add (0 * 3) = ⟨w.heap.size + 1 + 1, 0, none⟩ from rfl, blk_cell b3]; rfl, by rw [show (⟨w.heap.size + 1 + 1, 0, none⟩ : Addr).add (0 * 3) = ⟨w.heap.size + 1 + 1, 0, none⟩ from rfl, blk_cell b3]; rfl, by rw [show (⟨w.heap.size + 1 + 1, 0, none⟩ : Addr).add (0 * 3) = ⟨w.heap.size + 1 + 1, 0, none⟩ from rfl, blk_cell b3]; rfl⟩, ⟨d1, fun e => (by cases e), fun c hc => (by simp [List.getD] at hc; omega)⟩⟩
    | 1, _ => exact ⟨⟨by rw [show (⟨w.heap.size + 1 + 1, 0, none⟩ : Addr).add (1 * 3) = ⟨w.heap.size + 1 + 1, 3, none⟩ by simp [Addr.add], blk_cell b3]; rfl, by rw [show (⟨w.heap.size + 1 + 1, 0, none⟩ : Addr).add (1 * 3) = ⟨w.heap.size + 1 + 1, 3, none⟩ by simp [Addr.add], blk_cell b3]; rfl, by rw [show (⟨w.heap.size + 1 + 1, 0, none⟩ : Addr).add (1 * 3) = ⟨w.heap.size + 1 + 1, 3, none⟩ by simp [Addr.add], blk_cell b3]; rfl⟩, ⟨d2, fun e => (by cases e), fun c hc => (by simp [List.getD] at hc; omega)⟩⟩
    | 2, _ => exact ⟨⟨by rw [show (⟨w.heap.size + 1 + 1, 0, none⟩ : Addr).add (2 * 3) = ⟨w.heap.size + 1 + 1, 6, none⟩ by simp [Addr.add], blk_cell b3]; rfl, by rw [show (⟨w.heap.size + 1 + 1, 0, none⟩ : Addr).add (2 * 3) = ⟨w.heap.size + 1 + 1, 6, none⟩ by simp [Addr.add], blk_cell b3]; rfl, by rw [show (⟨w.heap.size + 1 + 1, 0, none⟩ : Addr).add (2 * 3) = ⟨w.heap.size + 1 + 1, 6, none⟩ by simp [Addr.add], blk_cell b3]; rfl⟩, ⟨fun k hk => (by simp at hk), fun _ => ⟨rfl, rfl⟩, fun c hc => (by simp [List.getD] at hc)⟩⟩)
  generalize ThQ w = P at *
  go_enter Try.func34, Try.ntmps34
  go_wp2
  exact HF.out _ rfl

/-- A shelf without records, made. -/
theorem sh_new (w : World) : ShAt (w.alloc (.cells #[.map none] 27)) w.heap.size none 0 [] := ⟨World.alloc_heap_new w _, fun _ => rfl, fun m e => (by cases e), Ok.nil⟩
theorem bh3 : bhE [] ex3 = 0 ∧ bhM [] ex3 = [(65538, [99])] ∧ bhE [] (ex3.take 2) = 0 ∧ bhM [] (ex3.take 2) = [(65538, [99]), (65541, [97, 98])] := by decide
/-- What Behind gives of the chapter's three. -/
theorem behind3 {w : World} {b : Nat} {A : Option Addr} {l : List Rc} {cap : Nat} (h : ShAt w b none 0 []) (hl : RsAt w A l) (hm : l.map (·.r) = ex3) (h3 : l.length = 3) (hcap : l.length ≤ cap) (k : Nat) (hk : k = 2 ∨ k = 3) :
    Calls Try.prog 19 #[.pointer (some ⟨b, 0, none⟩), .slice A l.length cap, .int .i64 (k : Int)] w fun e w' => ∃ b' mo N, e = .returned (.tuple #[.pointer (some ⟨b', 0, none⟩), .int .i64 0]) ∧ ShAt w' b' mo N (if k = 3 then [(65538, [99])] else [(65538, [99]), (65541, [97, 98])]) ∧ Below w.heap.size w w' := by
  refine (behind_any h hl cap hcap (by omega) (k : Int)).mono ?_
  rintro e w' ⟨hb, hq⟩
  obtain ⟨g1, g2, g3, g4⟩ := bh3
  rcases hk with rfl | rfl
  · rw [hm, h3, show min (((2 : Nat) : Int).toNat) 3 = 2 by decide, g3, g4] at hq
    rcases hq with ⟨_, b', mo, N, h1, h2⟩ | ⟨h1, _⟩
    · exact ⟨b', mo, N, h1, h2, hb⟩
    · exact absurd rfl h1
  · rw [hm, h3, show min (((3 : Nat) : Int).toNat) 3 = 3 by decide, show ex3.take 3 = ex3 from rfl, g1, g2] at hq
    rcases hq with ⟨_, b', mo, N, h1, h2⟩ | ⟨h1, _⟩
    · exact ⟨b', mo, N, h1, h2, hb⟩
    · exact absurd rfl h1
theorem behind33 {w : World} {b : Nat} {A : Option Addr} {l : List Rc} {cap : Nat} (h : ShAt w b none 0 []) (hl : RsAt w A l) (hm : l.map (·.r) = ex3) (h3 : l.length = 3) (hcap : l.length ≤ cap) :
    Calls Try.prog 19 #[.pointer (some ⟨b, 0, none⟩), .slice A l.length cap, .int .i64 3] w fun e w' => ∃ b' mo N, e = .returned (.tuple #[.pointer (some ⟨b', 0, none⟩), .int .i64 0]) ∧ ShAt w' b' mo N [(65538, [99])] ∧ Below w.heap.size w w' := behind3 h hl hm h3 hcap 3 (.inr rfl)
theorem behind32 {w : World} {b : Nat} {A : Option Addr} {l : List Rc} {cap : Nat} (h : ShAt w b none 0 []) (hl : RsAt w A l) (hm : l.map (·.r) = ex3) (h3 : l.length = 3) (hcap : l.length ≤ cap) :
    Calls Try.prog 19 #[.pointer (some ⟨b, 0, none⟩), .slice A l.length cap, .int .i64 2] w fun e w' => ∃ b' mo N, e = .returned (.tuple #[.pointer (some ⟨b', 0, none⟩), .int .i64 0]) ∧ ShAt w' b' mo N [(65538, [99]), (65541, [97, 98])] ∧ Below w.heap.size w w' := behind3 h hl hm h3 hcap 2 (.inl rfl)
theorem str1 : strN (byM [(65538, [99])]) = ⟨#[1, 0, 2, 0, 1, 99]⟩ := by decide
theorem str2 : strN [97, 98] = ⟨#[97, 98]⟩ := by decide

set_option maxHeartbeats 2000000 in
theorem alive_any (w : World) : Calls Try.prog 26 #[] w fun e w' => e = .returned (.bool true) ∧ Below w.heap.size w w' := by
  go_enter Try.func26, Try.ntmps26
  go_wp2_with fail
  have HB0 : Hid (Below w.heap.size w (w.alloc (.cells #[.map none] 27))) := Lib.hid ((Below.refl _ w).alloc (Nat.le_refl _) _)
  have HS0 := Lib.hid (sh_new w)
  generalize hW0 : w.alloc (.cells #[.map none] 27) = W0 at *
  clear hW0
  (with_reducible refine (three_any _).mono ?_)
  rintro e W1 ⟨A, l, cap, rfl, hl, hm, h3, hcap, hb1⟩
  have HB1 := Lib.hid (HB0.out.trans (hb1.mono HB0.out.size))
  have HBh := Lib.hid (behind33 (HS0.out.below hb1) hl hm h3 hcap)
  clear hl hm h3 hcap hb1
  generalize l.length = L at *
  go_wp2_with fail
  (with_reducible refine HBh.out.mono ?_)
  rintro e W2 ⟨b3, mo3, N3, rfl, hs3, hb2⟩
  have HS3 := Lib.hid hs3
  have HB2 := Lib.hid (HB1.out.trans (hb2.mono HB1.out.size))
  clear hs3 hb2
  go_wp2_with fail
  have HB2' : Hid (Below w.heap.size w (W2.alloc (.cells #[.map none] 27))) := Lib.hid (HB2.out.alloc HB2.out.size _)
  have HS0' := Lib.hid (sh_new W2)
  have HS3' := Lib.hid (HS3.out.below ((Below.refl _ W2).alloc (Nat.le_refl _) (.cells #[.map none] 27)))
  generalize hb0 : W2.heap.size = s2 at *
  generalize hW2 : W2.alloc (.cells #[.map none] 27) = W2' at *
  clear hW2 hb0 HB2 HS3 HBh
  (with_reducible refine (three_any _).mono ?_)
  rintro e W3 ⟨A, l, cap, rfl, hl, hm, h3, hcap, hb3⟩
  have HB3 := Lib.hid (HB2'.out.trans (hb3.mono HB2'.out.size))
  have HS33 := Lib.hid (HS3'.out.below hb3)
  have HBh := Lib.hid (behind32 (HS0'.out.below hb3) hl hm h3 hcap)
  clear hl hm h3 hcap hb3 HS3'
  generalize l.length = L at *
  go_wp2_with fail
  (with_reducible refine HBh.out.mono ?_)
  rintro e W4 ⟨b2, mo2, N2, rfl, hs2, hb4⟩
  have HS2 := Lib.hid hs2
  have HB4 := Lib.hid (HB3.out.trans (hb4.mono HB3.out.size))
  have HS34 := Lib.hid (HS33.out.below hb4)
  have HG := Lib.hid (get_any hs2 1 5)
  clear hs2 hb4 HS33
  go_wp2_with fail
  (with_reducible refine HG.out.mono ?_)
  rintro e W5 ⟨v, rfl, hv, hb5⟩
  have g1 : gB [(65538, [99]), (65541, [97, 98])] 1 5 = true := by decide
  have g2 : gD [(65538, [99]), (65541, [97, 98])] 1 5 = [97, 98] := by decide
  rw [g2] at hv
  rw [g1]
  have HV := Lib.hid hv
  have HB5 := Lib.hid (HB4.out.trans (hb5.mono HB4.out.size))
  have HS35 := Lib.hid (HS34.out.below hb5)
  have HS25 := Lib.hid (HS2.out.below hb5)
  have HBy := Lib.hid (bytes_any (ShP.of (HS34.out.below hb5)))
  clear hv hb5 HS34 HS2 g1 g2 HG
  go_wp2_with fail
  (with_reducible refine HBy.out.mono ?_)
  rintro e W6 ⟨u, rfl, hu, hb6⟩
  have hcu : (convert 30 9 u).run Try.prog W6 = .ok (.string ⟨#[1, 0, 2, 0, 1, 99]⟩) W6 := by
    have := conv8 (R8.of hu) (byM_lt HS35.out.ok.each)
    rw [str1] at this
    exact this
  have hcv : (convert 30 9 v).run Try.prog W6 = .ok (.string ⟨#[97, 98]⟩) W6 := by
    have := conv8 (R8.below HV.out hb6) (by intro c hc; simp at hc; omega)
    rw [str2] at this
    exact this
  have HLn := Lib.hid (len_any (HS25.out.below hb6))
  have HB6 := Lib.hid (HB5.out.trans (hb6.mono HB5.out.size))
  clear hu hb6 HBy
  go_wp2_with fail
  (with_reducible refine HLn.out.mono ?_)
  rintro e W7 ⟨rfl, rfl⟩
  go_wp2
  go_ret
  exact ⟨rfl, HB6.out⟩
end Go.Proofs.Ytgciibcngmimkaa
