/- Joined texts: Rn0, Rn1. -/
import Derived.Test.YtkfijjjnidiejaaDoorFd
import Derived.Test.YtkfijjjnidiejaaDoorQ7
import Derived.Test.YtkfijjjnidiejaaDoorAlive

/-
  The chapter's map, and what routes there are on it.
-/
namespace Go.Proofs.YtkfijjjnidiejaaDoor
set_option maxRecDepth 100000
set_option linter.unusedSimpArgs false
open Go Go.RowKit Rq

def ringL : List (List UInt8) := [[46, 46, 46], [46, 35, 46], [46, 46, 46]]
def ringM : List UInt8 := [46, 46, 46, 46, 35, 46, 46, 46, 46]
theorem ring_verdict (s : ByteArray) (hs : s.data.toList = [46, 46, 46, 10, 46, 35, 46, 10, 46, 46, 46, 10]) : Pure.verdict s.data.toList = .good ringL := by rw [hs]; rfl
theorem ring_good : Pure.Good ringL := (Pure.good_of (s := [46, 46, 46, 10, 46, 35, 46, 10, 46, 46, 46, 10]) rfl).1
theorem ring_f1 : findZ 3 3 ringM 0 8 [] 99 = ([0, 1, 2, 5, 8], 0) := by decide +kernel
theorem ring_f2 : findZ 3 3 ringM 0 8 [1] 99 = ([0, 3, 6, 7, 8], 0) := by decide +kernel
theorem ring_f3 : findZ 3 3 ringM 0 8 [1, 3] 99 = ([], 40) := by decide +kernel
theorem ring_f4 : findZ 3 3 ringM 0 8 [] 7 = ([], 41) := by decide +kernel
theorem ring_f5 : findZ 3 3 ringM 0 4 [] 99 = ([], 2) := by decide +kernel
theorem ring_f6 : findZ 3 3 ringM 0 0 [0] 99 = ([0], 0) := by decide +kernel
theorem ring_d1 : distZ 3 3 ringM 0 8 [] = (4, 0) := by decide +kernel
theorem ring_d2 : distZ 3 3 ringM 0 8 [8] = (0, 40) := by decide +kernel
theorem ring_l1 : looksZ 3 3 ringM 0 8 [] = (8, 0) := by decide +kernel
theorem ring_c1 : checkZ 3 3 ringM [0, 1, 4] [] = 2 := by decide +kernel
theorem ring_c2 : checkZ 3 3 ringM [0, 1, 2] [2] = 40 := by decide +kernel
theorem ring_c3 : checkZ 3 3 ringM [] [] = 2 := by decide +kernel
end Go.Proofs.YtkfijjjnidiejaaDoor

/-
  One map, from call to call: routes; the laws' own example.
-/
namespace Go.Proofs.YtkfijjjnidiejaaDoor
set_option maxRecDepth 100000
set_option linter.unusedSimpArgs false
open Go Go.RowKit Rq

theorem EmX.grown {bm gm cm R C : Nat} {ms : List UInt8} {w w' : World} (hx : EmX bm gm cm R C ms w w') : w.grownBy w' (some bm) := ⟨hx.kp.os, hx.kp.tape, hx.kp.output, hx.kp.size, fun i hi hr => hx.kp.block i hi (fun e => hr (by rw [e]))⟩

section
variable {w0 w w' : World} {bm gm cm R C : Nat} {ms : List UInt8}
theorem M1.emx (h : M1 w0 bm gm cm R C ms w) (hx : EmX bm gm cm R C ms w w') : M1 w0 bm gm cm R C ms w' := h.turned hx.em hx.grown
theorem M1.alloc (h : M1 w0 bm gm cm R C ms w) (o : Obj) : M1 w0 bm gm cm R C ms (w.alloc o) := h.below ((Below.refl _ _).alloc (Nat.le_refl _) _)
theorem M1.lt (h : M1 w0 bm gm cm R C ms w) : bm < w.heap.size := World.block_lt_of_cell? w ⟨bm, 0, none⟩ h.em.c0

theorem LstN.lst {v : Value} {l : List Nat} (h : LstN bm w v l) : Lst w v l := by
  obtain ⟨a, c, e, hc⟩ := h
  refine ⟨a, c, e, fun j hj => ?_⟩
  obtain ⟨g, e1, _, h2⟩ := hc j hj
  exact ⟨g, e1, h2⟩
theorem LstN.below {v : Value} {l : List Nat} (h : LstN bm w v l) (hb : Below w.heap.size w w') : LstN bm w' v l := by
  obtain ⟨a, c, e, hc⟩ := h
  refine ⟨a, c, e, fun j hj => ?_⟩
  obtain ⟨g, e1, h1, h2⟩ := hc j hj
  exact ⟨g, e1, h1, (hb.cell (World.block_lt_of_cell? w ⟨g, j, none⟩ h2)).trans h2⟩
theorem lstn_of {B : Nat} {v : Value} {l : List Nat} (h : w.ownsRow B 3 1 v l.length (l.map natV)) (hb : bm < B) : ∃ a c, v = .slice a l.length c ∧ LstN bm w v l := by
  rcases h.2 with ⟨rfl, h0⟩ | ⟨g, cap, cur, rfl, h1, _⟩
  · exact ⟨none, 0, by rw [h0], none, 0, by rw [h0], fun j hj => by omega⟩
  · exact ⟨_, _, rfl, _, _, rfl, fun j hj => ⟨g, rfl, by omega, int_cells h j hj⟩⟩
theorem LstN.ints {v : Value} {l : List Nat} (h : LstN bm w v l) : ∃ A c, v = .slice A l.length c ∧ IntsAt w A (intsQ l) ∧ ∀ a, A = some a → 0 < l.length → a.block ≠ bm := by
  obtain ⟨a, c, e, hc⟩ := h
  refine ⟨a, c, e, fun j hj => ?_, fun b e1 h0 => ?_⟩
  · rw [intsQ_length] at hj
    obtain ⟨g, e1, h1, h2⟩ := hc j hj
    refine ⟨_, e1, World.block_lt_of_cell? w ⟨g, j, none⟩ h2, ?_⟩
    have : Addr.add ⟨g, 0, none⟩ j = ⟨g, j, none⟩ := by simp [Addr.add]; omega
    rw [this, h2]
    simp [intsQ, List.getD, hj]
  · obtain ⟨g, e2, h1, _⟩ := hc 0 h0
    rw [e1] at e2
    cases e2
    exact h1
theorem ints_nil (w : World) (A : Option Addr) : IntsAt w A [] := fun j hj => by simp at hj
theorem ints_new {t : TypeId} (xs : List Int) {cs : Array Value} (hc : cs = (xs.map (Value.int .i64)).toArray) : IntsAt (w.alloc (.cells cs t)) (some ⟨w.heap.size, 0, none⟩) xs := by
  intro j hj
  refine ⟨_, rfl, by simp, ?_⟩
  have : Addr.add ⟨w.heap.size, 0, none⟩ j = ⟨w.heap.size, j, none⟩ := by simp [Addr.add]; omega
  rw [this, blk_cell (heap_alloc_new w _), hc]
  simp [List.getD, hj]

theorem m1_find (h : M1 w0 bm gm cm R C ms w) {B : Option Addr} {ban : List Int} (hB : IntsAt w B ban) {m cb : Nat} (hm : ban.length = m) (hbm : ban.length ≤ maxLen) {fr to_ bud : Int} {l : List Nat} {z : Int} (hz : findZ R C ms fr to_ ban bud = (l, z)) {n : Nat} (hn : l.length = n) :
    Calls Tryd.prog 11 #[.pointer (some ⟨bm, 0, none⟩), .int .i64 fr, .int .i64 to_, .slice B m cb, .int .i64 bud] w fun e w' => ∃ a c, e = .returned (.tuple #[.slice a n c, .int .i64 z]) ∧ (M1 w0 bm gm cm R C ms w' ∧ LstN bm w' (.slice a n c) l ∧ w.grownBy w' (some bm)) := by
  subst hm hn
  refine (finds_any h.em hB hbm bud).mono ?_
  rw [hz]
  rintro e w' ⟨v, rfl, hx, ho⟩
  obtain ⟨a, c, rfl, hl⟩ := lstn_of (l := l) ho h.lt
  exact ⟨a, c, rfl, h.emx hx, hl, hx.grown⟩
theorem m1_dist (h : M1 w0 bm gm cm R C ms w) {B : Option Addr} {ban : List Int} (hB : IntsAt w B ban) {m cb : Nat} (hm : ban.length = m) (hbm : ban.length ≤ maxLen) {fr to_ : Int} {x z : Int} (hz : distZ R C ms fr to_ ban = (x, z)) :
    Calls Tryd.prog 8 #[.pointer (some ⟨bm, 0, none⟩), .int .i64 fr, .int .i64 to_, .slice B m cb] w fun e w' => e = .returned (.tuple #[.int .i64 x, .int .i64 z]) ∧ (M1 w0 bm gm cm R C ms w' ∧ w.grownBy w' (some bm)) := by
  subst hm
  refine (dists_any h.em hB hbm).mono ?_
  rw [hz]
  rintro e w' ⟨rfl, hx⟩
  exact ⟨rfl, h.emx hx, hx.grown⟩
end

set_option maxHeartbeats 1000000 in
theorem ring_any (w : World) (hw : Ways w) :
    Calls Tryd.prog 26 #[] w fun e w' => ∃ bm gm cm, e = .returned (.pointer (some ⟨bm, 0, none⟩)) ∧ M1 w bm gm cm 3 3 ringM w' := by
  have HP : Hid (∀ (s : ByteArray), s.data.toList = [46, 46, 46, 10, 46, 35, 46, 10, 46, 46, 46, 10] → Calls Tryd.prog 7 #[.string s] w fun e w' => ∃ b g cap, e = .returned (.tuple #[.pointer (some ⟨b, 0, none⟩), .int .i64 0, .int .i64 0, .int .i64 0]) ∧ M1 w b g cap 3 3 ringM w') := by
    intro s hs
    have hsz : s.size = 12 := by
      have : s.data.toList.length = 12 := by rw [hs]; rfl
      simpa using this
    refine (parse_any s w (by omega)).mono ?_
    rintro e w' ⟨h1, h2⟩
    rw [ring_verdict s hs] at h2
    obtain ⟨g, cap, h3, h4⟩ := h2
    exact ⟨_, g, cap, h3, m1_start hw ring_good h4 h1 (Nat.le_refl _)⟩
  clear hw
  go_enter Tryd.func26, Tryd.ntmps26
  go_wp2_with (go_at_call 7; refine (HP.out _ (by rfl)).mono ?_; rintro e w1 ⟨bm, gm, cm, rfl, hm⟩; have H1 := Lib.hid hm; clear hm)
  go_ret
  exact ⟨bm, gm, cm, rfl, H1.out⟩

theorem sameA {w : World} {u : Value} (h : Lst w u [0, 1, 2, 5, 8]) : Calls Tryd.prog 13 #[u, .slice (some ⟨w.heap.size, 0, none⟩) 5 5] (w.alloc (.cells #[.int .i64 0, .int .i64 1, .int .i64 2, .int .i64 5, .int .i64 8] 3)) fun e w' => e = .returned (.bool true) ∧ Below w.heap.size w w' :=
  same_new h (by decide) rfl rfl
theorem sameB {w : World} {u : Value} (h : Lst w u [0, 3, 6, 7, 8]) : Calls Tryd.prog 13 #[u, .slice (some ⟨w.heap.size, 0, none⟩) 5 5] (w.alloc (.cells #[.int .i64 0, .int .i64 3, .int .i64 6, .int .i64 7, .int .i64 8] 3)) fun e w' => e = .returned (.bool true) ∧ Below w.heap.size w w' :=
  same_new h (by decide) rfl rfl
theorem sameC {w : World} {u : Value} (h : Lst w u [0]) : Calls Tryd.prog 13 #[u, .slice (some ⟨w.heap.size, 0, none⟩) 1 1] (w.alloc (.cells #[.int .i64 0] 3)) fun e w' => e = .returned (.bool true) ∧ Below w.heap.size w w' :=
  same_new h (by decide) rfl rfl
theorem sameD {w : World} {u : Value} (h : Lst w u [0, 1, 3]) : Calls Tryd.prog 13 #[u, .slice (some ⟨w.heap.size, 0, none⟩) 3 3] (w.alloc (.cells #[.int .i64 0, .int .i64 1, .int .i64 3] 3)) fun e w' => e = .returned (.bool true) ∧ Below w.heap.size w w' :=
  same_new h (by decide) rfl rfl

theorem ring_q1 {w0 w : World} {bm gm cm : Nat} (h : M1 w0 bm gm cm 3 3 ringM w) : Calls Tryd.prog 11 #[.pointer (some ⟨bm, 0, none⟩), .int .i64 0, .int .i64 8, .slice none 0 0, .int .i64 99] w fun e w' => ∃ a c, e = .returned (.tuple #[.slice a 5 c, .int .i64 0]) ∧ (M1 w0 bm gm cm 3 3 ringM w' ∧ LstN bm w' (.slice a 5 c) [0, 1, 2, 5, 8]) := by
  refine (m1_find h (ints_nil _ _) (m := 0) rfl (by decide) ring_f1 (n := 5) rfl).mono ?_
  rintro e w' ⟨a, c, h1, h2, h3, _⟩
  exact ⟨a, c, h1, h2, h3⟩
theorem ring_q2 {w0 w : World} {bm gm cm : Nat} (h : M1 w0 bm gm cm 3 3 ringM w) : Calls Tryd.prog 11 #[.pointer (some ⟨bm, 0, none⟩), .int .i64 0, .int .i64 8, .slice (some ⟨w.heap.size, 0, none⟩) 1 1, .int .i64 99] (w.alloc (.cells #[.int .i64 1] 3)) fun e w' => ∃ a c, e = .returned (.tuple #[.slice a 5 c, .int .i64 0]) ∧ (M1 w0 bm gm cm 3 3 ringM w' ∧ LstN bm w' (.slice a 5 c) [0, 3, 6, 7, 8]) := by
  refine (m1_find (h.alloc _) (ints_new [1] rfl) (m := 1) rfl (by decide) ring_f2 (n := 5) rfl).mono ?_
  rintro e w' ⟨a, c, h1, h2, h3, _⟩
  exact ⟨a, c, h1, h2, h3⟩
theorem ring_q3 {w0 w : World} {bm gm cm : Nat} (h : M1 w0 bm gm cm 3 3 ringM w) : Calls Tryd.prog 11 #[.pointer (some ⟨bm, 0, none⟩), .int .i64 0, .int .i64 8, .slice (some ⟨w.heap.size, 0, none⟩) 2 2, .int .i64 99] (w.alloc (.cells #[.int .i64 1, .int .i64 3] 3)) fun e w' => ∃ a c, e = .returned (.tuple #[.slice a 0 c, .int .i64 40]) ∧ (M1 w0 bm gm cm 3 3 ringM w' ∧ LstN bm w' (.slice a 0 c) []) := by
  refine (m1_find (h.alloc _) (ints_new [1, 3] rfl) (m := 2) rfl (by decide) ring_f3 (n := 0) rfl).mono ?_
  rintro e w' ⟨a, c, h1, h2, h3, _⟩
  exact ⟨a, c, h1, h2, h3⟩
theorem ring_q4 {w0 w : World} {bm gm cm : Nat} (h : M1 w0 bm gm cm 3 3 ringM w) : Calls Tryd.prog 11 #[.pointer (some ⟨bm, 0, none⟩), .int .i64 0, .int .i64 8, .slice none 0 0, .int .i64 7] w fun e w' => ∃ a c, e = .returned (.tuple #[.slice a 0 c, .int .i64 41]) ∧ (M1 w0 bm gm cm 3 3 ringM w' ∧ LstN bm w' (.slice a 0 c) []) := by
  refine (m1_find h (ints_nil _ _) (m := 0) rfl (by decide) ring_f4 (n := 0) rfl).mono ?_
  rintro e w' ⟨a, c, h1, h2, h3, _⟩
  exact ⟨a, c, h1, h2, h3⟩
theorem ring_q5 {w0 w : World} {bm gm cm : Nat} (h : M1 w0 bm gm cm 3 3 ringM w) : Calls Tryd.prog 11 #[.pointer (some ⟨bm, 0, none⟩), .int .i64 0, .int .i64 4, .slice none 0 0, .int .i64 99] w fun e w' => ∃ a c, e = .returned (.tuple #[.slice a 0 c, .int .i64 2]) ∧ (M1 w0 bm gm cm 3 3 ringM w' ∧ LstN bm w' (.slice a 0 c) []) := by
  refine (m1_find h (ints_nil _ _) (m := 0) rfl (by decide) ring_f5 (n := 0) rfl).mono ?_
  rintro e w' ⟨a, c, h1, h2, h3, _⟩
  exact ⟨a, c, h1, h2, h3⟩
theorem ring_q6 {w0 w : World} {bm gm cm : Nat} (h : M1 w0 bm gm cm 3 3 ringM w) : Calls Tryd.prog 11 #[.pointer (some ⟨bm, 0, none⟩), .int .i64 0, .int .i64 0, .slice (some ⟨w.heap.size, 0, none⟩) 1 1, .int .i64 99] (w.alloc (.cells #[.int .i64 0] 3)) fun e w' => ∃ a c, e = .returned (.tuple #[.slice a 1 c, .int .i64 0]) ∧ (M1 w0 bm gm cm 3 3 ringM w' ∧ LstN bm w' (.slice a 1 c) [0]) := by
  refine (m1_find (h.alloc _) (ints_new [0] rfl) (m := 1) rfl (by decide) ring_f6 (n := 1) rfl).mono ?_
  rintro e w' ⟨a, c, h1, h2, h3, _⟩
  exact ⟨a, c, h1, h2, h3⟩
set_option maxHeartbeats 2000000 in
theorem ralive_any (w : World) (hw : Ways w) :
    Calls Tryd.prog 6 #[] w fun e w' => e = .returned (.bool true) ∧ Below w.heap.size w w' := by
  have HW := Lib.hid hw
  clear hw
  go_enter Tryd.func6, Tryd.ntmps6
  go_wp2_with (first
    | (go_at_call 26; (with_reducible refine (ring_any w HW.out).mono ?_); rintro e w1 ⟨b1, g1, c1, rfl, hm⟩; have H1 := Lib.hid hm; clear hm)
    | (go_at_call 11; (with_reducible refine (ring_q1 H1.out).mono ?_); rintro e w2 ⟨a1, k1, rfl, hm⟩; have H2 := Lib.hid hm; clear hm)
    | (go_at_call 26; (with_reducible refine (ring_any w2 H2.out.1.em.ways).mono ?_); rintro e w3 ⟨b3, g3, c3, rfl, hm⟩; have H3 := Lib.hid hm; clear hm)
    | (go_at_call 11; (with_reducible refine (ring_q2 H3.out).mono ?_); rintro e w4 ⟨a4, k4, rfl, hm⟩; have H4 := Lib.hid hm; have HA4 : Hid (Lst w4 (.slice a1 5 k1) [0, 1, 2, 5, 8]) := H2.out.2.lst.below H4.out.1.bl; clear hm)
    | (go_at_call 13; (with_reducible refine (sameA HA4.out).mono ?_); rintro e w5 ⟨rfl, hb⟩; have HB5 : Hid (Lst w5 (.slice a4 5 k4) [0, 3, 6, 7, 8] ∧ Below w.heap.size w w5) := ⟨H4.out.2.lst.below hb, (H2.out.1.bl.trans (H4.out.1.bl.mono H2.out.1.bl.size)).trans (hb.mono (Nat.le_trans H2.out.1.bl.size H4.out.1.bl.size))⟩; clear hb)
    | (go_at_call 13; (with_reducible refine (sameB HB5.out.1).mono ?_); rintro e w6 ⟨rfl, hb⟩; have HB6 : Hid (Below w.heap.size w w6) := HB5.out.2.trans (hb.mono HB5.out.2.size); clear hb))
  go_ret
  exact ⟨rfl, HB6.out⟩
end Go.Proofs.YtkfijjjnidiejaaDoor
