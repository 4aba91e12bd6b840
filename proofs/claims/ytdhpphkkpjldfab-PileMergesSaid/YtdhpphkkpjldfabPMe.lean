/-
  The law PileMerges: its walk.
-/
import Derived.Test.YtdhpphkkpjldfabPRef1
import Derived.StillTailTactics
namespace Go.Proofs.Ytdhpphkkpjldfab
set_option maxRecDepth 100000
open Go Go.RowKit Pq

/-- Three piles: two parts, and all. -/
structure Parts (s0 s1 s : List It) : Prop where
  h0 : Srt s0
  h1 : Srt s1
  h : Srt s
  perm : (s0 ++ s1).Perm s

theorem Parts.push0 {s0 s1 s : List It} (h : Parts s0 s1 s) (x : It) : Parts (ins x s0) s1 (ins x s) :=
  ⟨ins_srt x h.h0, h.h1, ins_srt x h.h, ((ins_perm x s0).append_right s1).trans ((h.perm.cons x).trans (ins_perm x s).symm)⟩
theorem Parts.push1 {s0 s1 s : List It} (h : Parts s0 s1 s) (x : It) : Parts s0 (ins x s1) (ins x s) :=
  ⟨h.h0, ins_srt x h.h1, ins_srt x h.h, ((ins_perm x s1).append_left s0).trans (List.perm_middle.trans ((h.perm.cons x).trans (ins_perm x s).symm))⟩

/-- All that one pile has is what both have. -/
theorem Parts.head {s0 s1 s : List It} (h : Parts s0 s1 s) {x : It} (hx : x ∈ s0 ++ s1) (hle : ∀ y ∈ s0 ++ s1, le x y) : ∃ t, s = x :: t := by
  cases s with
  | nil =>
    have := h.perm
    rw [List.perm_nil] at this
    rw [this] at hx
    simp at hx
  | cons a t =>
    have ha := List.pairwise_cons.1 h.h
    have e : x = a := by
      apply le_antisymm
      · exact hle a (h.perm.mem_iff.2 (by simp))
      · rcases List.mem_cons.1 (h.perm.mem_iff.1 hx) with e | e
        · rw [e]; exact le_refl _
        · exact ha.1 x e
    exact ⟨t, by rw [e]⟩
theorem Parts.pop0 {x : It} {t0 s1 t : List It} (h : Parts (x :: t0) s1 (x :: t)) : Parts t0 s1 t :=
  ⟨(List.pairwise_cons.1 h.h0).2, h.h1, (List.pairwise_cons.1 h.h).2, (List.perm_cons x).1 h.perm⟩
theorem Parts.pop1 {x : It} {s0 t1 t : List It} (h : Parts s0 (x :: t1) (x :: t)) : Parts s0 t1 t :=
  ⟨h.h0, (List.pairwise_cons.1 h.h1).2, (List.pairwise_cons.1 h.h).2, (List.perm_cons x).1 (List.perm_middle.symm.trans h.perm)⟩
theorem Parts.left {x : It} {t0 s1 s : List It} (h : Parts (x :: t0) s1 s) (hl : ∀ y ∈ s1, le x y) : ∃ t, s = x :: t :=
  h.head (by simp) (by
    intro y hy
    rcases List.mem_append.1 hy with hy | hy
    · rcases List.mem_cons.1 hy with e | e
      · rw [e]; exact le_refl _
      · exact (List.pairwise_cons.1 h.h0).1 y e
    · exact hl y hy)
theorem Parts.right {x : It} {s0 t1 s : List It} (h : Parts s0 (x :: t1) s) (hl : ∀ y ∈ s0, le x y) : ∃ t, s = x :: t :=
  h.head (by simp) (by
    intro y hy
    rcases List.mem_append.1 hy with hy | hy
    · exact hl y hy
    · rcases List.mem_cons.1 hy with e | e
      · rw [e]; exact le_refl _
      · exact (List.pairwise_cons.1 h.h1).1 y e)
theorem le_all {x y : It} {t : List It} (h : Srt (y :: t)) (hx : le x y) : ∀ z ∈ y :: t, le x z := by
  intro z hz
  rcases List.mem_cons.1 hz with e | e
  · rw [e]; exact hx
  · exact le_trans hx ((List.pairwise_cons.1 h).1 z e)

set_option maxHeartbeats 1000000 in
theorem merges_long {w : World} {A A2 : Option Addr} {n cap m cap2 : Nat} (hn : 200 < n) :
    Calls Try.prog 8 #[.slice A n cap, .slice A2 m cap2] w fun e w' => e = .returned (.bool true) ∧ Below w.heap.size w w' := by
  go_enter Try.func8, Try.ntmps8
  go_wp2_with fail
  refine (alive_any _).mono ?_
  rintro e w1 ⟨rfl, hb1⟩
  have HB := Lib.hid hb1
  clear hb1
  go_wp2
  go_ret
  exact ⟨rfl, HB.out⟩

/-- A list of bools lies there. -/
def BoolsAt (w : World) (A : Option Addr) (m : Nat) (q : Nat → Bool) : Prop := ∀ i, i < m → ∃ a, A = some a ∧ a.block < w.heap.size ∧ w.cell? (a.add i) = some (.bool (q i))
theorem BoolsAt.below {w w' : World} {A : Option Addr} {m : Nat} {q : Nat → Bool} (h : BoolsAt w A m q) {B : Nat} (hb : Below B w w') (hB : w.heap.size ≤ B) : BoolsAt w' A m q := by
  intro k hk
  obtain ⟨a, h0, h1, h2⟩ := h k hk
  exact ⟨a, h0, Nat.lt_of_lt_of_le h1 hb.size, by rw [hb.cell (by rw [add_block]; omega)]; exact h2⟩

def MRel (w : World) (b : Nat) (k : Nat) (l : List It) (wr : World) : Prop :=
  ∃ r0 r1 r s0 s1 s, Sys w.heap.size w [⟨b + 1, 0, r, s⟩, ⟨b, 0, r0, s0⟩, ⟨b, 1, r1, s1⟩] [] [] wr ∧ Parts s0 s1 s ∧ s.length = k ∧ s0.length ≤ k ∧ s1.length ≤ k ∧ l.length ≤ 200

/-- One of the parts has it already. -/
def MMid (w : World) (b : Nat) (k : Nat) (l : List It) (j : Nat) (x : It) (wr : World) : Prop :=
  ∃ r0 r1 r s0 s1 s, Sys w.heap.size w [⟨b + 1, 0, r, s⟩, ⟨b, 0, r0, if j = 0 then ins x s0 else s0⟩, ⟨b, 1, r1, if j = 0 then s1 else ins x s1⟩] [] [] wr ∧ Parts s0 s1 s ∧ s.length = k ∧ s0.length ≤ k ∧ s1.length ≤ k ∧ l.length ≤ 200
theorem Parts.push {s0 s1 s : List It} (h : Parts s0 s1 s) (j : Nat) (_ : j ≤ 1) (x : It) : Parts (if j = 0 then ins x s0 else s0) (if j = 0 then s1 else ins x s1) (ins x s) := by
  by_cases e : j = 0
  · rw [if_pos e, if_pos e]; exact h.push0 x
  · rw [if_neg e, if_neg e]; exact h.push1 x

/-- So many are left. -/
def M2 (w : World) (b : Nat) (k : Nat) (wr : World) : Prop :=
  ∃ r0 r1 r s0 s1 s, Sys w.heap.size w [⟨b + 1, 0, r, s⟩, ⟨b, 0, r0, s0⟩, ⟨b, 1, r1, s1⟩] [] [] wr ∧ Parts s0 s1 s ∧ s.length = k ∧ s0.length ≤ 200 ∧ s1.length ≤ 200 ∧ k ≤ 200

set_option maxHeartbeats 4000000 in
theorem merges_any {w : World} {A A2 : Option Addr} {l : List It} {cap m cap2 : Nat} {q : Nat → Bool} (hA : ItemsAt w A l) (hA2 : BoolsAt w A2 m q) (hn : l.length ≤ 200) (hm : m ≤ maxLen) :
    Calls Try.prog 8 #[.slice A l.length cap, .slice A2 m cap2] w fun e w' => e = .returned (.bool true) ∧ Below w.heap.size w w' := by
  have HA := Lib.hid hA
  have HA2 := Lib.hid hA2
  clear hA hA2
  unfold maxLen at hm
  go_enter Try.func8, Try.ntmps8
  go_wp2_with fail
  refine (alive_any _).mono ?_
  rintro e w1 ⟨rfl, hb1⟩
  have hs1 := hb1.size
  have HS1 : Hid (∀ t t', MRel w w1.heap.size 0 l ((w1.alloc (.cells #[.slice none 0 0, .slice none 0 0] t)).alloc (.cells #[.slice none 0 0] t'))) := fun t t' => by
    have := ((Sys.start (Nat.le_refl _) hb1).newTwo t).newPile t'
    rw [World.size_alloc] at this
    exact ⟨none, none, none, [], [], [], this, ⟨List.Pairwise.nil, List.Pairwise.nil, List.Pairwise.nil, List.Perm.refl _⟩, rfl, Nat.le_refl _, Nat.le_refl _, hn⟩
  clear hb1
  generalize hN : l.length = n at *
  have HN := Lib.hid hN
  clear hN
  go_wp2
  go_loopw [30] (fun v wr => ∃ (k : Nat), k ≤ n ∧ v = .int .i64 (k : Int) ∧ MRel w w1.heap.size k l wr) (fun v _ => n - (intOf v).toNat)
  case atStart => exact ⟨0, by omega, rfl, HS1.out _ _⟩
  case round =>
    obtain ⟨k, hk, rfl, hS⟩ := hrel
    have HS := Lib.hid hS
    clear hS
    by_cases hlt : k < n
    · have hkl : k < l.length := by rw [HN.out]; exact hlt
      have hbel : Below w.heap.size w wr := by
        obtain ⟨r0, r1, r, s0, s1, s, hS, _⟩ := HS.out
        exact hS.below
      obtain ⟨a, rfl, hab, c0, c1, c2⟩ := (HA.out.below hbel (Nat.le_refl _)) k hkl
      have HP2 : Hid (∀ W j, j ≤ 1 → MMid w w1.heap.size k l j (at_ l k) W → (W.cell? (a.add (k * 3)) = some (.int .i64 (at_ l k).c) ∧ W.cell? ⟨(a.add (k * 3)).block, (a.add (k * 3)).off + 1, none⟩ = some (.int .i64 (at_ l k).t) ∧ W.cell? ⟨(a.add (k * 3)).block, (a.add (k * 3)).off + 2, none⟩ = some (.int .i64 (at_ l k).i)) ∧
          Calls Try.prog 9 #[.pointer (some ⟨w1.heap.size + 1, 0, none⟩), .agg #[.int .i64 (at_ l k).c, .int .i64 (at_ l k).t, .int .i64 (at_ l k).i]] W fun e w' => e = .returned (.tuple #[]) ∧ MRel w w1.heap.size (k + 1) l w') := by
        rintro W j hj ⟨r0, r1, r, s0, s1, s, hS, hP, h1, h2, h3, h4⟩
        obtain ⟨a2, e2, _, d0, d1, d2⟩ := (HA.out.below hS.below (Nat.le_refl _)) k hkl
        cases e2
        refine ⟨⟨d0, d1, d2⟩, (push_s (hS.pile 0 _ rfl).1 (at_ l k) (by show s.length ≤ 10000; omega)).mono fun e w' hq => ⟨hq.1, ?_⟩⟩
        obtain ⟨r', h5⟩ := hS.push (i := 0) rfl hq
        refine ⟨r0, r1, r', _, _, _, h5, hP.push j hj (at_ l k), ?_, ?_, ?_, h4⟩
        · show (ins _ s).length = _
          rw [ins_length]; omega
        · split
          · rw [ins_length]; omega
          · omega
        · split
          · omega
          · rw [ins_length]; omega
      clear hab hbel hkl
      generalize at_ l k = x at *
      by_cases hkm : k < m
      · obtain ⟨a2, rfl, hab, c3⟩ := (HA2.out.below (show Below w.heap.size w wr by obtain ⟨r0, r1, r, s0, s1, s, hS, _⟩ := HS.out; exact hS.below) (Nat.le_refl _)) k hkm
        clear hab
        cases hqk : q k with
        | false =>
          rw [hqk] at c3
          have HP : Hid (Calls Try.prog 9 #[.pointer (some ⟨w1.heap.size, 0, none⟩), .agg #[.int .i64 x.c, .int .i64 x.t, .int .i64 x.i]] wr.drew fun e w' => e = .returned (.tuple #[]) ∧ MMid w w1.heap.size k l 0 x w') := by
            obtain ⟨r0, r1, r, s0, s1, s, hS, hP, h1, h2, h3, h4⟩ := HS.out
            refine (push_s (hS.drew.pile 1 _ rfl).1 x (by show s0.length ≤ 10000; omega)).mono fun e w' hq => ⟨hq.1, ?_⟩
            obtain ⟨r', h5⟩ := hS.drew.push (i := 1) rfl hq
            exact ⟨r', r1, r, s0, s1, s, h5, hP, h1, h2, h3, h4⟩
          go_wp2_with fail
          go_still_tail 6, (by kernel_rfl)
          change wpList _ _ _ _ _ wr.drew
          go_wp2_with fail
          refine HP.out.mono ?_
          rintro e w2 ⟨rfl, hq2⟩
          obtain ⟨⟨d0, d1, d2⟩, hq3⟩ := HP2.out _ 0 (by omega) hq2
          have HQ3 := Lib.hid hq3
          clear hq2 hq3 HP HP2 c0 c1 c2
          go_wp2_with fail
          refine HQ3.out.mono ?_
          rintro e w3 ⟨rfl, hq⟩
          have HQ := Lib.hid hq
          clear hq
          go_wp2
          exact ⟨⟨k + 1, by omega, by go_num, HQ.out⟩, by simp [intOf]; omega⟩
        | true =>
          rw [hqk] at c3
          have HP : Hid (Calls Try.prog 9 #[.pointer (some ⟨w1.heap.size, 1, none⟩), .agg #[.int .i64 x.c, .int .i64 x.t, .int .i64 x.i]] wr.drew fun e w' => e = .returned (.tuple #[]) ∧ MMid w w1.heap.size k l 1 x w') := by
            obtain ⟨r0, r1, r, s0, s1, s, hS, hP, h1, h2, h3, h4⟩ := HS.out
            refine (push_s (hS.drew.pile 2 _ rfl).1 x (by show s1.length ≤ 10000; omega)).mono fun e w' hq => ⟨hq.1, ?_⟩
            obtain ⟨r', h5⟩ := hS.drew.push (i := 2) rfl hq
            exact ⟨r0, r', r, s0, s1, s, h5, hP, h1, h2, h3, h4⟩
          go_wp2_with fail
          go_still_tail 6, (by kernel_rfl)
          change wpList _ _ _ _ _ wr.drew
          go_wp2_with fail
          refine HP.out.mono ?_
          rintro e w2 ⟨rfl, hq2⟩
          obtain ⟨⟨d0, d1, d2⟩, hq3⟩ := HP2.out _ 1 (by omega) hq2
          have HQ3 := Lib.hid hq3
          clear hq2 hq3 HP HP2 c0 c1 c2
          go_wp2_with fail
          refine HQ3.out.mono ?_
          rintro e w3 ⟨rfl, hq⟩
          have HQ := Lib.hid hq
          clear hq
          go_wp2
          exact ⟨⟨k + 1, by omega, by go_num, HQ.out⟩, by simp [intOf]; omega⟩
      · have dkm : decide (k < m) = false := by simpa using hkm
        have HP : Hid (Calls Try.prog 9 #[.pointer (some ⟨w1.heap.size, 0, none⟩), .agg #[.int .i64 x.c, .int .i64 x.t, .int .i64 x.i]] wr.drew fun e w' => e = .returned (.tuple #[]) ∧ MMid w w1.heap.size k l 0 x w') := by
          obtain ⟨r0, r1, r, s0, s1, s, hS, hP, h1, h2, h3, h4⟩ := HS.out
          refine (push_s (hS.drew.pile 1 _ rfl).1 x (by show s0.length ≤ 10000; omega)).mono fun e w' hq => ⟨hq.1, ?_⟩
          obtain ⟨r', h5⟩ := hS.drew.push (i := 1) rfl hq
          exact ⟨r', r1, r, s0, s1, s, h5, hP, h1, h2, h3, h4⟩
        go_wp2_with fail
        go_still_tail 6, (by kernel_rfl)
        change wpList _ _ _ _ _ wr.drew
        go_wp2_with fail
        refine HP.out.mono ?_
        rintro e w2 ⟨rfl, hq2⟩
        obtain ⟨⟨d0, d1, d2⟩, hq3⟩ := HP2.out _ 0 (by omega) hq2
        have HQ3 := Lib.hid hq3
        clear hq2 hq3 HP HP2 c0 c1 c2
        go_wp2_with fail
        refine HQ3.out.mono ?_
        rintro e w3 ⟨rfl, hq⟩
        have HQ := Lib.hid hq
        clear hq
        go_wp2
        exact ⟨⟨k + 1, by omega, by go_num, HQ.out⟩, by simp [intOf]; omega⟩
    · have hS2 : M2 w w1.heap.size n wr := by
        obtain ⟨r0, r1, r, s0, s1, s, hS, hP, h1, h2, h3, h4⟩ := HS.out
        exact ⟨r0, r1, r, s0, s1, s, hS, hP, by omega, by omega, by omega, by omega⟩
      have HS2 := Lib.hid hS2
      clear hS2 HS
      go_wp2
      go_loopw [58] (fun v wr => ∃ (i : Nat), i ≤ n ∧ v = .int .i64 (i : Int) ∧ M2 w w1.heap.size (n - i) wr) (fun v _ => n - (intOf v).toNat)
      case atStart => exact ⟨0, by omega, rfl, HS2.out⟩
      case round =>
        obtain ⟨i, hi, rfl, hR⟩ := hrel
        clear HS2
        by_cases hlt : i < n
        · obtain ⟨r0, r1, r, s0, s1, s, hS, hP, hl, hl0, hl1, hl2⟩ := hR
          cases s1 with
          | nil =>
            cases s0 with
            | nil =>
              exfalso
              have := hP.perm.length_eq
              simp at this
              omega
            | cons x t0 =>
              obtain ⟨t, rfl⟩ := hP.left (by simp)
              have HP := Lib.hid hP.pop0
              simp only [List.length_cons, List.length_nil] at hl hl0 hl1
              clear hP
              go_wp2_with fail
              refine (top_s (hS.pile 1 _ rfl).1).mono ?_
              rintro e wa ⟨rfl, hba⟩
              have hSa := (hS.later hba (Nat.le_refl _)).alloc (.cells #[.int .i64 x.c, .int .i64 x.t, .int .i64 x.i] 32)
              have HSa := Lib.hid hSa
              clear hba hS hSa
              go_wp2_with fail
              refine (top_nil (HSa.out.pile 2 _ rfl).1).mono ?_
              rintro e wb ⟨rfl, hbb⟩
              have hSb := (HSa.out.later hbb (Nat.le_refl _)).alloc (.cells #[.int .i64 0, .int .i64 0, .int .i64 0] 32)
              have HSb := Lib.hid hSb
              clear hbb hSb HSa
              go_wp2_with fail
              refine (pop_s (HSb.out.pile 1 _ rfl).1 (by omega)).mono ?_
              rintro e wd hqd
              obtain ⟨rfl, _⟩ := id hqd
              have hSd := (HSb.out.pop (i := 1) rfl hqd).alloc (.cells #[.int .i64 x.c, .int .i64 x.t, .int .i64 x.i] 32)
              have HSd := Lib.hid hSd
              clear hqd hSd HSb
              go_wp2_with fail
              refine (pop_s (HSd.out.pile 0 _ rfl).1 (by omega)).mono ?_
              rintro e we hqe
              obtain ⟨rfl, _⟩ := id hqe
              have hSe := (HSd.out.pop (i := 0) rfl hqe).alloc (.cells #[.int .i64 x.c, .int .i64 x.t, .int .i64 x.i] 32)
              have p1 := (hSe.obj _ (List.mem_cons_self ..)).1
              have p2 := (hSe.obj _ (List.mem_cons_of_mem _ (List.mem_cons_self ..))).1
              dsimp only at p1 p2
              have q0 := (blk_cell p1 0).trans (show _ = some (Value.int .i64 x.c) from rfl)
              have q1 := (blk_cell p1 1).trans (show _ = some (Value.int .i64 x.t) from rfl)
              have q2 := (blk_cell p1 2).trans (show _ = some (Value.int .i64 x.i) from rfl)
              have m0 := (blk_cell p2 0).trans (show _ = some (Value.int .i64 x.c) from rfl)
              have m1 := (blk_cell p2 1).trans (show _ = some (Value.int .i64 x.t) from rfl)
              have m2 := (blk_cell p2 2).trans (show _ = some (Value.int .i64 x.i) from rfl)
              have HQ : Hid (M2 w w1.heap.size (n - (i + 1)) (we.alloc (.cells #[.int .i64 x.c, .int .i64 x.t, .int .i64 x.i] 32))) := ⟨r0, r1, r, t0, [], t, hSe.less (os' := []) (rs' := []) (fun _ h => by cases h) (fun _ h => by cases h), HP.out, by omega, by omega, by omega, by omega⟩
              clear hqe hSe p1 p2 HSd
              go_wp2
              exact ⟨⟨i + 1, by omega, by go_num, HQ.out⟩, by simp [intOf]; omega⟩
          | cons y t1 =>
            cases s0 with
            | nil =>
              obtain ⟨t, rfl⟩ := hP.right (by simp)
              have HP := Lib.hid hP.pop1
              simp only [List.length_cons, List.length_nil] at hl hl0 hl1
              clear hP
              go_wp2_with fail
              refine (top_nil (hS.pile 1 _ rfl).1).mono ?_
              rintro e wa ⟨rfl, hba⟩
              have hSa := (hS.later hba (Nat.le_refl _)).alloc (.cells #[.int .i64 0, .int .i64 0, .int .i64 0] 32)
              have HSa := Lib.hid hSa
              clear hba hS hSa
              go_wp2_with fail
              refine (top_s (HSa.out.pile 2 _ rfl).1).mono ?_
              rintro e wb ⟨rfl, hbb⟩
              have hSb := (HSa.out.later hbb (Nat.le_refl _)).alloc (.cells #[.int .i64 y.c, .int .i64 y.t, .int .i64 y.i] 32)
              have HSb := Lib.hid hSb
              clear hbb hSb HSa
              go_wp2_with fail
              refine (pop_s (HSb.out.pile 2 _ rfl).1 (by omega)).mono ?_
              rintro e wd hqd
              obtain ⟨rfl, _⟩ := id hqd
              have hSd := (HSb.out.pop (i := 2) rfl hqd).alloc (.cells #[.int .i64 y.c, .int .i64 y.t, .int .i64 y.i] 32)
              have HSd := Lib.hid hSd
              clear hqd hSd HSb
              go_wp2_with fail
              refine (pop_s (HSd.out.pile 0 _ rfl).1 (by omega)).mono ?_
              rintro e we hqe
              obtain ⟨rfl, _⟩ := id hqe
              have hSe := (HSd.out.pop (i := 0) rfl hqe).alloc (.cells #[.int .i64 y.c, .int .i64 y.t, .int .i64 y.i] 32)
              have p1 := (hSe.obj _ (List.mem_cons_self ..)).1
              have p2 := (hSe.obj _ (List.mem_cons_of_mem _ (List.mem_cons_self ..))).1
              dsimp only at p1 p2
              have q0 := (blk_cell p1 0).trans (show _ = some (Value.int .i64 y.c) from rfl)
              have q1 := (blk_cell p1 1).trans (show _ = some (Value.int .i64 y.t) from rfl)
              have q2 := (blk_cell p1 2).trans (show _ = some (Value.int .i64 y.i) from rfl)
              have m0 := (blk_cell p2 0).trans (show _ = some (Value.int .i64 y.c) from rfl)
              have m1 := (blk_cell p2 1).trans (show _ = some (Value.int .i64 y.t) from rfl)
              have m2 := (blk_cell p2 2).trans (show _ = some (Value.int .i64 y.i) from rfl)
              have HQ : Hid (M2 w w1.heap.size (n - (i + 1)) (we.alloc (.cells #[.int .i64 y.c, .int .i64 y.t, .int .i64 y.i] 32))) := ⟨r0, r1, r, [], t1, t, hSe.less (os' := []) (rs' := []) (fun _ h => by cases h) (fun _ h => by cases h), HP.out, by omega, by omega, by omega, by omega⟩
              clear hqe hSe p1 p2 HSd
              go_wp2
              exact ⟨⟨i + 1, by omega, by go_num, HQ.out⟩, by simp [intOf]; omega⟩
            | cons x t0 =>
              cases hlt2 : lt y x with
              | true =>
                obtain ⟨t, rfl⟩ := hP.right (le_all hP.h0 (le_of_lt hlt2))
                have HP := Lib.hid hP.pop1
                simp only [List.length_cons] at hl hl0 hl1
                clear hP
                go_wp2_with fail
                refine (top_s (hS.pile 1 _ rfl).1).mono ?_
                rintro e wa ⟨rfl, hba⟩
                have hSa := (hS.later hba (Nat.le_refl _)).alloc (.cells #[.int .i64 x.c, .int .i64 x.t, .int .i64 x.i] 32)
                have HSa := Lib.hid hSa
                clear hba hS hSa
                go_wp2_with fail
                refine (top_s (HSa.out.pile 2 _ rfl).1).mono ?_
                rintro e wb ⟨rfl, hbb⟩
                have hSb := (HSa.out.later hbb (Nat.le_refl _)).alloc (.cells #[.int .i64 y.c, .int .i64 y.t, .int .i64 y.i] 32)
                have HSb := Lib.hid hSb
                clear hbb hSb HSa
                have o1 := (HSb.out.obj _ (List.mem_cons_self ..)).1
                have o2 := (HSb.out.obj _ (List.mem_cons_of_mem _ (List.mem_cons_self ..))).1
                dsimp only at o1 o2
                have y0 := (blk_cell o1 0).trans (show _ = some (Value.int .i64 y.c) from rfl)
                have y1 := (blk_cell o1 1).trans (show _ = some (Value.int .i64 y.t) from rfl)
                have y2 := (blk_cell o1 2).trans (show _ = some (Value.int .i64 y.i) from rfl)
                have x0 := (blk_cell o2 0).trans (show _ = some (Value.int .i64 x.c) from rfl)
                have x1 := (blk_cell o2 1).trans (show _ = some (Value.int .i64 x.t) from rfl)
                have x2 := (blk_cell o2 2).trans (show _ = some (Value.int .i64 x.i) from rfl)
                clear o1 o2
                go_wp2_with fail
                refine (aheadr_any y x _).mono ?_
                rintro e wc ⟨rfl, hbc⟩
                rw [hlt2]
                have hSc := HSb.out.later hbc (Nat.le_refl _)
                have HSc := Lib.hid hSc
                clear hbc hSc x0 x1 x2 y0 y1 y2 HSb
                go_wp2_with fail
                refine (pop_s (HSc.out.pile 2 _ rfl).1 (by omega)).mono ?_
                rintro e wd hqd
                obtain ⟨rfl, _⟩ := id hqd
                have hSd := (HSc.out.pop (i := 2) rfl hqd).alloc (.cells #[.int .i64 y.c, .int .i64 y.t, .int .i64 y.i] 32)
                have HSd := Lib.hid hSd
                clear hqd hSd HSc
                go_wp2_with fail
                refine (pop_s (HSd.out.pile 0 _ rfl).1 (by omega)).mono ?_
                rintro e we hqe
                obtain ⟨rfl, _⟩ := id hqe
                have hSe := (HSd.out.pop (i := 0) rfl hqe).alloc (.cells #[.int .i64 y.c, .int .i64 y.t, .int .i64 y.i] 32)
                have p1 := (hSe.obj _ (List.mem_cons_self ..)).1
                have p2 := (hSe.obj _ (List.mem_cons_of_mem _ (List.mem_cons_self ..))).1
                dsimp only at p1 p2
                have q0 := (blk_cell p1 0).trans (show _ = some (Value.int .i64 y.c) from rfl)
                have q1 := (blk_cell p1 1).trans (show _ = some (Value.int .i64 y.t) from rfl)
                have q2 := (blk_cell p1 2).trans (show _ = some (Value.int .i64 y.i) from rfl)
                have m0 := (blk_cell p2 0).trans (show _ = some (Value.int .i64 y.c) from rfl)
                have m1 := (blk_cell p2 1).trans (show _ = some (Value.int .i64 y.t) from rfl)
                have m2 := (blk_cell p2 2).trans (show _ = some (Value.int .i64 y.i) from rfl)
                have HQ : Hid (M2 w w1.heap.size (n - (i + 1)) (we.alloc (.cells #[.int .i64 y.c, .int .i64 y.t, .int .i64 y.i] 32))) := ⟨r0, r1, r, x :: t0, t1, t, hSe.less (os' := []) (rs' := []) (fun _ h => by cases h) (fun _ h => by cases h), HP.out, by omega, by omega, by omega, by omega⟩
                clear hqe hSe p1 p2 HSd
                go_wp2
                exact ⟨⟨i + 1, by omega, by go_num, HQ.out⟩, by simp [intOf]; omega⟩
              | false =>
                obtain ⟨t, rfl⟩ := hP.left (le_all hP.h1 hlt2)
                have HP := Lib.hid hP.pop0
                simp only [List.length_cons] at hl hl0 hl1
                clear hP
                go_wp2_with fail
                refine (top_s (hS.pile 1 _ rfl).1).mono ?_
                rintro e wa ⟨rfl, hba⟩
                have hSa := (hS.later hba (Nat.le_refl _)).alloc (.cells #[.int .i64 x.c, .int .i64 x.t, .int .i64 x.i] 32)
                have HSa := Lib.hid hSa
                clear hba hS hSa
                go_wp2_with fail
                refine (top_s (HSa.out.pile 2 _ rfl).1).mono ?_
                rintro e wb ⟨rfl, hbb⟩
                have hSb := (HSa.out.later hbb (Nat.le_refl _)).alloc (.cells #[.int .i64 y.c, .int .i64 y.t, .int .i64 y.i] 32)
                have HSb := Lib.hid hSb
                clear hbb hSb HSa
                have o1 := (HSb.out.obj _ (List.mem_cons_self ..)).1
                have o2 := (HSb.out.obj _ (List.mem_cons_of_mem _ (List.mem_cons_self ..))).1
                dsimp only at o1 o2
                have y0 := (blk_cell o1 0).trans (show _ = some (Value.int .i64 y.c) from rfl)
                have y1 := (blk_cell o1 1).trans (show _ = some (Value.int .i64 y.t) from rfl)
                have y2 := (blk_cell o1 2).trans (show _ = some (Value.int .i64 y.i) from rfl)
                have x0 := (blk_cell o2 0).trans (show _ = some (Value.int .i64 x.c) from rfl)
                have x1 := (blk_cell o2 1).trans (show _ = some (Value.int .i64 x.t) from rfl)
                have x2 := (blk_cell o2 2).trans (show _ = some (Value.int .i64 x.i) from rfl)
                clear o1 o2
                go_wp2_with fail
                refine (aheadr_any y x _).mono ?_
                rintro e wc ⟨rfl, hbc⟩
                rw [hlt2]
                have hSc := HSb.out.later hbc (Nat.le_refl _)
                have HSc := Lib.hid hSc
                clear hbc hSc x0 x1 x2 y0 y1 y2 HSb
                go_wp2_with fail
                refine (pop_s (HSc.out.pile 1 _ rfl).1 (by omega)).mono ?_
                rintro e wd hqd
                obtain ⟨rfl, _⟩ := id hqd
                have hSd := (HSc.out.pop (i := 1) rfl hqd).alloc (.cells #[.int .i64 x.c, .int .i64 x.t, .int .i64 x.i] 32)
                have HSd := Lib.hid hSd
                clear hqd hSd HSc
                go_wp2_with fail
                refine (pop_s (HSd.out.pile 0 _ rfl).1 (by omega)).mono ?_
                rintro e we hqe
                obtain ⟨rfl, _⟩ := id hqe
                have hSe := (HSd.out.pop (i := 0) rfl hqe).alloc (.cells #[.int .i64 x.c, .int .i64 x.t, .int .i64 x.i] 32)
                have p1 := (hSe.obj _ (List.mem_cons_self ..)).1
                have p2 := (hSe.obj _ (List.mem_cons_of_mem _ (List.mem_cons_self ..))).1
                dsimp only at p1 p2
                have q0 := (blk_cell p1 0).trans (show _ = some (Value.int .i64 x.c) from rfl)
                have q1 := (blk_cell p1 1).trans (show _ = some (Value.int .i64 x.t) from rfl)
                have q2 := (blk_cell p1 2).trans (show _ = some (Value.int .i64 x.i) from rfl)
                have m0 := (blk_cell p2 0).trans (show _ = some (Value.int .i64 x.c) from rfl)
                have m1 := (blk_cell p2 1).trans (show _ = some (Value.int .i64 x.t) from rfl)
                have m2 := (blk_cell p2 2).trans (show _ = some (Value.int .i64 x.i) from rfl)
                have HQ : Hid (M2 w w1.heap.size (n - (i + 1)) (we.alloc (.cells #[.int .i64 x.c, .int .i64 x.t, .int .i64 x.i] 32))) := ⟨r0, r1, r, t0, y :: t1, t, hSe.less (os' := []) (rs' := []) (fun _ h => by cases h) (fun _ h => by cases h), HP.out, by omega, by omega, by omega, by omega⟩
                clear hqe hSe p1 p2 HSd
                go_wp2
                exact ⟨⟨i + 1, by omega, by go_num, HQ.out⟩, by simp [intOf]; omega⟩
        · obtain ⟨r0, r1, r, s0, s1, s, hS, hP, hl, hl0, hl1, hl2⟩ := hR
          obtain rfl : s = [] := List.eq_nil_of_length_eq_zero (by omega)
          have hpp := hP.perm
          rw [List.perm_nil, List.append_eq_nil_iff] at hpp
          obtain ⟨rfl, rfl⟩ := hpp
          have HB := Lib.hid hS.below
          have HS3 := Lib.hid hS
          clear hS hP hl hl0 hl1 hl2
          go_wp2_with fail
          refine (len_s (HS3.out.pile 0 _ rfl).1).mono ?_
          rintro e wa ⟨rfl, rfl⟩
          go_wp2_with fail
          refine (len_s (HS3.out.pile 1 _ rfl).1).mono ?_
          rintro e wa ⟨rfl, rfl⟩
          go_wp2_with fail
          refine (len_s (HS3.out.pile 2 _ rfl).1).mono ?_
          rintro e wa ⟨rfl, rfl⟩
          go_wp2
          go_ret
          exact ⟨rfl, HB.out⟩
end Go.Proofs.Ytdhpphkkpjldfab
