/-
  The law GraphJoints: its walk.
-/
import Derived.Test.YtlcadkhhpnaofaaGJn0
namespace Go.Proofs.Ytlcadkhhpnaofaa
set_option maxRecDepth 100000
open Go Go.RowKit Gq

theorem isL_at {W : World} {A : Option Addr} {n c : Nat} {l : List Nat} (h : IsL W (.slice A n c) (ints l)) {j : Nat} (hj : j < l.length) : ∃ g, A = some ⟨g, 0, none⟩ ∧ W.cell? ⟨g, j, none⟩ = some (.int .i64 ((l.getD j 0 : Nat) : Int)) := by
  obtain ⟨A', cap, e, _, hc⟩ := h
  cases e
  obtain ⟨g, e', hg⟩ := hc j (by rw [ints_length]; exact hj)
  rw [ints_get] at hg
  exact ⟨g, e', hg⟩
theorem getD_mem {l : List Nat} {j : Nat} (hj : j < l.length) : l.getD j 0 ∈ l := by
  have : l.getD j 0 = l[j] := by simp [List.getD, hj]
  rw [this]; exact List.getElem_mem hj

/-- The graphs, and the cells of a list that stays. -/
def JnO (w : World) (b bw bl : Nat) (R : Gr) (v x j : Nat) (A : Option Addr) (l : List Nat) (wr : World) : Prop :=
  ∃ K, JnI w b bw bl R (Eb R x j) (El R v x j) K wr ∧ ∀ i, i < l.length → ∃ g, A = some ⟨g, 0, none⟩ ∧ K g ∧ wr.cell? ⟨g, i, none⟩ = some (.int .i64 ((l.getD i 0 : Nat) : Int))

/-- Adds to both graphs. -/
theorem jn_more {w wr : World} {b bw bl v x y j : Nat} {R : Gr} {A : Option Addr} {l : List Nat} (h : JnO w b bw bl R v x j A l wr) (hl : l = row R x) (hO : Ok R) (hj : j < l.length) (hy : y = l.getD j 0) :
    Calls Try.prog 8 #[.pointer (some ⟨bw, 0, none⟩), .int .i64 (x : Int), .int .i64 (y : Int)] wr fun e w1 => (∃ z : Int, e = .returned (.int .i64 z)) ∧
      Calls Try.prog 8 #[.pointer (some ⟨bw, 0, none⟩), .int .i64 (y : Int), .int .i64 (x : Int)] w1 fun e w2 => (∃ z : Int, e = .returned (.int .i64 z)) ∧
        ((x = v ∨ y = v) → JnO w b bw bl R v x (j + 1) A l w2) ∧
        (x ≠ v → y ≠ v → Calls Try.prog 8 #[.pointer (some ⟨bl, 0, none⟩), .int .i64 (x : Int), .int .i64 (y : Int)] w2 fun e w3 => (∃ z : Int, e = .returned (.int .i64 z)) ∧
          Calls Try.prog 8 #[.pointer (some ⟨bl, 0, none⟩), .int .i64 (y : Int), .int .i64 (x : Int)] w3 fun e w4 => (∃ z : Int, e = .returned (.int .i64 z)) ∧ JnO w b bw bl R v x (j + 1) A l w4) := by
  obtain ⟨K, hI, hc⟩ := h
  subst hl
  have hm : y ∈ row R x := by rw [hy]; exact getD_mem hj
  have hx : x < R.length := row_lt hm
  have hyl := hO.node _ _ hm
  have hne : x ≠ y := fun e => hO.self x (by rw [← e] at hm; exact hm)
  have cells : ∀ {wa wb : World}, (∀ i, i < (row R x).length → ∃ g, A = some ⟨g, 0, none⟩ ∧ K g ∧ wa.cell? ⟨g, i, none⟩ = some (.int .i64 (((row R x).getD i 0 : Nat) : Int))) → (∀ k, K k → wb.heap[k]? = wa.heap[k]?) →
      (∀ i, i < (row R x).length → ∃ g, A = some ⟨g, 0, none⟩ ∧ K g ∧ wb.cell? ⟨g, i, none⟩ = some (.int .i64 (((row R x).getD i 0 : Nat) : Int))) := by
    intro wa wb h1 h2 i hi
    obtain ⟨g, e, hK, hg⟩ := h1 i hi
    exact ⟨g, e, hK, (World.cell?_of_block (a := ⟨g, i, none⟩) (h2 g hK)).trans hg⟩
  refine (hI.addW hx hyl hne).mono ?_
  rintro e w1 ⟨he1, hI1, hk1⟩
  refine ⟨he1, (hI1.addW hyl hx (fun e => hne e.symm)).mono ?_⟩
  rintro e w2 ⟨he2, hI2, hk2⟩
  have hc2 := cells (cells hc hk1) hk2
  refine ⟨he2, fun ho => ⟨K, hI2.congr (fun u z => ?_) (El_out hj (by rw [← hy]; exact ho)) (fun _ h => h), hc2⟩, fun h1 h2 => (hI2.addL hx hyl hne).mono ?_⟩
  · rw [← Eb_step hj, ← hy]
  rintro e w3 ⟨he3, hI3, hk3⟩
  refine ⟨he3, (hI3.addL hyl hx (fun e => hne e.symm)).mono ?_⟩
  rintro e w4 ⟨he4, hI4, hk4⟩
  refine ⟨he4, K, hI4.congr (fun u z => ?_) (fun u z => ?_) (fun _ h => h), cells (cells hc2 hk3) hk4⟩
  · rw [← Eb_step hj, ← hy]
  · rw [← El_in hj h1 (by rw [← hy]; exact h2), ← hy]

/-- What the second loop has found out. -/
def ApS (R : Gr) (f i : Nat) (l : List Nat) (ap : Bool) (fv : Value) (wr : World) : Prop :=
  (fv = .slice none 0 0 ∧ ap = false ∧ ∀ z, z < i → l.getD z 0 = f) ∨
  ∃ x0 g D, x0 ≠ f ∧ Joined R f x0 ∧ fv = .slice (some ⟨g, 0, none⟩) R.length R.length ∧ 1 ≤ R.length ∧ wr.heap[g]? = some (.cells (ic D) 3 (0, 0)) ∧ D.length = R.length ∧ (∀ x, 0 ≤ dg D x ↔ Con R f x0 x) ∧
    (ap = true ↔ ∃ z, z < i ∧ l.getD z 0 ≠ f ∧ ¬ Con R f x0 (l.getD z 0))
theorem ApS.below {R : Gr} {f i : Nat} {l : List Nat} {ap : Bool} {fv : Value} {wr wr' : World} (h : ApS R f i l ap fv wr) (hb : Below wr.heap.size wr wr') : ApS R f i l ap fv wr' := by
  rcases h with h | ⟨x0, g, D, h1, h2, h3, h4, h5, h6⟩
  · exact .inl h
  · exact .inr ⟨x0, g, D, h1, h2, h3, h4, (hb.block g (blk_lt h5)).trans h5, h6⟩
/-- The node itself is passed by. -/
theorem ApS.pass {R : Gr} {f i : Nat} {l : List Nat} {ap : Bool} {fv : Value} {wr : World} (h : ApS R f i l ap fv wr) (he : l.getD i 0 = f) : ApS R f (i + 1) l ap fv wr := by
  rcases h with ⟨h1, h2, h3⟩ | ⟨x0, g, D, h1, h2, h3, h4, h5, h6, h7, h8⟩
  · refine .inl ⟨h1, h2, fun z hz => ?_⟩
    by_cases e : z = i
    · subst e; exact he
    · exact h3 z (by omega)
  · refine .inr ⟨x0, g, D, h1, h2, h3, h4, h5, h6, h7, h8.trans ⟨?_, ?_⟩⟩
    · rintro ⟨z, hz, h⟩
      exact ⟨z, by omega, h⟩
    · rintro ⟨z, hz, h9, h⟩
      by_cases e : z = i
      · subst e; exact absurd he h9
      · exact ⟨z, by omega, h9, h⟩
theorem ApS.cut {R : Gr} (hO : Ok R) {f : Nat} {l : List Nat} {ap : Bool} {fv : Value} {wr : World} (h : ApS R f l.length l ap fv wr) (hl : ∀ x, x ∈ l ↔ Joined R f x) : ap = true ↔ Cut R f := by
  have hg : ∀ x, x ∈ l → ∃ z, z < l.length ∧ l.getD z 0 = x := by
    intro x hx
    obtain ⟨z, hz, rfl⟩ := List.getElem_of_mem hx
    exact ⟨z, hz, by simp [List.getD, hz]⟩
  rcases h with ⟨_, rfl, h3⟩ | ⟨x0, g, D, h1, h2, h3, h4, h5, h6, h7, h8⟩
  · have := cut_none hO (v := f) (fun x hx => by
      obtain ⟨z, hz, rfl⟩ := hg x ((hl x).2 hx)
      exact h3 z hz)
    simp [this]
  · rw [h8, cut_first hO h1 h2]
    constructor
    · rintro ⟨z, hz, h9, h10⟩
      exact ⟨_, h9, (hl _).1 (getD_mem hz), h10⟩
    · rintro ⟨x, h9, h10, h11⟩
      obtain ⟨z, hz, rfl⟩ := hg x ((hl x).2 h10)
      exact ⟨z, hz, h9, h11⟩
theorem mem_upto {l : List Nat} {f : Nat} : (∃ z, z < l.length ∧ l.getD z 0 = f) ↔ f ∈ l :=
  ⟨fun ⟨_, hz, e⟩ => by rw [← e]; exact getD_mem hz, fun h => by
    obtain ⟨z, hz, rfl⟩ := List.getElem_of_mem h
    exact ⟨z, hz, by simp [List.getD, hz]⟩⟩

set_option maxHeartbeats 4000000 in
theorem jlaw_any {w : World} {A : Option Addr} {l : List Ed} {cap n a : Nat} (hE : EdgesAt w A l) (hl : l.length ≤ maxLen) (hn : n ≤ 255) (ha : a ≤ 255) :
    Calls Try.prog 5 #[.int .u8 (n : Int), .slice A l.length cap, .int .u8 (a : Int)] w fun e w' => e = .returned (.bool true) ∧ Below w.heap.size w w' := by
  have HE := Lib.hid hE
  have hL := hl
  unfold maxLen at hl
  clear hE
  obtain ⟨k, hk⟩ : ∃ k : Nat, k = 1 + n % 40 := ⟨_, rfl⟩
  obtain ⟨f, hf⟩ : ∃ f : Nat, f = a % k := ⟨_, rfl⟩
  have hk1 : 1 ≤ k := by omega
  have hk2 : k ≤ 40 := by omega
  have hfk : f < k := by rw [hf]; exact Nat.mod_lt _ hk1
  have ek : (1 : Int) + (n : Int) % 40 = (k : Int) := by omega
  have ef : (a : Int) % (k : Int) = (f : Int) := by rw [hf]; omega
  have EK := Lib.hid ek
  have EF := Lib.hid ef
  have HL := Lib.hid hL
  clear ek ef hk hf hL hl
  go_enter Try.func5, Try.ntmps5
  go_wp2_with fail
  refine (alive_any _).mono ?_
  rintro e w1 ⟨rfl, hb1⟩
  have HE1 := Lib.hid (HE.out.below hb1 (Nat.le_refl _))
  have HB1 := Lib.hid hb1
  clear hb1
  go_wp2_with (go_at_call 24; fail)
  rw [EK.out]
  refine (built_any (n := k) HE1.out HL.out (by omega)).mono ?_
  rintro e w2 ⟨b, rfl, S, hg, hS, hb2⟩
  have HG2 := Lib.hid hg
  have HS2 := Lib.hid hS
  have HB2 := Lib.hid (HB1.out.trans (hb2.mono HB1.out.size))
  have hO : Ok (Gq.built k l) := built_ok (by omega) l
  have hlen : (Gq.built k l).length = k := built_length k l
  have hz1 : Hid (w.heap.size ≤ w1.heap.size) := HB1.out.size
  clear hg hS hb2 HB1 HE HE1
  generalize Gq.built k l = R at *
  generalize hN : l.length = m at *
  have HO := Lib.hid hO
  have HLn := Lib.hid hlen
  clear hO hlen hN
  have HN : ∀ W : World, Calls Try.prog 24 #[.int .i64 (k : Int), .slice none 0 0] W fun e w' => ∃ b, e = .returned (.pointer (some ⟨b, 0, none⟩)) ∧ GraphPost W (Gq.built k []) b w' := fun W =>
    built_any (l := []) (A := none) (cap := 0) (n := k) (fun k hk => by simp at hk) (by simp) (by omega)
  have HN' := Lib.hid HN
  clear HN
  go_wp2_with fail
  refine (HN'.out _).mono ?_
  rintro e w3 ⟨bw, rfl, Sw, hgw, hSw, hb3⟩
  have HG3 := Lib.hid (HG2.out.below hb3 (Nat.le_refl _))
  have HW3 : Hid (GAt w3 bw (Gq.built k []) Sw ∧ (∀ k, Sw k → w2.heap.size ≤ k)) := ⟨hgw, hSw⟩
  have HB3 := Lib.hid (HB2.out.trans (hb3.mono HB2.out.size))
  clear hgw hSw hb3
  go_wp2_with fail
  refine (HN'.out _).mono ?_
  rintro e w4 ⟨bl, rfl, Sl, hgl, hSl, hb4⟩
  have HI4 : Hid (JnI w b bw bl R (Eb R 0 0) (El R f 0 0) (fun _ => False) w4) := by
    have g1 := HG3.out.below hb4 (Nat.le_refl _)
    have g2 := HW3.out.1.below hb4 (Nat.le_refl _)
    have hl2 := HG2.out.lt
    have hl3 := HW3.out.1.lt
    have hs3 := HW3.out.2
    have z2 := HB2.out.size
    have z3 := HB3.out.size
    have z1 := hz1.out
    have hs2 := HS2.out
    refine ⟨⟨_, _, S, Sw, Sl, g1, g2, hgl, built_ok (by omega) _, built_ok (by omega) _, by rw [built_length, HLn.out], by rw [built_length, HLn.out], fun u v => ?_, fun u v => ?_, fun k hk => ⟨fun h => ?_, fun h => ?_⟩, fun k hk h => ?_, ?_, fun k h => h.elim⟩, HB3.out.trans (hb4.mono HB3.out.size)⟩
    · have e : row (Gq.built k []) u = [] := row_none k u
      rw [e]
      exact ⟨fun h => by simp at h, fun h => h.elim (fun h => absurd h (Ea_zero _ _ _)) (fun h => absurd h (Ea_zero _ _ _))⟩
    · have e : row (Gq.built k []) u = [] := row_none k u
      rw [e]
      exact ⟨fun h => by simp at h, fun h => h.1.elim (fun h => absurd h (Ea_zero _ _ _)) (fun h => absurd h (Ea_zero _ _ _))⟩
    · have := hl2 k hk; have := hs3 k h; omega
    · have := hl2 k hk; have := hSl k h; have := HG3.out.lt k hk; omega
    · have := hl3 k hk; have := hSl k h; omega
    · rintro k (h | h | h)
      · have := hs2 k h; omega
      · have := hs3 k h; omega
      · have := hSl k h; omega
  clear hgl hSl hb4 HG2 HS2 HB2 HG3 HW3 HB3 HN' hz1
  by_cases hm : 300 < m
  · go_wp2
    go_ret
    exact ⟨rfl, HI4.out.lo⟩
  have HM : Hid (¬ 300 < m) := hm
  go_wp2_with fail
  clear hm
  try rw [EF.out]
  go_loopw [13] (fun u wr => ∃ x : Nat, x ≤ k ∧ u = .int .i64 (x : Int) ∧ JnI w b bw bl R (Eb R x 0) (El R f x 0) (fun _ => False) wr) (fun u _ => k - (intOf u).toNat)
  case atStart => exact ⟨0, Nat.zero_le _, rfl, HI4.out⟩
  case round =>
    obtain ⟨x, hx, rfl, hst⟩ := hrel
    clear HI4
    have HI := Lib.hid hst
    clear hst
    by_cases hlt : x < k
    · have x0 : (0 : Int) ≤ (x : Int) := by omega
      have x1 : (x : Int) < (k : Int) := by omega
      have HOut : Hid (Calls Try.prog 12 #[.pointer (some ⟨b, 0, none⟩), .int .i64 (x : Int)] wr fun e w' => ∃ A c, e = .returned (.slice A (row R x).length c) ∧ JnO w b bw bl R f x 0 A (row R x) w') := by
        obtain ⟨⟨W, L, S', Sw', Sl', h1, _⟩, _⟩ := HI.out
        refine (out_any h1 HO.out (a := x) (by rw [HLn.out]; exact hlt)).mono ?_
        rintro e w' ⟨v, rfl, hr, hf, hb⟩
        obtain ⟨A, c, rfl, _, _, hn, hc⟩ := hr.form
        refine ⟨A, c, rfl, fun g => A = some ⟨g, 0, none⟩ ∧ g < w'.heap.size, HI.out.keep hb (fun k hk => ⟨hf k (by rw [hk.1]; rfl), hk.2⟩), fun i hi => ?_⟩
        obtain ⟨g, e, hg, _⟩ := hc i hi
        exact ⟨g, e, ⟨e, World.block_lt_of_cell? _ _ hg⟩, hg⟩
      have hrl : (row R x).length ≤ k := by rw [← HLn.out]; exact HO.out.len x
      clear HI
      go_wp2_with fail
      refine HOut.out.mono ?_
      rintro e w5 ⟨A5, c5, rfl, hJ⟩
      have HJ := Lib.hid hJ
      clear hJ HOut
      obtain ⟨L5, hL5⟩ : ∃ L5, L5 = row R x := ⟨_, rfl⟩
      rw [← hL5] at HJ hrl ⊢
      have HL5 := Lib.hid hL5
      clear hL5
      generalize hs5 : L5.length = s5 at *
      have HS5 := Lib.hid hs5
      clear hs5
      go_wp2
      go_loopw [68] (fun u wr => ∃ j : Nat, j ≤ s5 ∧ u = .int .i64 (j : Int) ∧ JnO w b bw bl R f x j A5 L5 wr) (fun u _ => s5 - (intOf u).toNat)
      case atStart => exact ⟨0, Nat.zero_le _, rfl, HJ.out⟩
      case round =>
        obtain ⟨j, hj, rfl, hw⟩ := hrel
        clear HJ
        have HW := Lib.hid hw
        clear hw
        by_cases hjl : j < s5
        · obtain ⟨q, rfl, _, fa⟩ : ∃ g, A5 = some ⟨g, 0, none⟩ ∧ True ∧ wr.cell? ⟨g, j, none⟩ = some (.int .i64 ((L5.getD j 0 : Nat) : Int)) := by
            obtain ⟨K, _, hc⟩ := HW.out
            obtain ⟨g, e, _, h⟩ := hc j (by rw [HS5.out]; exact hjl)
            exact ⟨g, e, trivial, h⟩
          obtain ⟨y, hy⟩ : ∃ y, y = L5.getD j 0 := ⟨_, rfl⟩
          rw [← hy] at fa
          have HC := Lib.hid (jn_more HW.out HL5.out HO.out (by rw [HS5.out]; exact hjl) hy)
          clear HW hy
          have j0 : (0 : Int) ≤ (j : Int) := by omega
          have j1 : (j : Int) < (s5 : Int) := by omega
          go_wp2_with fail
          refine HC.out.mono ?_
          rintro e w6 ⟨⟨z6, rfl⟩, hc6⟩
          have HC6 := Lib.hid hc6
          clear hc6 HC fa
          go_wp2_with fail
          refine HC6.out.mono ?_
          rintro e w7 ⟨⟨z7, rfl⟩, hout, hin⟩
          have HOu := Lib.hid hout
          have HIn := Lib.hid hin
          clear hout hin HC6
          by_cases hxf : x = f
          · have e1 : (x != f) = false := by simpa using hxf
            have e2 : ((x : Int) == (f : Int)) = true := by simp [hxf]
            have HQ := Lib.hid (HOu.out (.inl hxf))
            have e3 : (x : Int) = (f : Int) := by omega
            have e4 : ((x : Int) != (f : Int)) = false := by simp [hxf]
            have e5 : decide ((x : Int) = (f : Int)) = true := decide_eq_true e3
            have e6 : decide (x = f) = true := decide_eq_true hxf
            clear HOu HIn hxf e3
            go_wp2
            go_roundw
            case rel => exact ⟨j + 1, by omega, by go_num, HQ.out⟩
            case measure => simp [intOf]; omega
          · have e1 : (x == f) = false := by simpa using hxf
            have e5 : decide (x = f) = false := decide_eq_false hxf
            have e2 : (x != f) = true := by simpa using hxf
            have e3 : ((x : Int) != (f : Int)) = true := by simp; omega
            by_cases hyf : y = f
            · have e6 : decide (y = f) = true := decide_eq_true hyf
              have HQ := Lib.hid (HOu.out (.inr hyf))
              have e7 : (y == f) = true := by simpa using hyf
              clear HOu HIn hyf
              go_wp2
              go_roundw
              case rel => exact ⟨j + 1, by omega, by go_num, HQ.out⟩
              case measure => simp [intOf]; omega
            · have HQ := Lib.hid (HIn.out hxf hyf)
              have e6 : decide (y = f) = false := decide_eq_false hyf
              have e8 : (y != f) = true := by simpa using hyf
              have e9 : ((y : Int) != (f : Int)) = true := by simp; omega
              have e7 : (y == f) = false := by simpa using hyf
              clear HOu HIn
              go_wp2_with fail
              refine HQ.out.mono ?_
              rintro e w8 ⟨⟨z8, rfl⟩, hc8⟩
              have HC8 := Lib.hid hc8
              clear hc8 HQ
              go_wp2_with fail
              refine HC8.out.mono ?_
              rintro e w9 ⟨⟨z9, rfl⟩, hc9⟩
              have HC9 := Lib.hid hc9
              clear hc9 HC8
              go_wp2
              go_roundw
              case rel => exact ⟨j + 1, by omega, by go_num, HC9.out⟩
              case measure => simp [intOf]; omega
        · obtain rfl : j = s5 := by omega
          have HI6 : Hid (JnI w b bw bl R (Eb R (x + 1) 0) (El R f (x + 1) 0) (fun _ => False) wr) := by
            obtain ⟨K, hI, _⟩ := HW.out
            have e : j = (row R x).length := by rw [← HL5.out, HS5.out]
            refine hI.congr (fun u v => ?_) (fun u v => ?_) (fun _ h => h.elim)
            · unfold Eb; rw [e, Ea_row, Ea_row]
            · unfold El Eb; rw [e, Ea_row, Ea_row]
          clear HW
          go_wp2
          go_roundw
          case rel => exact ⟨x + 1, by omega, by go_num, HI6.out⟩
          case measure => simp [intOf]; omega
    · have hxk : x = k := by omega
      have HI7 : Hid (JnI w b bw bl R (Eb R R.length 0) (El R f R.length 0) (fun _ => False) wr) := by
        rw [← hxk] at HLn
        show JnI _ _ _ _ _ _ _ _ _
        rw [HLn.out]
        exact HI.out
      clear HI
      have HRe : Hid (Calls Try.prog 17 #[.pointer (some ⟨bw, 0, none⟩), .int .i64 (f : Int)] wr fun e w' => ∃ A c l, e = .returned (.slice A (l : List Nat).length c) ∧ l.length ≤ maxLen ∧ (∀ x, x ∈ l ↔ Joined R f x) ∧ IsL w' (.slice A l.length c) (ints l) ∧ Below wr.heap.size wr w') := by
        obtain ⟨⟨W, L, S', Sw', Sl', h1, h2, h3, h4, h5, h6, h7, h8, h9, _⟩, _⟩ := HI7.out
        refine (reach_any h2 h4 (a := f) (by rw [h6, HLn.out]; exact hfk)).mono ?_
        rintro e w' ⟨v, rfl, hr, hf, hb⟩
        have hil := hr.isL
        obtain ⟨A, c, rfl, g1, g2, hn, hc⟩ := hr.form
        exact ⟨A, c, _, rfl, by omega, fun x => (mem_reach h4 (by rw [h6, HLn.out]; exact hfk) x).trans (pth_whole HO.out h8), hil, hb⟩
      have HDi : Hid (∀ W', Below wr.heap.size wr W' → ∀ y, y < R.length → y ≠ f → Calls Try.prog 13 #[.pointer (some ⟨bl, 0, none⟩), .int .i64 (y : Int)] W' fun e w' => ∃ g D, e = .returned (.slice (some ⟨g, 0, none⟩) R.length R.length) ∧ w'.heap[g]? = some (.cells (ic D) 3 (0, 0)) ∧ D.length = R.length ∧ (∀ x, 0 ≤ dg D x ↔ Con R f y x) ∧ dg D y = 0 ∧ Below W'.heap.size W' w') := by
        intro W' hW' y hy hyf
        obtain ⟨⟨W, L, S', Sw', Sl', h1, h2, h3, h4, h5, h6, h7, h8, h9, _⟩, _⟩ := (HI7.out.below hW')
        refine (dist_any h3 h5 (a := y) (by rw [h7]; exact hy)).mono ?_
        rintro e w' ⟨g, n', rfl, hn', hD, _, hb⟩
        have hfar := (distL_far h5 (a := y) (by rw [h7]; exact hy)).1
        obtain rfl : n' = R.length := hn'.trans (hfar.len.trans h7)
        exact ⟨g, _, rfl, hD, hn'.symm, fun x => (hfar.reach x).trans (pth_less HO.out h9 hyf), (hfar.zero y).2 rfl, hb⟩
      have HJo : Hid (∀ W', Below wr.heap.size wr W' → Calls Try.prog 20 #[.pointer (some ⟨b, 0, none⟩)] W' fun e w' => ∃ A c, e = .returned (.slice A (joiF R).length c) ∧ (joiF R).length ≤ maxLen ∧ IsL w' (.slice A (joiF R).length c) (ints (joiF R)) ∧ Below W'.heap.size W' w') := by
        intro W' hW'
        obtain ⟨⟨W, L, S', Sw', Sl', h1, _⟩, _⟩ := (HI7.out.below hW')
        refine (joints_any h1 HO.out).mono ?_
        rintro e w' ⟨v, rfl, hr, hf, hb⟩
        have hil := hr.isL
        obtain ⟨A, c, rfl, g1, g2, hn, hc⟩ := hr.form
        exact ⟨A, c, rfl, by omega, hil, hb⟩
      have HLo := Lib.hid HI7.out.lo
      have HCu : Hid (f ∈ joiF R ↔ Cut R f) := by
        show _ ↔ _
        rw [mem_joi HO.out]
        exact ⟨fun h => h.2, fun h => ⟨by rw [HLn.out]; exact hfk, h⟩⟩
      have HR1 : Hid (R.length = k) := HLn
      clear HI7 hxk
      go_wp2_with fail
      refine HRe.out.mono ?_
      rintro e w5 ⟨A5, c5, l5, rfl, hml, hmem, hil, hb5⟩
      have HMem := Lib.hid hmem
      have HIl := Lib.hid hil
      have HB5 := Lib.hid hb5
      have HNode : Hid (∀ x, x ∈ l5 → x < R.length) := fun x hx => by
        have h := (HMem.out x).1 hx
        by_cases e : x = f
        · rw [e, HLn.out]; exact hfk
        · have h' := h.symm HO.out
          cases h' with
          | refl _ => exact absurd rfl e
          | head _ h1 _ => exact adj_lt HO.out (adj_symm HO.out h1)
      unfold maxLen at hml
      clear hmem hil hb5 HRe
      generalize hs5 : l5.length = s5 at *
      have HS5 := Lib.hid hs5
      clear hs5
      go_wp2
      go_loopw [16, 17, 101] (fun ta tf u wr => ∃ (i : Nat) (ap : Bool), i ≤ s5 ∧ u = .int .i64 (i : Int) ∧ ta = .bool ap ∧ ApS R f i l5 ap tf wr ∧ Below w5.heap.size w5 wr) (fun _ _ u _ => s5 - (intOf u).toNat)
      case atStart => exact ⟨0, false, Nat.zero_le _, rfl, rfl, .inl ⟨rfl, rfl, fun z hz => by omega⟩, Below.refl _ _⟩
      case round =>
        obtain ⟨i, ap, hi, rfl, rfl, hap, hb⟩ := hrel
        have HAp := Lib.hid hap
        have HBr := Lib.hid hb
        clear hap hb
        by_cases hil : i < s5
        · obtain ⟨q, rfl, fa⟩ := isL_at (HIl.out.below HBr.out (Nat.le_refl _)) (j := i) (by rw [HS5.out]; exact hil)
          obtain ⟨y, hy⟩ : ∃ y, y = l5.getD i 0 := ⟨_, rfl⟩
          have hyn : y < k := by rw [← HR1.out, hy]; exact HNode.out _ (getD_mem (by rw [HS5.out]; exact hil))
          have HYJ : Hid (Joined R f y) := by show Cin _ _ _ _; rw [hy]; exact (HMem.out _).1 (getD_mem (by rw [HS5.out]; exact hil))
          rw [← hy] at fa
          have HY := Lib.hid hy
          clear hy
          have i0 : (0 : Int) ≤ (i : Int) := by omega
          have i1 : (i : Int) < (s5 : Int) := by omega
          by_cases hyf : y = f
          · have e1 : (y == f) = true := by simpa using hyf
            have e2 : decide (y = f) = true := decide_eq_true hyf
            have e3 : ((y : Int) == (f : Int)) = true := by simp [hyf]
            have HQ := Lib.hid (HAp.out.pass (by rw [← HY.out]; exact hyf))
            clear HAp hyf
            go_wp2
            go_roundw
            case rel => exact ⟨i + 1, ap, by omega, by go_num, rfl, HQ.out, HBr.out⟩
            case measure => simp [intOf]; omega
          · have e1 : (y == f) = false := by simpa using hyf
            have e2 : decide (y = f) = false := decide_eq_false hyf
            have e3 : ((y : Int) == (f : Int)) = false := by simp; omega
            rcases HAp.out with ⟨rfl, rfl, h3⟩ | ⟨x0, g, D, h1, h2, rfl, h4, h5, h6, h7, h8⟩
            · have HZ := Lib.hid h3
              have HD' := Lib.hid (HDi.out wr (HB5.out.trans (HBr.out.mono HB5.out.size)) y (by rw [HR1.out]; exact hyn) hyf)
              clear h3 HAp
              have HYF : Hid (¬ y = f) := hyf
              clear hyf
              go_wp2_with fail
              refine HD'.out.mono ?_
              rintro e w6 ⟨g6, D6, rfl, hd1, hd2, hd3, hd4, hb6⟩
              have fd := ic_cell hd1 (i := y) (by rw [hd2, HR1.out]; exact hyn)
              rw [hd4] at fd
              have HQ : Hid (ApS R f (i + 1) l5 false (.slice (some ⟨g6, 0, none⟩) R.length R.length) w6) := by
                refine .inr ⟨y, g6, D6, HYF.out, HYJ.out, rfl, by rw [HR1.out]; omega, hd1, hd2, hd3, ⟨fun h => (by cases h), ?_⟩⟩
                rintro ⟨z, hz, h9, h10⟩
                by_cases e : z = i
                · subst e
                  rw [← HY.out] at h10
                  exact absurd (.refl HYF.out) h10
                · exact absurd (HZ.out z (by omega)) h9
              have HB6 : Hid (Below w5.heap.size w5 w6) := HBr.out.trans (hb6.mono HBr.out.size)
              have y0 : (0 : Int) ≤ (y : Int) := by omega
              have y1 : (y : Int) < (k : Int) := by omega
              clear hd1 hd2 hd3 hd4 hb6 HD' HZ
              rw [HR1.out] at HQ ⊢
              go_wp2
              go_roundw
              case rel => exact ⟨i + 1, false, by omega, by go_num, rfl, HQ.out, HB6.out⟩
              case measure => simp [intOf]; omega
            · have fd := ic_cell h5 (i := y) (by rw [h6, HR1.out]; exact hyn)
              have HQ : Hid (∀ ap' : Bool, (ap' = true ↔ ap = true ∨ dg D y < 0) → ApS R f (i + 1) l5 ap' (.slice (some ⟨g, 0, none⟩) R.length R.length) wr) := by
                intro ap' hap'
                refine .inr ⟨x0, g, D, h1, h2, rfl, h4, h5, h6, h7, hap'.trans ?_⟩
                have hneg : dg D y < 0 ↔ ¬ Con R f x0 y := by rw [← h7]; omega
                rw [hneg, h8]
                constructor
                · rintro (⟨z, hz, h9, h10⟩ | h)
                  · exact ⟨z, by omega, h9, h10⟩
                  · exact ⟨i, by omega, by rw [← HY.out]; exact hyf, by rw [← HY.out]; exact h⟩
                · rintro ⟨z, hz, h9, h10⟩
                  by_cases e : z = i
                  · subst e; right; rw [HY.out]; exact h10
                  · exact .inl ⟨z, by omega, h9, h10⟩
              have hr1 : ¬ k = 0 := by omega
              have hr2 : (k == 0) = false := by simpa using hr1
              have hr3 : decide (k = 0) = false := decide_eq_false hr1
              have y0 : (0 : Int) ≤ (y : Int) := by omega
              have y1 : (y : Int) < (k : Int) := by omega
              clear h1 h2 h4 h5 h6 h7 h8 HAp HYJ hyf
              rw [HR1.out] at HQ ⊢
              generalize dg D y = d at *
              cases ap with
              | true =>
                clear fd
                have HQ2 := Lib.hid (HQ.out true (by simp))
                clear HQ
                go_wp2
                go_roundw
                case rel => exact ⟨i + 1, true, by omega, by go_num, rfl, HQ2.out, HBr.out⟩
                case measure => simp [intOf]; omega
              | false =>
                by_cases hd : d < 0
                · have e4 : decide (d < 0) = true := decide_eq_true hd
                  have HQ2 := Lib.hid (HQ.out true (by simp [hd]))
                  clear HQ
                  go_wp2
                  go_roundw
                  case rel => exact ⟨i + 1, true, by omega, by go_num, rfl, HQ2.out, HBr.out⟩
                  case measure => simp [intOf]; omega
                · have e4 : decide (d < 0) = false := decide_eq_false hd
                  have HQ2 := Lib.hid (HQ.out false (by simp [hd]))
                  clear HQ
                  go_wp2
                  go_roundw
                  case rel => exact ⟨i + 1, false, by omega, by go_num, rfl, HQ2.out, HBr.out⟩
                  case measure => simp [intOf]; omega
        · obtain rfl : i = s5 := by omega
          have HCut : Hid (ap = true ↔ Cut R f) := by
            have h := HAp.out
            rw [← HS5.out] at h
            exact h.cut HO.out HMem.out
          clear HAp
          go_wp2_with fail
          refine (HJo.out _ (HB5.out.trans (HBr.out.mono HB5.out.size))).mono ?_
          rintro e w6 ⟨A6, c6, rfl, hjl, hji, hb6⟩
          have HJi := Lib.hid hji
          have HB6 : Hid (Below w.heap.size w w6) := HLo.out.trans (((HB5.out.trans (HBr.out.mono HB5.out.size)).trans (hb6.mono (Nat.le_trans HB5.out.size HBr.out.size))).mono HLo.out.size)
          unfold maxLen at hjl
          clear hji hb6 HDi HJo
          generalize joiF R = l6 at *
          generalize hs6 : l6.length = s6 at *
          have HS6 := Lib.hid hs6
          clear hs6
          go_wp2
          go_loopw [20, 126] (fun ta u wr => ∃ (z : Nat) (is : Bool), z ≤ s6 ∧ u = .int .i64 (z : Int) ∧ ta = .bool is ∧ (is = true ↔ ∃ z', z' < z ∧ l6.getD z' 0 = f) ∧ Still w6 wr) (fun _ u _ => s6 - (intOf u).toNat)
          case atStart => exact ⟨0, false, Nat.zero_le _, rfl, rfl, ⟨fun h => (by cases h), fun ⟨z', h, _⟩ => by omega⟩, Kept.refl _ _⟩
          case round =>
            obtain ⟨z, is, hz, rfl, rfl, his, hw⟩ := hrel
            have HIs := Lib.hid his
            have HW := Lib.hid hw
            clear his hw
            by_cases hzl : z < s6
            · obtain ⟨q, rfl, fa⟩ := isL_at (HJi.out.still HW.out) (j := z) (by rw [HS6.out]; exact hzl)
              have HNx : Hid (∀ is' : Bool, (is' = true ↔ is = true ∨ l6.getD z 0 = f) → (is' = true ↔ ∃ z', z' < z + 1 ∧ l6.getD z' 0 = f)) := by
                intro is' h
                rw [h, HIs.out]
                constructor
                · rintro (⟨z', h1, h2⟩ | h1)
                  · exact ⟨z', by omega, h2⟩
                  · exact ⟨z, by omega, h1⟩
                · rintro ⟨z', h1, h2⟩
                  by_cases e : z' = z
                  · subst e; exact .inr h2
                  · exact .inl ⟨z', by omega, h2⟩
              generalize l6.getD z 0 = y at *
              have z0 : (0 : Int) ≤ (z : Int) := by omega
              have z1 : (z : Int) < (s6 : Int) := by omega
              cases is with
              | true =>
                have HQ := Lib.hid (HNx.out true (by simp))
                clear HNx
                go_wp2
                go_roundw
                case rel => exact ⟨z + 1, true, by omega, by go_num, rfl, HQ.out, HW.out⟩
                case measure => simp [intOf]; omega
              | false =>
                by_cases hyf : y = f
                · have e1 : (y == f) = true := by simpa using hyf
                  have e2 : decide (y = f) = true := decide_eq_true hyf
                  have e3 : ((y : Int) == (f : Int)) = true := by simp [hyf]
                  have HQ := Lib.hid (HNx.out true (by simp [hyf]))
                  clear HNx hyf
                  go_wp2
                  go_roundw
                  case rel => exact ⟨z + 1, true, by omega, by go_num, rfl, HQ.out, HW.out⟩
                  case measure => simp [intOf]; omega
                · have e1 : (y == f) = false := by simpa using hyf
                  have e2 : decide (y = f) = false := decide_eq_false hyf
                  have e3 : ((y : Int) == (f : Int)) = false := by simp; omega
                  have HQ := Lib.hid (HNx.out false (by simp [hyf]))
                  clear HNx hyf
                  go_wp2
                  go_roundw
                  case rel => exact ⟨z + 1, false, by omega, by go_num, rfl, HQ.out, HW.out⟩
                  case measure => simp [intOf]; omega
            · obtain rfl : z = s6 := by omega
              obtain rfl : is = ap := by
                rw [Bool.eq_iff_iff, HIs.out, HCut.out, ← HCu.out, ← mem_upto, HS6.out]
              have HE : Hid (Below w.heap.size w wr) := HB6.out.trans (HW.out.below (fun _ h => h.elim) HB6.out.size)
              clear HIs HCut HW
              cases is with
              | true =>
                go_wp2
                go_ret
                exact ⟨rfl, HE.out⟩
              | false =>
                go_wp2
                go_ret
                exact ⟨rfl, HE.out⟩
end Go.Proofs.Ytlcadkhhpnaofaa
