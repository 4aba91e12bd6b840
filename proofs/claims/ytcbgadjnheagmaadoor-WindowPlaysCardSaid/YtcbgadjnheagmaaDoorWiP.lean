/-
  The law WindowPlays: both windows, side by side.
-/
import Derived.Test.YtcbgadjnheagmaaDoorWiT
import Derived.Deep.RegionHeld3
namespace Go.Proofs.YtcbgadjnheagmaaDoor
set_option maxRecDepth 100000
set_option linter.unusedSimpArgs false
open Go Go.RowKit

/-- The document's window, its list's block below B. -/
def RefB (w : World) (r base B : Nat) (L : List Nat) : Prop := r < base ∧ ∃ v, w.heap[r]? = some (.cells #[.int .u32 0, v] 30 (0, 0)) ∧ w.ownsRow base 23 1 v L.length (L.map u32V) ∧ ∀ k, v.ownBlock = some k → k < B
theorem RefB.at_ {w : World} {r base B : Nat} {L : List Nat} (h : RefB w r base B L) : RefAt w r base L := by
  obtain ⟨h0, v, h1, h2, _⟩ := h
  exact ⟨h0, v, h1, h2⟩
theorem RefAt.b {w : World} {r base : Nat} {L : List Nat} (h : RefAt w r base L) : RefB w r base w.heap.size L := by
  obtain ⟨h0, v, h1, h2⟩ := h
  exact ⟨h0, v, h1, h2, fun k e => (h2.lt k e).2⟩
theorem RefB.kept {w w' : World} {r base B : Nat} {L : List Nat} {X : Nat → Prop} (h : RefB w r base B L) (hk : Kept X w w') (hr : ¬ X r) (hX : ∀ k, k < B → ¬ X k) : RefB w' r base B L := by
  obtain ⟨h0, v, h1, h2, h3⟩ := h
  exact ⟨h0, v, (hk.block r (blk_lt h1) hr).trans h1, hk.row h2 (fun g e => hX g (h3 g e)), h3⟩

/-- Both windows, and what was told of the one. -/
structure PlS (w : World) (b l e : Nat) (L : List Nat) (va vb : Value) (B : Nat) (W : World) : Prop where
  win : WinI w b l e W
  ref : RefB W (b + 1) (b + 2) B L
  rep : Wd.Rep l e L
  len : L.length ≤ 10000
  bB : b + 2 ≤ B
  sz : B ≤ W.heap.size
  rowA : W.ownsRow B 23 1 va (Wd.early l e).length ((Wd.early l e).map u32V)
  isB : IsU W vb (Wd.miss l e)
section
variable {w W W' : World} {b l e B : Nat} {L : List Nat} {va vb v : Value}
theorem PlS.still (h : PlS w b l e L va vb B W) (hb : Below W.heap.size W W') : PlS w b l e L va vb B W' :=
  ⟨h.win.still hb, h.ref.kept (still_of hb) id (fun _ _ => id), h.rep, h.len, h.bB, Nat.le_trans h.sz hb.size, (still_of hb).row h.rowA (fun _ _ => id), h.isB.kept (still_of hb) (fun _ _ => id)⟩
theorem below_drewN (W : World) (n : Nat) : Below W.heap.size W (W.drewN n) := ⟨rfl, rfl, rfl, Nat.le_refl _, fun _ _ => rfl⟩
theorem PlS.last (h : PlS w b l e L va vb B W) : Calls Tryd.prog 14 #[.pointer (some ⟨b, 0, none⟩)] W fun x W' => x = .returned (.int .u32 (l : Nat)) ∧ PlS w b l e L va vb B W' ∧ Below W.heap.size W W' :=
  (last_any h.win.win).mono (by rintro x w' ⟨rfl, rfl⟩; exact ⟨rfl, h, Below.refl _ _⟩)
theorem PlS.behindT (h : PlS w b l e L va vb B W) : Calls Tryd.prog 16 #[.pointer (some ⟨b + 1, 0, none⟩), .bool true] W fun x W' => ∃ v, x = .returned v ∧ IsU W' v (Wd.early l e) ∧ PlS w b l e L va vb B W' ∧ Below W.heap.size W W' :=
  (rbehind_any h.ref.at_ h.rep h.len true).mono (by rintro x w' ⟨v, rfl, h1, h2⟩; exact ⟨v, rfl, IsU.of_row h1, h.still h2, h2⟩)
theorem PlS.behindF (h : PlS w b l e L va vb B W) : Calls Tryd.prog 16 #[.pointer (some ⟨b + 1, 0, none⟩), .bool false] W fun x W' => ∃ v, x = .returned v ∧ IsU W' v (Wd.miss l e) ∧ PlS w b l e L va vb B W' ∧ Below W.heap.size W W' :=
  (rbehind_any h.ref.at_ h.rep h.len false).mono (by rintro x w' ⟨v, rfl, h1, h2⟩; exact ⟨v, rfl, IsU.of_row h1, h.still h2, h2⟩)
theorem early_len (l e : Nat) : (Wd.early l e).length ≤ 64 := by unfold Wd.early; rw [List.length_map]; exact Wd.posE_length e
theorem miss_len (l e : Nat) : (Wd.miss l e).length ≤ 64 := by unfold Wd.miss; rw [List.length_map]; exact Wd.posM_length e
theorem PlS.sameA (h : PlS w b l e L va vb B W) (hv : IsU W v (Wd.early l e)) : Calls Tryd.prog 15 #[va, v] W fun x W' => x = .returned (.bool true) ∧ PlS w b l e L va vb B W' ∧ Below W.heap.size W W' :=
  (same_any (IsU.of_row h.rowA) hv (by have := early_len l e; omega)).mono (by
    rintro x w' ⟨rfl, h1⟩
    have h2 : Below W.heap.size W w' := h1.below (fun _ h => h.elim) (Nat.le_refl _)
    exact ⟨by rw [decide_eq_true rfl], h.still h2, h2⟩)
theorem PlS.sameB (h : PlS w b l e L va vb B W) (hv : IsU W v (Wd.miss l e)) : Calls Tryd.prog 15 #[vb, v] W fun x W' => x = .returned (.bool true) ∧ PlS w b l e L va vb B W' ∧ Below W.heap.size W W' :=
  (same_any h.isB hv (by have := miss_len l e; omega)).mono (by
    rintro x w' ⟨rfl, h1⟩
    have h2 : Below W.heap.size W w' := h1.below (fun _ h => h.elim) (Nat.le_refl _)
    exact ⟨by rw [decide_eq_true rfl], h.still h2, h2⟩)
theorem PlS.has (h : PlS w b l e L va vb B W) {n : Nat} (hn : n ≤ 4294967295) : Calls Tryd.prog 17 #[.pointer (some ⟨b, 0, none⟩), .int .u32 (n : Nat)] W fun x W' => x = .returned (.bool (Wd.has l e n)) ∧ PlS w b l e L va vb B W' ∧ Below W.heap.size W W' :=
  (has_any h.win.win h.win.ok.he hn).mono (by rintro x w' ⟨rfl, k, rfl⟩; exact ⟨rfl, h.still (below_drewN _ _), below_drewN _ _⟩)
theorem PlS.rhas (h : PlS w b l e L va vb B W) (n : Nat) : Calls Tryd.prog 18 #[.pointer (some ⟨b + 1, 0, none⟩), .int .u32 (n : Nat)] W fun x W' => x = .returned (.bool (Wd.has l e n)) ∧ PlS w b l e L va vb B W' ∧ Below W.heap.size W W' :=
  (rhas_any h.ref.at_ (by have := h.len; omega)).mono (by rintro x w' ⟨rfl, rfl⟩; exact ⟨by rw [h.rep.rep], h, Below.refl _ _⟩)
end

/-- Between two numbers. -/
structure PlI (w : World) (b j l e : Nat) (L : List Nat) (W : World) : Prop where
  win : WinI w b l e W
  ref : RefAt W (b + 1) (b + 2) L
  rep : Wd.Rep l e L
  len : L.length ≤ j
  le : l ≤ 64 * j
  sz : b + 2 ≤ W.heap.size

/-- While what was told is written over. -/
structure PlE (w : World) (b l e : Nat) (L : List Nat) (va : Value) (n B : Nat) (W : World) : Prop where
  win : WinI w b l e W
  ref : RefB W (b + 1) (b + 2) B L
  bB : b + 2 ≤ B
  sz : B ≤ W.heap.size
  row : ∃ xs, W.ownsRow B 23 1 va n xs

theorem plays_long {w : World} {A : Option Addr} {n cap : Nat} {m : Int} (hn : 200 < n) :
    Calls Tryd.prog 3 #[.slice A n cap, .int .u32 m] w fun e w' => e = .returned (.bool true) ∧ Below w.heap.size w w' := by
  have e1 : decide ((200 : Int) < (n : Int)) = true := by simp; omega
  have e2 : decide (200 < n) = true := by simpa using hn
  clear hn
  go_enter Tryd.func3, Tryd.ntmps3
  go_wp2
  go_ret
  exact ⟨rfl, Below.refl _ _⟩

set_option maxHeartbeats 2000000 in
theorem plays_few {w : World} {A : Option Addr} {Ls : List Nat} {cap m : Nat} (hT : Tab w) (hn : Ls.length ≤ 200) (hA : NumsAt .u32 w A Ls) (hL : ∀ x ∈ Ls, x ≤ 4294967295) (hm : m ≤ 4294967295) :
    Calls Tryd.prog 3 #[.slice A Ls.length cap, .int .u32 (m : Nat)] w fun e w' => e = .returned (.bool true) ∧ Below w.heap.size w w' := by
  have HN : Hid (∀ W j, Below w.heap.size w W → j < Ls.length → ∃ a, A = some a ∧ W.cell? (a.add j) = some (.int .u32 ((Ls.getD j 0 : Nat) : Int)) ∧ Ls.getD j 0 ≤ 4294967295) := by
    intro W j hb hj
    obtain ⟨a, h1, _, h2⟩ := (hA.below hb (Nat.le_refl _)) j hj
    refine ⟨a, h1, h2, hL _ ?_⟩
    rw [List.getD_eq_getElem?_getD, List.getElem?_eq_getElem hj]
    exact List.getElem_mem hj
  have HT := Lib.hid hT
  have HMM := Lib.hid hm
  obtain ⟨N, hN⟩ : ∃ N, N = Ls.length := ⟨_, rfl⟩
  rw [← hN] at hn HN ⊢
  have e1 : decide ((200 : Int) < (N : Int)) = false := by simp; omega
  have e2 : decide (200 < N) = false := by simp; omega
  have HNN := Lib.hid hn
  obtain ⟨w2, hw2⟩ : ∃ w2, (w.alloc (.cells #[.int .u32 0, .int .u64 0] 27)).alloc (.cells #[.int .u32 0, .slice none 0 0] 30) = w2 := ⟨_, rfl⟩
  have hb2 : Below w.heap.size w w2 := by rw [← hw2]; exact ((Below.refl _ w).alloc (Nat.le_refl _) _).alloc (by simp) _
  have q1 : WinAt w2 w.heap.size 0 0 := by rw [← hw2]; exact (Below.heap_alloc _ _ _ (by simp)).trans (heap_alloc_new w _)
  have q2 : w2.heap[w.heap.size + 1]? = some (.cells #[.int .u32 0, .slice none 0 0] 30 (0, 0)) := by
    rw [← hw2]
    have := heap_alloc_new (w.alloc (.cells #[.int .u32 0, .int .u64 0] 27)) (.cells #[.int .u32 0, .slice none 0 0] 30)
    rw [World.size_alloc] at this
    exact this
  have hz2 : w2.heap.size = w.heap.size + 2 := by rw [← hw2]; simp
  have HS : Hid (∃ (j l e : Nat) (L : List Nat), j ≤ N ∧ (Value.int .i64 0) = .int .i64 (j : Int) ∧ PlI w w.heap.size j l e L w2) :=
    ⟨0, 0, 0, [], Nat.zero_le _, rfl, ⟨⟨q1, Wd.ok_zero, hb2, Nat.le_refl _⟩, ⟨by omega, _, q2, World.ownsRow_nil _ _ _ _⟩, Wd.Rep.zero, Nat.le_refl _, by omega, by omega⟩⟩
  clear hT hn hA hL hN hm hb2 q1 q2 hz2
  go_enter Tryd.func3, Tryd.ntmps3
  go_wp2
  go_loopw [24] (fun i wr => ∃ (j l e : Nat) (L : List Nat), j ≤ N ∧ i = .int .i64 (j : Int) ∧ PlI w w.heap.size j l e L wr) (fun i _ => N - (intOf i).toNat)
  case atStart => exact HS.out
  case round =>
    obtain ⟨j, l, e, L, hj, rfl, hI⟩ := hrel
    rename World => V
    clear HS hw2
    by_cases hjN : j < N
    · obtain ⟨a, rfl, hc, hx⟩ := HN.out V j hI.win.below hjN
      generalize hxd : Ls.getD j 0 = x at *
      have q0 : (0 : Int) ≤ (j : Int) := by omega
      have q1 : (j : Int) < (N : Int) := by omega
      have q2 : IntKind.i64.wrap ((j : Int) + 1) = (j : Int) + 1 := IntWalk.i64_in _ (by have := HNN.out; omega)
      have HM := Lib.hid (hI.win.meet_c HT.out hx)
      have HJ := Lib.hid hjN
      have HII := Lib.hid hI
      have HHX := Lib.hid hx
      have HXD := Lib.hid hxd
      clear hI hj hjN hx hxd
      go_wp2_with fail
      refine HM.out.mono ?_
      rintro y w3 ⟨rfl, hI3, hk3⟩
      obtain ⟨a', ha', hc3, _⟩ := HN.out w3 j hI3.below HJ.out
      cases ha'
      rw [HXD.out] at hc3
      have hr3 := HII.out.ref.kept hk3 (by omega) (fun k h1 _ h2 => by omega)
      have hz3 : w.heap.size + 2 ≤ w3.heap.size := Nat.le_trans HII.out.sz hk3.size
      have HRM := Lib.hid (rmeet_any hr3 hz3 HII.out.rep (by have := HII.out.len; have := HJ.out; have := HNN.out; omega) HHX.out)
      have HI3 := Lib.hid hI3
      have HZ3 := Lib.hid hz3
      have dcc : ∀ z : Int, (z != z) = false := fun z => by simp
      have dcd := dcc (Wd.code l e x : Int)
      clear hI3 hk3 hr3 hz3 HM dcc
      go_wp2_with fail
      refine HRM.out.mono ?_
      rintro y w4 ⟨rfl, hr4, hk4⟩
      have hI4 : WinI w w.heap.size (Wd.nl l e x) (Wd.ne l e x) w4 := ⟨HI3.out.win.kept hk4 (by omega), HI3.out.ok, HI3.out.below.trans (hk4.below (fun k h => by omega) HI3.out.below.size), HI3.out.hb⟩
      have hp4 : PlI w w.heap.size (j + 1) (Wd.nl l e x) (Wd.ne l e x) (Wd.putL l e L x) w4 :=
        ⟨hI4, hr4, HII.out.rep.step HHX.out, Nat.le_trans (Wd.putL_len _ _ _ _) (by have := HII.out.len; omega), by have := Wd.nl_le HII.out.win.ok (n := x); have := HII.out.le; omega, Nat.le_trans HZ3.out hk4.size⟩
      clear hI4 hr4 hk4 HRM HII HI3 HZ3
      generalize Wd.nl l e x = l1 at *
      generalize Wd.ne l e x = e1 at *
      generalize Wd.putL l e L x = L1 at *
      have hl1 : l1 ≤ 20000 := by have := hp4.le; have := HJ.out; have := HNN.out; omega
      have hL1 : L1.length ≤ 10000 := by have := hp4.len; have := HJ.out; have := HNN.out; omega
      have HLA := Lib.hid (rlast_any hp4.ref hp4.rep hL1)
      have HNX := Lib.hid (next_any hp4.win.win (by omega))
      have HEA := Lib.hid (early_any hp4.win.win hp4.win.ok)
      have w1 : IntKind.u32.wrap ((l1 : Int) + 1) = (l1 : Int) + 1 := u32_in (by omega) (by omega)
      have d5 : ((l1 : Int) != (l1 : Int)) = false := by simp
      have d6 : ((l1 : Int) + 1 != (l1 : Int) + 1) = false := by simp
      have HP4 := Lib.hid hp4
      have HL1 := Lib.hid hL1
      clear hp4 hl1 hL1
      go_wp2_with fail
      refine HLA.out.mono ?_
      rintro y w5 ⟨rfl, hw5⟩
      rw [hw5]
      clear hw5 w5 HLA
      go_wp2_with fail
      refine HNX.out.mono ?_
      rintro y w5 ⟨rfl, hw5⟩
      rw [hw5]
      clear hw5 w5 HNX
      go_wp2_with fail
      refine HEA.out.mono ?_
      rintro y w5 ⟨va, rfl, ho5, hb5⟩
      have hI5 := HP4.out.win.still hb5
      have HMI := Lib.hid (missing_any hI5.win hI5.ok)
      have HO5 := Lib.hid (And.intro ho5 hb5)
      clear ho5 hb5 HEA hI5
      go_wp2_with fail
      refine HMI.out.mono ?_
      rintro y w6 ⟨vb, rfl, ho6, hb6⟩
      have P6 : PlS w w.heap.size l1 e1 L1 va vb w4.heap.size w6 := by
        have k5 := still_of HO5.out.2
        have k6 := still_of hb6
        refine ⟨(HP4.out.win.still HO5.out.2).still hb6, (HP4.out.ref.b.kept k5 id (fun _ _ => id)).kept k6 id (fun _ _ => id), HP4.out.rep, HL1.out, HP4.out.sz, Nat.le_trans k5.size k6.size, k6.row HO5.out.1 (fun _ _ => id), IsU.of_row ho6⟩
      clear ho6 hb6 HMI HO5
      have HP6 := Lib.hid P6
      have HCE : Hid (∀ W, Below w.heap.size w W → W.cell? (a.add j) = some (.int .u32 (x : Nat))) := fun W hb => by
        obtain ⟨a', ha', hc', _⟩ := HN.out W j hb HJ.out
        cases ha'
        rw [HXD.out] at hc'
        exact hc'
      have P7 : PlS w w.heap.size l1 e1 L1 va vb w4.heap.size w6.drew := P6.still (Below.refl _ _).drew
      have C7 := HCE.out _ P7.win.below
      have G1 : Hid (∀ W, PlS w w.heap.size l1 e1 L1 va vb w4.heap.size W → Calls Tryd.prog 14 #[.pointer (some ⟨w.heap.size, 0, none⟩)] W fun x W' => x = .returned (.int .u32 (l1 : Nat)) ∧ PlS w w.heap.size l1 e1 L1 va vb w4.heap.size W' ∧ Below W.heap.size W W') := fun W h => h.last
      have G2 : Hid (∀ W, PlS w w.heap.size l1 e1 L1 va vb w4.heap.size W → Calls Tryd.prog 16 #[.pointer (some ⟨w.heap.size + 1, 0, none⟩), .bool true] W fun x W' => ∃ v, x = .returned v ∧ IsU W' v (Wd.early l1 e1) ∧ PlS w w.heap.size l1 e1 L1 va vb w4.heap.size W' ∧ Below W.heap.size W W') := fun W h => h.behindT
      have G3 : Hid (∀ W v, PlS w w.heap.size l1 e1 L1 va vb w4.heap.size W → IsU W v (Wd.early l1 e1) → Calls Tryd.prog 15 #[va, v] W fun x W' => x = .returned (.bool true) ∧ PlS w w.heap.size l1 e1 L1 va vb w4.heap.size W' ∧ Below W.heap.size W W') := fun W v h hv => h.sameA hv
      have G4 : Hid (∀ W, PlS w w.heap.size l1 e1 L1 va vb w4.heap.size W → Calls Tryd.prog 16 #[.pointer (some ⟨w.heap.size + 1, 0, none⟩), .bool false] W fun x W' => ∃ v, x = .returned v ∧ IsU W' v (Wd.miss l1 e1) ∧ PlS w w.heap.size l1 e1 L1 va vb w4.heap.size W' ∧ Below W.heap.size W W') := fun W h => h.behindF
      have G5 : Hid (∀ W v, PlS w w.heap.size l1 e1 L1 va vb w4.heap.size W → IsU W v (Wd.miss l1 e1) → Calls Tryd.prog 15 #[vb, v] W fun x W' => x = .returned (.bool true) ∧ PlS w w.heap.size l1 e1 L1 va vb w4.heap.size W' ∧ Below W.heap.size W W') := fun W v h hv => h.sameB hv
      obtain ⟨t1, ht1⟩ : ∃ t, t = Wd.has l1 e1 m := ⟨_, rfl⟩
      obtain ⟨t2, ht2⟩ : ∃ t, t = Wd.has l1 e1 x := ⟨_, rfl⟩
      have G6 : Hid (∀ W, PlS w w.heap.size l1 e1 L1 va vb w4.heap.size W → Calls Tryd.prog 17 #[.pointer (some ⟨w.heap.size, 0, none⟩), .int .u32 (m : Nat)] W fun x W' => x = .returned (.bool t1) ∧ PlS w w.heap.size l1 e1 L1 va vb w4.heap.size W' ∧ Below W.heap.size W W') := fun W h => by rw [ht1]; exact h.has HMM.out
      have G7 : Hid (∀ W, PlS w w.heap.size l1 e1 L1 va vb w4.heap.size W → Calls Tryd.prog 18 #[.pointer (some ⟨w.heap.size + 1, 0, none⟩), .int .u32 (m : Nat)] W fun x W' => x = .returned (.bool t1) ∧ PlS w w.heap.size l1 e1 L1 va vb w4.heap.size W' ∧ Below W.heap.size W W') := fun W h => by rw [ht1]; exact h.rhas m
      have G8 : Hid (∀ W, PlS w w.heap.size l1 e1 L1 va vb w4.heap.size W → Calls Tryd.prog 17 #[.pointer (some ⟨w.heap.size, 0, none⟩), .int .u32 (x : Nat)] W fun y W' => y = .returned (.bool t2) ∧ PlS w w.heap.size l1 e1 L1 va vb w4.heap.size W' ∧ Below W.heap.size W W') := fun W h => by rw [ht2]; exact h.has HHX.out
      have G9 : Hid (∀ W, PlS w w.heap.size l1 e1 L1 va vb w4.heap.size W → Calls Tryd.prog 18 #[.pointer (some ⟨w.heap.size + 1, 0, none⟩), .int .u32 (x : Nat)] W fun y W' => y = .returned (.bool t2) ∧ PlS w w.heap.size l1 e1 L1 va vb w4.heap.size W' ∧ Below W.heap.size W W') := fun W h => by rw [ht2]; exact h.rhas x
      have d7 : (t1 != t1) = false := by simp
      have d8 : (t2 != t2) = false := by simp
      clear P6 ht1 ht2 hc hc3
      go_wp2_with fail
      go_region_held3 (fun W => W.cell? (a.add j) = some (.int .u32 (x : Nat))) (first | exact C7 | exact C8 | exact C9 | exact C10 | exact C11 | exact C12 | exact C13 | exact C14 | exact C15 | exact C16) (first
        | (go_at_call 14; with_reducible refine (G1.out _ P7).mono ?_; rintro y w8 ⟨rfl, P8, _⟩; have C8 := HCE.out _ P8.win.below)
        | (go_at_call 16; with_reducible refine (G2.out _ P8).mono ?_; rintro y w9 ⟨v9, rfl, I9, P9, _⟩; have C9 := HCE.out _ P9.win.below)
        | (go_at_call 15; with_reducible refine (G3.out _ _ P9 I9).mono ?_; rintro y w10 ⟨rfl, P10, _⟩; have C10 := HCE.out _ P10.win.below)
        | (go_at_call 16; with_reducible refine (G4.out _ P10).mono ?_; rintro y w11 ⟨v11, rfl, I11, P11, _⟩; have C11 := HCE.out _ P11.win.below)
        | (go_at_call 15; with_reducible refine (G5.out _ _ P11 I11).mono ?_; rintro y w12 ⟨rfl, P12, _⟩; have C12 := HCE.out _ P12.win.below)
        | (go_at_call 17; with_reducible refine (G6.out _ P12).mono ?_; rintro y w13 ⟨rfl, P13, _⟩; have C13 := HCE.out _ P13.win.below)
        | (go_at_call 18; with_reducible refine (G7.out _ P13).mono ?_; rintro y w14 ⟨rfl, P14, _⟩; have C14 := HCE.out _ P14.win.below)
        | (go_at_call 17; with_reducible refine (G8.out _ P14).mono ?_; rintro y w15 ⟨rfl, P15, _⟩; have C15 := HCE.out _ P15.win.below)
        | (go_at_call 18; with_reducible refine (G9.out _ P15).mono ?_; rintro y w16 ⟨rfl, P16, _⟩; have C16 := HCE.out _ P16.win.below))
      have HIJ : Hid (L1.length ≤ j + 1 ∧ l1 ≤ 64 * (j + 1)) := ⟨HP4.out.len, HP4.out.le⟩
      have HPE : Hid (∀ W n, n = (Wd.early l1 e1).length → PlS w w.heap.size l1 e1 L1 va vb w4.heap.size W → PlE w w.heap.size l1 e1 L1 va n w4.heap.size W) := fun W n hn h => by subst hn; exact ⟨h.win, h.ref, h.bB, h.sz, _, h.rowA⟩
      obtain ⟨n, hn⟩ : ∃ n, n = (Wd.early l1 e1).length := ⟨_, rfl⟩
      have hnb : n ≤ 64 := by rw [hn]; exact early_len _ _
      have HRp := Lib.hid P16.rep
      have HE16 := HPE.out _ n hn P16
      obtain ⟨xs, hxs⟩ := HE16.row
      obtain ⟨aa, ca, rfl⟩ : ∃ aa ca, va = .slice aa n ca := by
        rcases hxs.2 with ⟨rfl, h0⟩ | ⟨g, cap, cur, rfl, _⟩
        · subst h0; exact ⟨_, _, rfl⟩
        · exact ⟨_, _, rfl⟩
      have HQ16 : Hid (∃ k : Nat, k ≤ n ∧ (Value.int .i64 0) = .int .i64 (k : Int) ∧ PlE w w.heap.size l1 e1 L1 (.slice aa n ca) n w4.heap.size w16) := ⟨0, Nat.zero_le _, rfl, HE16⟩
      have HNB := Lib.hid hnb
      clear hxs HE16 hn hnb HPE HP4 HP6 HCE P7 P8 P9 P10 P11 P12 P13 P14 P15 P16 C7 C8 C9 C10 C11 C12 C13 C14 C15 C16 I9 I11 G1 G2 G3 G4 G5 G6 G7 G8 G9
      go_wp2
      go_loopw [106] (fun i wr => ∃ k : Nat, k ≤ n ∧ i = .int .i64 (k : Int) ∧ PlE w w.heap.size l1 e1 L1 (.slice aa n ca) n w4.heap.size wr) (fun i _ => n - (intOf i).toNat)
      case atStart => exact HQ16.out
      case round =>
        obtain ⟨k, hk, rfl, hE⟩ := hrel
        rename World => U
        clear HQ16
        by_cases hkn : k < n
        · have s1 : IntKind.i64.wrap ((k : Int) + 1) = (k : Int) + 1 := IntWalk.i64_in _ (by have := HNB.out; omega)
          have k0 : (0 : Int) ≤ (k : Int) := by omega
          have k1 : (k : Int) < (n : Int) := by omega
          obtain ⟨xs, hxs⟩ := hE.row
          obtain ⟨g, rfl, hg⟩ : ∃ g, aa = some ⟨g, 0, none⟩ ∧ w4.heap.size ≤ g := by
            rcases hxs.2 with ⟨_, h0⟩ | ⟨g, cap, cur, h1, h2, _⟩
            · omega
            · injection h1 with h1; exact ⟨g, h1, h2⟩
          have hfz : U.frozen? ⟨g, k, none⟩ = false := hxs.frozenAt k
          obtain ⟨z, hz⟩ : ∃ z, U.cell? ⟨g, k, none⟩ = some z := by
            have hlen : k < xs.length := by have := hxs.1; omega
            have := hxs.cells (g := g) rfl k xs[k] (by rw [List.getElem?_eq_getElem hlen])
            have e : (⟨g, 0, none⟩ : Addr).add k = ⟨g, k, none⟩ := by unfold Addr.add; split <;> simp_all
            rw [e] at this
            exact ⟨_, this⟩
          have HX : Hid (∃ k' : Nat, k' ≤ n ∧ (Value.int .i64 ((k : Int) + 1)) = .int .i64 (k' : Int) ∧ PlE w w.heap.size l1 e1 L1 (.slice (some ⟨g, 0, none⟩) n ca) n w4.heap.size (U.setCell ⟨g, k, none⟩ (.int .u32 0))) := by
            have hke : Kept (fun i => i = g) U (U.setCell ⟨g, k, none⟩ (.int .u32 0)) := (Kept.refl (fun i => i = g) U).setCell (p := ⟨g, k, none⟩) (.inl rfl) _
            have hbB := hE.bB
            refine ⟨k + 1, hkn, by push_cast; rfl, ⟨⟨hE.win.win.kept hke (by omega), hE.win.ok, hE.win.below.setCell (by simp; omega) _, hE.win.hb⟩, hE.ref.kept hke (by omega) (fun i hi h => by omega), hE.bB, Nat.le_trans hE.sz hke.size, ⟨_, (hxs.stored k (.int .u32 0)).1⟩⟩⟩
          have HK := Lib.hid hkn
          clear hE hxs hk hkn hg
          go_wp2
          exact ⟨HX.out, by simp [intOf]; have := HK.out; omega⟩
        · obtain rfl : k = n := by omega
          have HX : Hid (∃ (j' l e : Nat) (L : List Nat), j' ≤ N ∧ (Value.int .i64 ((j : Int) + 1)) = .int .i64 (j' : Int) ∧ PlI w w.heap.size j' l e L U) :=
            ⟨j + 1, l1, e1, L1, HJ.out, by push_cast; rfl, ⟨hE.win, hE.ref.at_, HRp.out, HIJ.out.1, HIJ.out.2, Nat.le_trans hE.bB hE.sz⟩⟩
          clear hE hk hkn
          go_wp2
          exact ⟨HX.out, by simp [intOf]; have := HJ.out; omega⟩
    · obtain rfl : j = N := by omega
      have HF := Lib.hid hI.win.below
      clear hI hj
      go_wp2
      go_ret
      exact ⟨rfl, HF.out⟩
theorem plays_any {w : World} {A : Option Addr} {L : List Nat} {cap m : Nat} (hT : Tab w) (hA : NumsAt .u32 w A L) (hL : ∀ x ∈ L, x ≤ 4294967295) (hm : m ≤ 4294967295) :
    Calls Tryd.prog 3 #[.slice A L.length cap, .int .u32 (m : Nat)] w fun e w' => e = .returned (.bool true) ∧ Below w.heap.size w w' := by
  by_cases h : 200 < L.length
  · exact plays_long h
  · exact plays_few hT (by omega) hA hL hm
theorem bounds_u32 {n : Int} (h : (Lit.int .u32 n).wf = true) : 0 ≤ n ∧ n ≤ 4294967295 := wf_u32 h
end Go.Proofs.YtcbgadjnheagmaaDoor
