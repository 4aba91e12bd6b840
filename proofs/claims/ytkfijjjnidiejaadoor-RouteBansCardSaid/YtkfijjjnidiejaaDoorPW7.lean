/- Joined texts: PW5, PW6, PW7. -/
import Derived.Test.YtkfijjjnidiejaaDoorPW2
import Derived.Test.YtkfijjjnidiejaaDoorPW4
import Derived.Test.YtkfijjjnidiejaaDoorHeap
import Derived.Lib.Hide

/-
  The pile's Top: its walk.
-/
namespace Go.Proofs.YtkfijjjnidiejaaDoor
set_option maxRecDepth 100000
open Go Go.RowKit Pq

set_option maxHeartbeats 400000 in
theorem top_some {w : World} {b j : Nat} {r : Option Nat} {l : List It} (h : Pile w b j r l) (h0 : 0 < l.length) :
    Calls Tryd.prog 64 #[.pointer (some ⟨b, j, none⟩)] w fun e w' => e = .returned (.tuple #[.agg #[.int .i64 (at_ l 0).c, .int .i64 (at_ l 0).t, .int .i64 (at_ l 0).i], .bool true]) ∧ Below w.heap.size w w' := by
  have HL : Hid (∀ o, Calls Tryd.prog 81 #[.pointer (some ⟨b, j, none⟩)] (w.alloc o) fun e w' => e = .returned (.int .i64 (l.length : Int)) ∧ w.alloc o = w') := fun o => len_any (h.kept ((Kept.refl (fun _ => False) w).alloc o) (fun _ _ => id))
  obtain ⟨v, hc, hf, hr, hn, ho⟩ := h
  obtain ⟨g, cap, rfl⟩ : ∃ g cap, v = .slice (some ⟨g, 0, none⟩) l.length cap := by
    rcases ho.2 with ⟨rfl, h1⟩ | ⟨g, cap, cur, rfl, _⟩
    · omega
    · exact ⟨_, _, rfl⟩
  obtain ⟨a0, a1, a2⟩ := row_cells ho h0
  have ba0 := cell_a1 a0
  have ba1 := cell_a1 a1
  have ba2 := cell_a1 a2
  have bhc := cell_a1 hc
  clear ho hr hn hf hc a0 a1 a2
  generalize at_ l 0 = x at *
  obtain ⟨x0, x1, x2⟩ := x
  simp only [Nat.zero_mul, Nat.zero_add] at *
  have hne : ((l.length : Int) == 0) = false := by rw [beq_eq_false_iff_ne]; omega
  generalize l.length = n at *
  go_enter Tryd.func64, Tryd.ntmps64
  go_wp2_with (go_at_call 81; (with_reducible refine (HL.out _).mono ?_); rintro e w' ⟨rfl, rfl⟩)
  exact bodyPost_ret (v := .tuple #[.agg #[.int .i64 x0, .int .i64 x1, .int .i64 x2], .bool true]) (by simp [results, Tryd.results64, go_sem]) rfl ⟨rfl, (Below.refl _ _).alloc (Nat.le_refl _) _⟩

set_option maxHeartbeats 400000 in
theorem top_empty {w : World} {b j : Nat} {r : Option Nat} (h : Pile w b j r []) :
    Calls Tryd.prog 64 #[.pointer (some ⟨b, j, none⟩)] w fun e w' => e = .returned (.tuple #[.agg #[.int .i64 0, .int .i64 0, .int .i64 0], .bool false]) ∧ Below w.heap.size w w' := by
  have HL : Hid (∀ o, Calls Tryd.prog 81 #[.pointer (some ⟨b, j, none⟩)] (w.alloc o) fun e w' => e = .returned (.int .i64 0) ∧ w.alloc o = w') := fun o => len_any (h.kept ((Kept.refl (fun _ => False) w).alloc o) (fun _ _ => id))
  clear h
  go_enter Tryd.func64, Tryd.ntmps64
  go_wp2_with (go_at_call 81; (with_reducible refine (HL.out _).mono ?_); rintro e w' ⟨rfl, rfl⟩)
  exact bodyPost_ret (v := .tuple #[.agg #[.int .i64 0, .int .i64 0, .int .i64 0], .bool false]) (by simp [results, Tryd.results64, go_sem]) rfl ⟨rfl, (Below.refl _ _).alloc (Nat.le_refl _) _⟩

set_option maxHeartbeats 400000 in
theorem top_none (w : World) :
    Calls Tryd.prog 64 #[.pointer none] w fun e w' => e = .returned (.tuple #[.agg #[.int .i64 0, .int .i64 0, .int .i64 0], .bool false]) ∧ Below w.heap.size w w' := by
  go_enter Tryd.func64, Tryd.ntmps64
  go_wp2_with (go_at_call 81; (with_reducible refine (len_none _).mono ?_); rintro e w' ⟨rfl, rfl⟩)
  exact bodyPost_ret (v := .tuple #[.agg #[.int .i64 0, .int .i64 0, .int .i64 0], .bool false]) (by simp [results, Tryd.results64, go_sem]) rfl ⟨rfl, (Below.refl _ _).alloc (Nat.le_refl _) _⟩
end Go.Proofs.YtkfijjjnidiejaaDoor

/-
  The pile's down: its walk.
-/
namespace Go.Proofs.YtkfijjjnidiejaaDoor
set_option maxRecDepth 100000
open Go Go.RowKit Pq

def DownRel (w : World) (b j : Nat) (r : Option Nat) (l : List It) (v : Value) (wr : World) : Prop :=
  ∃ (k : Nat) (l' : List It), v = .int .i64 (k : Int) ∧ (k < l'.length ∨ k = 0) ∧ l'.length = l.length ∧ DownInv l' k ∧ Mid w b j r l l' wr

/-- Among a place and the ones under it below u, f is first. -/
def Best (l : List It) (k f u : Nat) : Prop := (f = k ∨ 2 * k + 1 ≤ f ∧ f < u ∧ f < l.length) ∧ ∀ i, (i = k ∨ 2 * k + 1 ≤ i ∧ i < u ∧ i < l.length) → le (at_ l f) (at_ l i)

theorem Best.start (l : List It) (k : Nat) : Best l k k (2 * k + 1) := ⟨.inl rfl, fun i hi => by rcases hi with rfl | hi; exact le_refl _; omega⟩
theorem Best.hit {l : List It} {k f u : Nat} (h : Best l k f u) (hu : u < l.length) (h1 : 2 * k + 1 ≤ u) (hlt : lt (at_ l u) (at_ l f) = true) : Best l k u (u + 1) := by
  refine ⟨.inr ⟨h1, by omega, hu⟩, fun i hi => ?_⟩
  by_cases e : i = u
  · subst e; exact le_refl _
  · exact le_trans (le_of_lt hlt) (h.2 i (by omega))
theorem Best.miss {l : List It} {k f u : Nat} (h : Best l k f u) (hlt : lt (at_ l u) (at_ l f) = false) : Best l k f (u + 1) := by
  refine ⟨by have := h.1; omega, fun i hi => ?_⟩
  by_cases e : i = u
  · subst e; exact hlt
  · exact h.2 i (by omega)
theorem Best.all {l : List It} {k f u : Nat} (h : Best l k f u) (hu : 2 * k + 2 < u ∨ l.length ≤ u) : ∀ i, 0 < i → i < l.length → (i - 1) / 2 = k → le (at_ l f) (at_ l i) :=
  fun i h0 hi hp => h.2 i (.inr ⟨by omega, by omega, hi⟩)

def InRel (w : World) (b j : Nat) (r : Option Nat) (l l' : List It) (k : Nat) (v5 v6 : Value) (wr : World) : Prop :=
  ∃ (f u : Nat), v5 = .int .i64 (f : Int) ∧ v6 = .int .i64 (u : Int) ∧ 2 * k + 1 ≤ u ∧ u ≤ 2 * k + 3 ∧ Best l' k f u ∧ Mid w b j r l l' wr

theorem Pile.cell {w : World} {b j : Nat} {r : Option Nat} {l : List It} (h : Pile w b j r l) : ∃ a cap, w.cell? ⟨b, j, none⟩ = some (.slice a l.length cap) := by
  obtain ⟨v, hc, hf, hr, hn, ho⟩ := h
  rcases ho.2 with ⟨rfl, h0⟩ | ⟨g, cap, cur, rfl, _⟩
  · exact ⟨none, 0, by rw [h0]; exact hc⟩
  · exact ⟨_, _, hc⟩

set_option maxHeartbeats 2000000 in
theorem down_any {w : World} {b j : Nat} {r : Option Nat} {l : List It} (h : Pile w b j r l) (hl : l.length ≤ 100000) (hu : DownInv l 0) :
    Calls Tryd.prog 65 #[.pointer (some ⟨b, j, none⟩), .int .i64 0] w (UpPost w b j r l) := by
  have HS : Hid (∀ t, DownRel w b j r l (.int .i64 0) (w.alloc (.cells #[.pointer (some ⟨b, j, none⟩)] t))) := fun t => ⟨0, l, rfl, .inr rfl, rfl, hu, Mid.start h t⟩
  clear h hu
  go_enter Tryd.func65, Tryd.ntmps65
  go_wp2
  go_step3
  go_wp2_with fail
  refine (order_any _ _ _).mono ?_
  rintro e w1 ⟨rfl, rfl⟩
  go_wp2_with fail
  go_step3
  go_wp2
  go_loopw [1] (fun v wr => DownRel w b j r l v wr) (fun v _ => l.length - (intOf v).toNat)
  case atStart => exact HS.out _
  case round =>
    obtain ⟨k, l', rfl, hk, hlen, hinv, hm⟩ := hrel
    have hb : k ≤ 100000 := by omega
    have HM : Hid (Mid w b j r l l' wr) := hm
    have HI : Hid (DownInv l' k) := hinv
    have HL : Hid (l'.length = l.length) := hlen
    have HK : Hid (k < l'.length ∨ k = 0) := hk
    have HB0 : Hid (l.length ≤ 100000) := hl
    clear hm hinv hlen hk hl HS
    obtain ⟨wo, rfl⟩ : ∃ wo : World, wo = wr := ⟨_, rfl⟩
    go_wp2
    go_loopw [5, 6] (fun v5 v6 wr => InRel w b j r l l' k v5 v6 wr) (fun _ v6 _ => 2 * k + 3 - (intOf v6).toNat)
    case atStart => exact ⟨k, 2 * k + 1, rfl, by go_num, by omega, by omega, Best.start _ _, HM.out⟩
    case round =>
      obtain ⟨f, u, rfl, rfl, hu1, hu2, hbest, hm⟩ := hrel
      have HM1 : Hid (Mid w b j r l l' wr) := hm
      have HB : Hid (Best l' k f u) := hbest
      obtain ⟨a, cap, hcell⟩ := hm.pile.cell
      clear hm hbest HM
      have HN : Hid (∀ x, x = l'.length → x ≤ 100000) := by rintro x rfl; rw [HL.out]; exact HB0.out
      by_cases h1 : u ≤ 2 * k + 2
      · have hfl : u < l'.length → f < l'.length := by
          intro h
          have h3 := HB.out.1
          have h4 := HK.out
          omega
        by_cases h2 : u < l'.length
        · have hf := hfl h2
          have HA : Hid (Calls Tryd.prog 91 #[.int .i64 (u : Int), .int .i64 (f : Int), .pointer (some ⟨w.heap.size, 0, none⟩)] wr fun e w' => e = .returned (.bool (lt (at_ l' u) (at_ l' f))) ∧ Mid w b j r l l' w') :=
            (ahead_any HM1.out.pile HM1.out.ptr u f h2 hf).mono fun e w' ⟨h1, h2⟩ => ⟨h1, HM1.out.below h2⟩
          have HBh : Hid (lt (at_ l' u) (at_ l' f) = true → Best l' k u (u + 1)) := fun hq => HB.out.hit h2 hu1 hq
          have HBm : Hid (lt (at_ l' u) (at_ l' f) = false → Best l' k f (u + 1)) := fun hq => HB.out.miss hq
          have hn := HN.out _ rfl
          clear hfl hf
          generalize lt (at_ l' u) (at_ l' f) = q at HA HBh HBm
          generalize l'.length = n at *
          cases q with
          | false =>
            have HX := Lib.hid (HBm.out rfl)
            clear HBm HBh
            go_wp2_with (go_at_call 91; (with_reducible refine HA.out.mono ?_); rintro e w1 ⟨rfl, hm1⟩; have HM2 : Hid (Mid w b j r l l' w1) := hm1; clear hm1)
            go_roundw
            case rel => exact ⟨f, u + 1, rfl, by go_num, by omega, by omega, HX.out, HM2.out⟩
            case measure => simp [intOf]; omega
          | true =>
            have HX := Lib.hid (HBh.out rfl)
            clear HBm HBh
            go_wp2_with (go_at_call 91; (with_reducible refine HA.out.mono ?_); rintro e w1 ⟨rfl, hm1⟩; have HM2 : Hid (Mid w b j r l l' w1) := hm1; clear hm1)
            go_roundw
            case rel => exact ⟨u, u + 1, rfl, by go_num, by omega, by omega, HX.out, HM2.out⟩
            case measure => simp [intOf]; omega
        · have HE : Hid (∀ i, 0 < i → i < l'.length → (i - 1) / 2 = k → le (at_ l' f) (at_ l' i)) := HB.out.all (.inr (by omega))
          by_cases hfk : f = k
          · have HD : Hid (Heap l') := down_done HI.out (by rw [← hfk]; intro i h0 hi hp; exact HE.out i h0 hi (by rw [hp, hfk]))
            have hq : ((f : Int) == (k : Int)) = true := by rw [beq_iff_eq]; omega
            have hn := HN.out _ rfl
            generalize l'.length = n at *
            clear hfk
            go_wp2
            try rw [Exit.noGoto_ret]
            go_end0
            exact ⟨rfl, l', HM1.out.pile, HD.out, HM1.out.perm, HM1.out.kept⟩
          · have hq : ((f : Int) == (k : Int)) = false := by rw [beq_eq_false_iff_ne]; omega
            have hf1 : 2 * k + 1 ≤ f := by have := HB.out.1; omega
            have hf2 : f < l'.length := by have := HB.out.1; omega
            have HU : Hid (DownInv (swp l' k f) f) := down_step HI.out (by omega) hf2 (by have := HB.out.1; omega) (by omega) HE.out (HB.out.2 k (.inl rfl))
            have HW : Hid (∀ w1, Mid w b j r l l' w1 → Calls Tryd.prog 80 #[.pointer (some ⟨b, j, none⟩), .int .i64 (k : Int), .int .i64 (f : Int)] w1 fun e w' => e = .returned (.tuple #[]) ∧ Mid w b j r l (swp l' k f) w') :=
              fun w1 h1 => (swap_any h1.pile k f (by omega) hf2 (by omega)).mono fun e w' ⟨h2, h3, h4⟩ => ⟨h2, h1.swap h3 (swp_perm (by omega) hf2) h4⟩
            have HQ : Hid (f < (swp l' k f).length ∧ (swp l' k f).length = l.length ∧ f < l.length) := by
              rw [swp_length]; have := HL.out; exact ⟨hf2, this, by omega⟩
            have hn := HN.out _ rfl
            have hm1 := HQ.out.2.2
            clear hf2
            generalize l'.length = n at *
            go_wp2_with (go_at_call 80; (with_reducible refine (HW.out _ HM1.out).mono ?_); rintro e w2 ⟨rfl, hm2⟩; have HM2 : Hid (Mid w b j r l (swp l' k f) w2) := hm2; clear hm2)
            go_roundw
            case rel => exact ⟨f, _, rfl, .inl HQ.out.1, HQ.out.2.1, HU.out, HM2.out⟩
            case measure => simp [intOf]; omega
      · have HE : Hid (∀ i, 0 < i → i < l'.length → (i - 1) / 2 = k → le (at_ l' f) (at_ l' i)) := HB.out.all (.inl (by omega))
        by_cases hfk : f = k
        · have HD : Hid (Heap l') := down_done HI.out (by rw [← hfk]; intro i h0 hi hp; exact HE.out i h0 hi (by rw [hp, hfk]))
          have hq : ((f : Int) == (k : Int)) = true := by rw [beq_iff_eq]; omega
          have hn := HN.out _ rfl
          generalize l'.length = n at *
          clear hfk
          go_wp2
          try rw [Exit.noGoto_ret]
          go_end0
          exact ⟨rfl, l', HM1.out.pile, HD.out, HM1.out.perm, HM1.out.kept⟩
        · have hq : ((f : Int) == (k : Int)) = false := by rw [beq_eq_false_iff_ne]; omega
          have hf1 : 2 * k + 1 ≤ f := by have := HB.out.1; omega
          have hf2 : f < l'.length := by have := HB.out.1; omega
          have HU : Hid (DownInv (swp l' k f) f) := down_step HI.out (by omega) hf2 (by have := HB.out.1; omega) (by omega) HE.out (HB.out.2 k (.inl rfl))
          have HW : Hid (∀ w1, Mid w b j r l l' w1 → Calls Tryd.prog 80 #[.pointer (some ⟨b, j, none⟩), .int .i64 (k : Int), .int .i64 (f : Int)] w1 fun e w' => e = .returned (.tuple #[]) ∧ Mid w b j r l (swp l' k f) w') :=
            fun w1 h1 => (swap_any h1.pile k f (by omega) hf2 (by omega)).mono fun e w' ⟨h2, h3, h4⟩ => ⟨h2, h1.swap h3 (swp_perm (by omega) hf2) h4⟩
          have HQ : Hid (f < (swp l' k f).length ∧ (swp l' k f).length = l.length ∧ f < l.length) := by
            rw [swp_length]; have := HL.out; exact ⟨hf2, this, by omega⟩
          have hn := HN.out _ rfl
          have hm1 := HQ.out.2.2
          clear hf2
          generalize l'.length = n at *
          go_wp2_with (go_at_call 80; (with_reducible refine (HW.out _ HM1.out).mono ?_); rintro e w2 ⟨rfl, hm2⟩; have HM2 : Hid (Mid w b j r l (swp l' k f) w2) := hm2; clear hm2)
          go_roundw
          case rel => exact ⟨f, _, rfl, .inl HQ.out.1, HQ.out.2.1, HU.out, HM2.out⟩
          case measure => simp [intOf]; omega
end Go.Proofs.YtkfijjjnidiejaaDoor

/-
  The pile's Pop: its walk.
-/
namespace Go.Proofs.YtkfijjjnidiejaaDoor
set_option maxRecDepth 100000
open Go Go.RowKit Pq

/-- A row cut at its end. -/
theorem row_cut {w : World} {base g cap n m size : Nat} {e : TypeId} {xs : List Value} (h : w.ownsRow base e size (.slice (some ⟨g, 0, none⟩) n cap) n xs) (hm : m ≤ n) : w.ownsRow base e size (.slice (some ⟨g, 0, none⟩) m cap) m (xs.take (m * size)) := by
  obtain ⟨h1, h2⟩ := h
  have hms : m * size ≤ n * size := Nat.mul_le_mul_right _ hm
  refine ⟨by rw [List.length_take, h1]; omega, ?_⟩
  rcases h2 with ⟨h, _⟩ | ⟨g', cap', cur, hv, hb, hg, hnc, hcm, hcs, ht⟩
  · cases h
  · cases hv
    refine .inr ⟨g, cap, cur, rfl, hb, hg, by omega, hcm, hcs, ?_⟩
    rw [← ht, List.take_take]
    congr 1
    omega

/-- The first item overwritten by the last one, the row cut by one. -/
theorem pop_mid {w : World} {b j g cap : Nat} {r : Option Nat} {l : List It} (hc : w.cell? ⟨b, j, none⟩ = some (.slice (some ⟨g, 0, none⟩) l.length cap)) (hf : w.frozen? ⟨b, j, none⟩ = false)
    (hr : (Value.slice (some ⟨g, 0, none⟩) l.length cap).ownBlock = r) (hn : r ≠ some b) (ho : w.ownsRow 0 89 3 (.slice (some ⟨g, 0, none⟩) l.length cap) l.length (csL l)) (h0 : 0 < l.length) {m : Nat} (hm : m = l.length - 1) :
    Pile ((put3 w g 0 (at_ l (l.length - 1))).setCell ⟨b, j, none⟩ (.slice (some ⟨g, 0, none⟩) m cap)) b j r (cutl l) ∧ Kp b j r w ((put3 w g 0 (at_ l (l.length - 1))).setCell ⟨b, j, none⟩ (.slice (some ⟨g, 0, none⟩) m cap)) := by
  subst hm
  have hgb : b ≠ g := by
    rintro rfl
    exact hn hr.symm
  have hg : Of b r g := .inr hr
  have h1 := put3_row ho h0 (at_ l (l.length - 1))
  rw [List.length_set] at h1
  have hK : Kept (Of b r) w (put3 w g 0 (at_ l (l.length - 1))) := put3_kept (Kept.refl _ _) hg _ _
  refine ⟨⟨.slice (some ⟨g, 0, none⟩) (l.length - 1) cap, World.cell?_setCell_same _ _ _ (by rw [put3_block hgb, hc]), ?_, hr, hn, ?_⟩, ⟨hK.setCell (p := ⟨b, j, none⟩) (.inl (.inl rfl)) _, fun o ho => ?_, fun o => ?_⟩⟩
  · rw [World.frozen?_setCell, put3_frozen hgb]; exact hf
  · rw [cutl_length]
    have h2 := row_cut h1 (m := l.length - 1) (by omega)
    rw [csL_take] at h2
    exact Kept.row ((Kept.refl (fun k => k = b) (put3 w g 0 (at_ l (l.length - 1)))).setCell (p := ⟨b, j, none⟩) (.inl rfl) _) h2 (fun k hk e => by simp [Value.ownBlock] at hk; omega)
  · rw [World.cell?_setCell_other _ _ _ _ (by intro e; cases e; exact ho rfl), put3_block hgb]
  · rw [World.frozen?_setCell, put3_frozen hgb]

theorem frz_a1 {w : World} {b j : Nat} (h : w.frozen? ⟨b, j, none⟩ = false) (hb : b < w.heap.size) : ∀ o, (w.alloc o).frozen? ⟨b, j, none⟩ = false := fun o => (World.frozen?_of_block (a := ⟨b, j, none⟩) (Below.heap_alloc w o b hb)).trans h

def PopPost (w : World) (b j : Nat) (r : Option Nat) (l : List It) (e : Ending) (w' : World) : Prop :=
  e = .returned (.tuple #[.agg #[.int .i64 (at_ l 0).c, .int .i64 (at_ l 0).t, .int .i64 (at_ l 0).i], .bool true]) ∧ ∃ l', Pile w' b j r l' ∧ Heap l' ∧ l'.Perm (cutl l) ∧ Kp b j r w w'

theorem put3_heap {w : World} {g k b : Nat} {x : It} (h : b ≠ g) : (put3 w g k x).heap[b]? = w.heap[b]? := by
  unfold put3
  rw [Below.heap_setCell _ _ _ _ h, Below.heap_setCell _ _ _ _ h, Below.heap_setCell _ _ _ _ h]

theorem pop_last {w w3 : World} {b j : Nat} {r : Option Nat} {l l' : List It} (hp : Pile w3 b j r l') (hh : Heap l') (hpm : l'.Perm (cutl l)) (hk : Kp b j r w w3) (hlt : ∀ k, Of b r k → k < w.heap.size) (x : It) (hx : at_ l 0 = x) :
    PopPost w b j r l (.returned (.tuple #[.agg #[.int .i64 x.c, .int .i64 x.t, .int .i64 x.i], .bool true])) (put3 w3 w.heap.size 0 x) := by
  subst hx
  have h1 : Kept (fun k => k = w.heap.size) w3 (put3 w3 w.heap.size 0 (at_ l 0)) := put3_kept (Kept.refl _ _) (X := fun k => k = w.heap.size) rfl _ _
  exact ⟨rfl, l', hp.kept h1 (fun k hk e => by have := hlt k hk; omega), hh, hpm, hk.trans (Kp.of_kept (r := some w.heap.size) h1 (by have := hlt b (.inl rfl); have := hk.kept.size; omega) (fun e => by have := hlt b (.inl rfl); omega) (fun k _ e => by rw [e])) (fun i hi e => by simp at e; omega)⟩

/-- Behind down: the two items' blocks, the pile. -/
structure PopMid (w w1 : World) (b j : Nat) (r : Option Nat) (l : List It) (x : It) (w3 : World) : Prop where
  b2 : w3.heap[w.heap.size]? = some (.cells #[.int .i64 0, .int .i64 0, .int .i64 0] 89 (0, 0))
  b4 : w3.heap[w1.heap.size]? = some (.cells #[.int .i64 x.c, .int .i64 x.t, .int .i64 x.i] 89 (0, 0))
  fin : PopPost w b j r l (.returned (.tuple #[.agg #[.int .i64 x.c, .int .i64 x.t, .int .i64 x.i], .bool true])) (put3 w3 w.heap.size 0 x)

theorem pop_down {w w1 : World} {b j g cap : Nat} {r : Option Nat} {l : List It} {x : It} (hh : Heap l) (h0 : 0 < l.length) (hl : l.length ≤ 10000) (hx : at_ l 0 = x) (hlt : ∀ k, Of b r k → k < w.heap.size)
    (hk1 : Kept (fun _ => False) w w1) (hs : w.heap.size < w1.heap.size) (hR : w1.heap[w.heap.size]? = some (.cells #[.int .i64 0, .int .i64 0, .int .i64 0] 89 (0, 0)))
    (hc : w1.cell? ⟨b, j, none⟩ = some (.slice (some ⟨g, 0, none⟩) l.length cap)) (hf : w1.frozen? ⟨b, j, none⟩ = false)
    (hr : (Value.slice (some ⟨g, 0, none⟩) l.length cap).ownBlock = r) (hn : r ≠ some b) (ho : w1.ownsRow 0 89 3 (.slice (some ⟨g, 0, none⟩) l.length cap) l.length (csL l)) :
    Calls Tryd.prog 65 #[.pointer (some ⟨b, j, none⟩), .int .i64 0] ((((put3 w1 g 0 (at_ l (l.length - 1))).setCell ⟨b, j, none⟩ (.slice (some ⟨g, 0, none⟩) (l.length - 1) cap)).alloc (.cells #[.int .i64 x.c, .int .i64 x.t, .int .i64 x.i] 89)).drew) fun e w' => e = .returned (.tuple #[]) ∧ PopMid w w1 b j r l x w' := by
  obtain ⟨hp, hk⟩ := pop_mid hc hf hr hn ho h0 rfl
  have hb : b < w.heap.size := hlt b (.inl rfl)
  have hg : g < w.heap.size := hlt g (.inr hr)
  have hsz := hk.kept.size
  generalize hW : (put3 w1 g 0 (at_ l (l.length - 1))).setCell ⟨b, j, none⟩ (.slice (some ⟨g, 0, none⟩) (l.length - 1) cap) = W at hp hk hsz ⊢
  have hWs : W.heap.size = w1.heap.size := by rw [← hW]; simp [put3, World.setCell]
  have h2 : W.heap[w.heap.size]? = some (.cells #[.int .i64 0, .int .i64 0, .int .i64 0] 89 (0, 0)) := by
    rw [hk.kept.block _ (by omega) (fun h => by have := hlt _ h; omega)]; exact hR
  have hpa : Pile ((W.alloc (.cells #[.int .i64 x.c, .int .i64 x.t, .int .i64 x.i] 89)).drew) b j r (cutl l) := (hp.kept ((Kept.refl (fun _ => False) W).alloc _) (fun _ _ => id)).drew
  refine (down_any hpa (by rw [cutl_length]; omega) (cutl_down hh h0)).mono ?_
  rintro e w3 ⟨he, l', hp3, hh3, hpm, hk3⟩
  have hka : Kp b j r w (W.alloc (.cells #[.int .i64 x.c, .int .i64 x.t, .int .i64 x.i] 89)).drew := (((Kp.of_kept (j := j) (r := r) hk1 hb id (fun _ _ h => h.elim)).trans hk (fun _ _ => id)).alloc hb _).drew
  refine ⟨he, ?_, ?_, ?_⟩
  · rw [hk3.block _ (by simp; omega) (fun h => by have := hlt _ (.inr h); omega)]
    show (W.alloc _).heap[w.heap.size]? = _
    rw [Below.heap_alloc _ _ _ (by omega)]; exact h2
  · rw [hk3.block _ (by simp; omega) (fun h => by have := hlt _ (.inr h); omega), ← hWs]
    exact heap_alloc_new W _
  · exact pop_last hp3 hh3 hpm (hka.trans (Kp.of_kept (r := r) hk3 (Nat.lt_of_lt_of_le hb hka.kept.size) (fun e => hn e.symm) (fun _ _ h => h)) (fun _ _ => id)) hlt x hx

set_option maxHeartbeats 1000000 in
theorem pop_some {w : World} {b j : Nat} {r : Option Nat} {l : List It} (h : Pile w b j r l) (hh : Heap l) (h0 : 0 < l.length) (hl : l.length ≤ 10000) :
    Calls Tryd.prog 48 #[.pointer (some ⟨b, j, none⟩)] w (PopPost w b j r l) := by
  have hal : ∀ o, Pile (w.alloc o) b j r l := fun o => h.kept ((Kept.refl (fun _ => False) w).alloc o) (fun _ _ => id)
  have HT : Hid (∀ o, Calls Tryd.prog 64 #[.pointer (some ⟨b, j, none⟩)] (w.alloc o) fun e w' => e = .returned (.tuple #[.agg #[.int .i64 (at_ l 0).c, .int .i64 (at_ l 0).t, .int .i64 (at_ l 0).i], .bool true]) ∧ Below (w.alloc o).heap.size (w.alloc o) w') := fun o => top_some (hal o) h0
  have HP := Lib.hid hal
  have HPw := Lib.hid h
  have HH := Lib.hid hh
  clear hal h hh
  go_enter Tryd.func48, Tryd.ntmps48
  go_wp2_with fail
  refine (HT.out _).mono ?_
  rintro e w1 ⟨rfl, hb1⟩
  have hk1 := Kept.of_below (X := fun _ => False) hb1 (Nat.le_refl _)
  have hp1 := (HP.out _).kept hk1 (fun _ _ => id)
  have hz1 : w.heap.size + 1 ≤ w1.heap.size := by have := hb1.size; simpa using this
  have hlt := HPw.out.lt
  have hbl := hlt b (.inl rfl)
  have hp2 : ∀ o, Pile (w1.alloc o) b j r l := fun o => hp1.kept ((Kept.refl (fun _ => False) w1).alloc o) (fun _ _ => id)
  have HR : Hid (w1.heap[w.heap.size]? = some (.cells #[.int .i64 0, .int .i64 0, .int .i64 0] 89 (0, 0))) := by
    show _ = _
    rw [hb1.block _ (by simp)]
    exact heap_alloc_new w _
  have HK1 := Lib.hid hk1
  have hv : ∃ g cap, (∀ o, (w1.alloc o).cell? ⟨b, j, none⟩ = some (.slice (some ⟨g, 0, none⟩) l.length cap)) ∧ w1.cell? ⟨b, j, none⟩ = some (.slice (some ⟨g, 0, none⟩) l.length cap) ∧ g ≠ b ∧ w1.frozen? ⟨b, j, none⟩ = false ∧ (∀ k, w1.frozen? ⟨g, k, none⟩ = false) ∧
      l.length ≤ cap ∧ (Value.slice (some ⟨g, 0, none⟩) l.length cap).ownBlock = r ∧ r ≠ some b ∧ w1.ownsRow 0 89 3 (.slice (some ⟨g, 0, none⟩) l.length cap) l.length (csL l) := by
    obtain ⟨v, hc, hf, hr, hn, ho⟩ := hp1
    obtain ⟨g, cap, rfl, hnc⟩ : ∃ g cap, v = .slice (some ⟨g, 0, none⟩) l.length cap ∧ l.length ≤ cap := by
      rcases ho.2 with ⟨rfl, h1⟩ | ⟨g, cap, cur, rfl, _, _, hnc, _⟩
      · omega
      · exact ⟨_, _, rfl, hnc⟩
    exact ⟨g, cap, cell_a1 hc, hc, (by rintro rfl; exact hn hr.symm), hf, fun k => ho.frozenAt k, hnc, hr, hn, ho⟩
  obtain ⟨g, cap, hca, hc1, hgb, hf1, hfg, hcap, hr, hn, ho⟩ := hv
  have hgl : g < w.heap.size := hlt g (.inr hr)
  have hk1w : Kept (fun _ => False) w w1 := ((Kept.refl (fun _ => False) w).alloc _).trans HK1.out (fun _ _ => id)
  have HD := Lib.hid (pop_down HH.out h0 hl rfl hlt hk1w (by omega) HR.out hc1 hf1 hr hn ho)
  unfold put3 at HD
  clear hk1w
  obtain ⟨a0, a1, a2⟩ := row_cells ho (k := l.length - 1) (by omega)
  obtain ⟨z0, z1, z2⟩ := row_cells ho (k := 0) h0
  have hbz : b < w1.heap.size := by omega
  have hgz : g < w1.heap.size := by omega
  have ca0 := cell_a1 a0
  have ca1 := cell_a1 a1
  have ca2 := cell_a1 a2
  have cz0 := cell_a1 z0
  have cz1 := cell_a1 z1
  have cz2 := cell_a1 z2
  clear ho hr hn hp1 hk1 hb1
  have HLast : Hid (at_ l (l.length - 1) = at_ l (l.length - 1)) := rfl
  generalize hx : at_ l 0 = x at *
  have HX := Lib.hid hx
  generalize hy : at_ l (l.length - 1) = y at *
  have HY := Lib.hid hy
  clear hx hy HLast
  obtain ⟨x0, x1, x2⟩ := x
  obtain ⟨y0, y1, y2⟩ := y
  simp only [Nat.zero_mul, Nat.zero_add] at *
  generalize hnn : l.length = n at *
  have HN := Lib.hid hnn
  clear hnn
  go_wp2
  go_region
  go_wp2_with fail
  refine HD.out.mono ?_
  rintro e w3 ⟨rfl, hm3⟩
  have q20 : w3.cell? ⟨w.heap.size, 0, none⟩ = some (.int .i64 0) := by rw [blk_cell hm3.b2]; rfl
  have q21 : w3.cell? ⟨w.heap.size, 1, none⟩ = some (.int .i64 0) := by rw [blk_cell hm3.b2]; rfl
  have q22 : w3.cell? ⟨w.heap.size, 2, none⟩ = some (.int .i64 0) := by rw [blk_cell hm3.b2]; rfl
  have q40 : w3.cell? ⟨w1.heap.size, 0, none⟩ = some (.int .i64 x0) := by rw [blk_cell hm3.b4]; rfl
  have q41 : w3.cell? ⟨w1.heap.size, 1, none⟩ = some (.int .i64 x1) := by rw [blk_cell hm3.b4]; rfl
  have q42 : w3.cell? ⟨w1.heap.size, 2, none⟩ = some (.int .i64 x2) := by rw [blk_cell hm3.b4]; rfl
  have qf : ∀ k, w3.frozen? ⟨w.heap.size, k, none⟩ = false := fun k => blk_free hm3.b2 k
  have HF := Lib.hid hm3.fin
  unfold put3 at HF
  have hne : w1.heap.size ≠ w.heap.size := by omega
  clear hm3 HD HP HPw HH HR HK1 HT hp2 a0 a1 a2 ca0 ca1 ca2 z0 z1 z2 cz0 cz1 cz2 hca hc1 hf1 hfg hgl hlt
  go_wp2
  exact bodyPost_ret (v := .tuple #[.agg #[.int .i64 x0, .int .i64 x1, .int .i64 x2], .bool true]) (by simp [results, Tryd.results48, go_sem, q20, q21, q22]) rfl HF.out
end Go.Proofs.YtkfijjjnidiejaaDoor
