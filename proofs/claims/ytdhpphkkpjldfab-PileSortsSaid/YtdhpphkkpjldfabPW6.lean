/-
  The pile's down: its walk.
-/
import Derived.Test.YtdhpphkkpjldfabPW3
import Derived.Lib.Hide
namespace Go.Proofs.Ytdhpphkkpjldfab
set_option maxRecDepth 100000
open Go Go.RowKit Pq

def DownRel (w : World) (b j : Nat) (r : Option Nat) (l : List It) (v : Value) (wr : World) : Prop :=
  ∃ (k : Nat) (l' : List It), v = .int .i64 (k : Int) ∧ (k < l'.length ∨ k = 0) ∧ l'.length = l.length ∧ DownInv l' k ∧ Mid w b j r l l' wr

/-- Among a place and the ones under it below u, f is first. -/
def Best (l : List It) (k f u : Nat) : Prop := (f = k ∨ 2 * k + 1 ≤ f ∧ f < u ∧ f < l.length) ∧ ∀ i, (i = k ∨ 2 * k + 1 ≤ i ∧ i < u ∧ i < l.length) → le (at_ l f) (at_ l i)

theorem Best.start (l : List It) (k : Nat) : Best l k k (2 * k + 1) := ⟨.inl rfl, fun i hi => by rcases hi with rfl | hi; exact le_refl _; omega⟩
theorem Best.hit {l : List It} {k f u : Nat} (h : Best l k f u) (hu : u < l.length) (h1 : 2 * k + 1 ≤ u) (hlt : lt (at_ l u) (at_ l f) = true) : Best l k u (u + 1) := by
  refine ⟨.inr ⟨h1, by omega, hu⟩, fun i hi => ?_⟩
  by_cases e : i = u
  · subst e; exact le_refl _
  · exact le_trans (le_of_lt hlt) (h.2 i (by omega))
theorem Best.miss {l : List It} {k f u : Nat} (h : Best l k f u) (hlt : lt (at_ l u) (at_ l f) = false) : Best l k f (u + 1) := by
  refine ⟨by have := h.1; omega, fun i hi => ?_⟩
  by_cases e : i = u
  · subst e; exact hlt
  · exact h.2 i (by omega)
theorem Best.all {l : List It} {k f u : Nat} (h : Best l k f u) (hu : 2 * k + 2 < u ∨ l.length ≤ u) : ∀ i, 0 < i → i < l.length → (i - 1) / 2 = k → le (at_ l f) (at_ l i) :=
  fun i h0 hi hp => h.2 i (.inr ⟨by omega, by omega, hi⟩)

def InRel (w : World) (b j : Nat) (r : Option Nat) (l l' : List It) (k : Nat) (v5 v6 : Value) (wr : World) : Prop :=
  ∃ (f u : Nat), v5 = .int .i64 (f : Int) ∧ v6 = .int .i64 (u : Int) ∧ 2 * k + 1 ≤ u ∧ u ≤ 2 * k + 3 ∧ Best l' k f u ∧ Mid w b j r l l' wr

theorem Pile.cell {w : World} {b j : Nat} {r : Option Nat} {l : List It} (h : Pile w b j r l) : ∃ a cap, w.cell? ⟨b, j, none⟩ = some (.slice a l.length cap) := by
  obtain ⟨v, hc, hf, hr, hn, ho⟩ := h
  rcases ho.2 with ⟨rfl, h0⟩ | ⟨g, cap, cur, rfl, _⟩
  · exact ⟨none, 0, by rw [h0]; exact hc⟩
  · exact ⟨_, _, hc⟩

set_option maxHeartbeats 2000000 in
theorem down_any {w : World} {b j : Nat} {r : Option Nat} {l : List It} (h : Pile w b j r l) (hl : l.length ≤ 100000) (hu : DownInv l 0) :
    Calls Try.prog 23 #[.pointer (some ⟨b, j, none⟩), .int .i64 0] w (UpPost w b j r l) := by
  have HS : Hid (∀ t, DownRel w b j r l (.int .i64 0) (w.alloc (.cells #[.pointer (some ⟨b, j, none⟩)] t))) := fun t => ⟨0, l, rfl, .inr rfl, rfl, hu, Mid.start h t⟩
  clear h hu
  go_enter Try.func23, Try.ntmps23
  go_wp2
  go_step3
  go_wp2_with fail
  refine (order_any _ _ _).mono ?_
  rintro e w1 ⟨rfl, rfl⟩
  go_wp2_with fail
  go_step3
  go_wp2
  go_loopw [1] (fun v wr => DownRel w b j r l v wr) (fun v _ => l.length - (intOf v).toNat)
  case atStart => exact HS.out _
  case round =>
    obtain ⟨k, l', rfl, hk, hlen, hinv, hm⟩ := hrel
    have hb : k ≤ 100000 := by omega
    have HM : Hid (Mid w b j r l l' wr) := hm
    have HI : Hid (DownInv l' k) := hinv
    have HL : Hid (l'.length = l.length) := hlen
    have HK : Hid (k < l'.length ∨ k = 0) := hk
    have HB0 : Hid (l.length ≤ 100000) := hl
    clear hm hinv hlen hk hl HS
    obtain ⟨wo, rfl⟩ : ∃ wo : World, wo = wr := ⟨_, rfl⟩
    go_wp2
    go_loopw [5, 6] (fun v5 v6 wr => InRel w b j r l l' k v5 v6 wr) (fun _ v6 _ => 2 * k + 3 - (intOf v6).toNat)
    case atStart => exact ⟨k, 2 * k + 1, rfl, by go_num, by omega, by omega, Best.start _ _, HM.out⟩
    case round =>
      obtain ⟨f, u, rfl, rfl, hu1, hu2, hbest, hm⟩ := hrel
      have HM1 : Hid (Mid w b j r l l' wr) := hm
      have HB : Hid (Best l' k f u) := hbest
      obtain ⟨a, cap, hcell⟩ := hm.pile.cell
      clear hm hbest HM
      have HN : Hid (∀ x, x = l'.length → x ≤ 100000) := by rintro x rfl; rw [HL.out]; exact HB0.out
      by_cases h1 : u ≤ 2 * k + 2
      · have hfl : u < l'.length → f < l'.length := by
          intro h
          have h3 := HB.out.1
          have h4 := HK.out
          omega
        by_cases h2 : u < l'.length
        · have hf := hfl h2
          have HA : Hid (Calls Try.prog 29 #[.int .i64 (u : Int), .int .i64 (f : Int), .pointer (some ⟨w.heap.size, 0, none⟩)] wr fun e w' => e = .returned (.bool (lt (at_ l' u) (at_ l' f))) ∧ Mid w b j r l l' w') :=
            (ahead_any HM1.out.pile HM1.out.ptr u f h2 hf).mono fun e w' ⟨h1, h2⟩ => ⟨h1, HM1.out.below h2⟩
          have HBh : Hid (lt (at_ l' u) (at_ l' f) = true → Best l' k u (u + 1)) := fun hq => HB.out.hit h2 hu1 hq
          have HBm : Hid (lt (at_ l' u) (at_ l' f) = false → Best l' k f (u + 1)) := fun hq => HB.out.miss hq
          have hn := HN.out _ rfl
          clear hfl hf
          generalize lt (at_ l' u) (at_ l' f) = q at HA HBh HBm
          generalize l'.length = n at *
          cases q with
          | false =>
            have HX := Lib.hid (HBm.out rfl)
            clear HBm HBh
            go_wp2_with (go_at_call 29; (with_reducible refine HA.out.mono ?_); rintro e w1 ⟨rfl, hm1⟩; have HM2 : Hid (Mid w b j r l l' w1) := hm1; clear hm1)
            go_roundw
            case rel => exact ⟨f, u + 1, rfl, by go_num, by omega, by omega, HX.out, HM2.out⟩
            case measure => simp [intOf]; omega
          | true =>
            have HX := Lib.hid (HBh.out rfl)
            clear HBm HBh
            go_wp2_with (go_at_call 29; (with_reducible refine HA.out.mono ?_); rintro e w1 ⟨rfl, hm1⟩; have HM2 : Hid (Mid w b j r l l' w1) := hm1; clear hm1)
            go_roundw
            case rel => exact ⟨u, u + 1, rfl, by go_num, by omega, by omega, HX.out, HM2.out⟩
            case measure => simp [intOf]; omega
        · have HE : Hid (∀ i, 0 < i → i < l'.length → (i - 1) / 2 = k → le (at_ l' f) (at_ l' i)) := HB.out.all (.inr (by omega))
          by_cases hfk : f = k
          · have HD : Hid (Heap l') := down_done HI.out (by rw [← hfk]; intro i h0 hi hp; exact HE.out i h0 hi (by rw [hp, hfk]))
            have hq : ((f : Int) == (k : Int)) = true := by rw [beq_iff_eq]; omega
            have hn := HN.out _ rfl
            generalize l'.length = n at *
            clear hfk
            go_wp2
            try rw [Exit.noGoto_ret]
            go_end0
            exact ⟨rfl, l', HM1.out.pile, HD.out, HM1.out.perm, HM1.out.kept⟩
          · have hq : ((f : Int) == (k : Int)) = false := by rw [beq_eq_false_iff_ne]; omega
            have hf1 : 2 * k + 1 ≤ f := by have := HB.out.1; omega
            have hf2 : f < l'.length := by have := HB.out.1; omega
            have HU : Hid (DownInv (swp l' k f) f) := down_step HI.out (by omega) hf2 (by have := HB.out.1; omega) (by omega) HE.out (HB.out.2 k (.inl rfl))
            have HW : Hid (∀ w1, Mid w b j r l l' w1 → Calls Try.prog 27 #[.pointer (some ⟨b, j, none⟩), .int .i64 (k : Int), .int .i64 (f : Int)] w1 fun e w' => e = .returned (.tuple #[]) ∧ Mid w b j r l (swp l' k f) w') :=
              fun w1 h1 => (swap_any h1.pile k f (by omega) hf2 (by omega)).mono fun e w' ⟨h2, h3, h4⟩ => ⟨h2, h1.swap h3 (swp_perm (by omega) hf2) h4⟩
            have HQ : Hid (f < (swp l' k f).length ∧ (swp l' k f).length = l.length ∧ f < l.length) := by
              rw [swp_length]; have := HL.out; exact ⟨hf2, this, by omega⟩
            have hn := HN.out _ rfl
            have hm1 := HQ.out.2.2
            clear hf2
            generalize l'.length = n at *
            go_wp2_with (go_at_call 27; (with_reducible refine (HW.out _ HM1.out).mono ?_); rintro e w2 ⟨rfl, hm2⟩; have HM2 : Hid (Mid w b j r l (swp l' k f) w2) := hm2; clear hm2)
            go_roundw
            case rel => exact ⟨f, _, rfl, .inl HQ.out.1, HQ.out.2.1, HU.out, HM2.out⟩
            case measure => simp [intOf]; omega
      · have HE : Hid (∀ i, 0 < i → i < l'.length → (i - 1) / 2 = k → le (at_ l' f) (at_ l' i)) := HB.out.all (.inl (by omega))
        by_cases hfk : f = k
        · have HD : Hid (Heap l') := down_done HI.out (by rw [← hfk]; intro i h0 hi hp; exact HE.out i h0 hi (by rw [hp, hfk]))
          have hq : ((f : Int) == (k : Int)) = true := by rw [beq_iff_eq]; omega
          have hn := HN.out _ rfl
          generalize l'.length = n at *
          clear hfk
          go_wp2
          try rw [Exit.noGoto_ret]
          go_end0
          exact ⟨rfl, l', HM1.out.pile, HD.out, HM1.out.perm, HM1.out.kept⟩
        · have hq : ((f : Int) == (k : Int)) = false := by rw [beq_eq_false_iff_ne]; omega
          have hf1 : 2 * k + 1 ≤ f := by have := HB.out.1; omega
          have hf2 : f < l'.length := by have := HB.out.1; omega
          have HU : Hid (DownInv (swp l' k f) f) := down_step HI.out (by omega) hf2 (by have := HB.out.1; omega) (by omega) HE.out (HB.out.2 k (.inl rfl))
          have HW : Hid (∀ w1, Mid w b j r l l' w1 → Calls Try.prog 27 #[.pointer (some ⟨b, j, none⟩), .int .i64 (k : Int), .int .i64 (f : Int)] w1 fun e w' => e = .returned (.tuple #[]) ∧ Mid w b j r l (swp l' k f) w') :=
            fun w1 h1 => (swap_any h1.pile k f (by omega) hf2 (by omega)).mono fun e w' ⟨h2, h3, h4⟩ => ⟨h2, h1.swap h3 (swp_perm (by omega) hf2) h4⟩
          have HQ : Hid (f < (swp l' k f).length ∧ (swp l' k f).length = l.length ∧ f < l.length) := by
            rw [swp_length]; have := HL.out; exact ⟨hf2, this, by omega⟩
          have hn := HN.out _ rfl
          have hm1 := HQ.out.2.2
          clear hf2
          generalize l'.length = n at *
          go_wp2_with (go_at_call 27; (with_reducible refine (HW.out _ HM1.out).mono ?_); rintro e w2 ⟨rfl, hm2⟩; have HM2 : Hid (Mid w b j r l (swp l' k f) w2) := hm2; clear hm2)
          go_roundw
          case rel => exact ⟨f, _, rfl, .inl HQ.out.1, HQ.out.2.1, HU.out, HM2.out⟩
          case measure => simp [intOf]; omega
end Go.Proofs.Ytdhpphkkpjldfab
