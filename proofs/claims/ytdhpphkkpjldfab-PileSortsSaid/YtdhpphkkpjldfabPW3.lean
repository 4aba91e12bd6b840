/-
  The pile's up: its walk.
-/
import Derived.Test.YtdhpphkkpjldfabPW1
import Derived.Test.YtdhpphkkpjldfabPW2
import Derived.LoopTactic
import Derived.WalkMore
import Derived.Deep.LoopGhost
namespace Go.Proofs.Ytdhpphkkpjldfab
set_option maxRecDepth 100000
open Go Go.RowKit Pq

/-- While an item goes up or down: the pile, the captured pointer. -/
structure Mid (w : World) (b j : Nat) (r : Option Nat) (l : List It) (l' : List It) (wr : World) : Prop where
  pile : Pile wr b j r l'
  perm : l'.Perm l
  kept : Kept (fun k => some k = r) w wr
  ptr : wr.cell? ⟨w.heap.size, 0, none⟩ = some (.pointer (some ⟨b, j, none⟩))
  new : ∀ k, Of b r k → k < w.heap.size

theorem Mid.start {w : World} {b j : Nat} {r : Option Nat} {l : List It} (h : Pile w b j r l) (t : TypeId) : Mid w b j r l l (w.alloc (.cells #[.pointer (some ⟨b, j, none⟩)] t)) :=
  ⟨h.kept ((Kept.refl (fun _ => False) w).alloc _) (fun _ _ => id), List.Perm.refl _, (Kept.refl _ w).alloc _, by simp, h.lt⟩
theorem Mid.below {w wr w' : World} {b j : Nat} {r : Option Nat} {l l' : List It} (h : Mid w b j r l l' wr) (hb : Below wr.heap.size wr w') : Mid w b j r l l' w' :=
  ⟨h.pile.kept (Kept.of_below (X := fun _ => False) hb (Nat.le_refl _)) (fun _ _ => id), h.perm, h.kept.trans (Kept.of_below (X := fun _ => False) hb (Nat.le_refl _)) (fun _ _ => False.elim),
    (hb.cell (World.block_lt_of_cell? wr _ h.ptr)).trans h.ptr, h.new⟩
theorem Mid.swap {w wr w' : World} {b j : Nat} {r : Option Nat} {l l' l2 : List It} (h : Mid w b j r l l' wr) (hp : Pile w' b j r l2) (hperm : l2.Perm l') (hk : Kept (fun k => some k = r) wr w') : Mid w b j r l l2 w' :=
  ⟨hp, hperm.trans h.perm, h.kept.trans hk (fun _ _ => id), hk.cell h.ptr (fun hx => by have := h.new _ (.inr hx); simp at this), h.new⟩

def UpRel (w : World) (b j : Nat) (r : Option Nat) (l : List It) (v : Value) (wr : World) : Prop :=
  ∃ (k : Nat) (l' : List It), v = .int .i64 (k : Int) ∧ k < l'.length ∧ l'.length = l.length ∧ UpInv l' k ∧ Mid w b j r l l' wr

def UpPost (w : World) (b j : Nat) (r : Option Nat) (l : List It) (e : Ending) (w' : World) : Prop :=
  e = .returned (.tuple #[]) ∧ ∃ l', Pile w' b j r l' ∧ Heap l' ∧ l'.Perm l ∧ Kept (fun k => some k = r) w w'

set_option maxHeartbeats 400000 in
theorem order_any (b j : Nat) (w : World) :
    Calls Try.prog 26 #[.pointer (some ⟨b, j, none⟩)] w fun e w' => e = .returned (.func (.func 29) #[] #[.pointer (some ⟨w.heap.size, 0, none⟩)]) ∧ w' = w.alloc (.cells #[.pointer (some ⟨b, j, none⟩)] 23) := by
  go_enter Try.func26, Try.ntmps26
  go_wp2
  go_ret
  exact ⟨rfl, rfl⟩

set_option maxHeartbeats 1000000 in
theorem up_any {w : World} {b j : Nat} {r : Option Nat} {l : List It} (h : Pile w b j r l) (k : Nat) (hk : k < l.length) (hl : l.length ≤ 100000) (hu : UpInv l k) :
    Calls Try.prog 22 #[.pointer (some ⟨b, j, none⟩), .int .i64 (k : Int)] w (UpPost w b j r l) := by
  have HS : Hid (∀ t, UpRel w b j r l (.int .i64 (k : Int)) (w.alloc (.cells #[.pointer (some ⟨b, j, none⟩)] t))) := fun t => ⟨k, l, rfl, hk, rfl, hu, Mid.start h t⟩
  clear h hu hk
  go_enter Try.func22, Try.ntmps22
  go_wp2
  go_step3
  go_wp2_with fail
  refine (order_any _ _ _).mono ?_
  rintro e w1 ⟨rfl, rfl⟩
  go_wp2_with fail
  go_step3
  go_wp2
  go_loopw [1] (fun v wr => UpRel w b j r l v wr) (fun v _ => (intOf v).toNat)
  case atStart => exact HS.out _
  case round =>
    obtain ⟨k', l', rfl, hk', hlen, hinv, hm⟩ := hrel
    have hb : k' ≤ 100000 := by omega
    have HM : Hid (Mid w b j r l l' wr) := hm
    have HI : Hid (UpInv l' k') := hinv
    have HL : Hid (l'.length = l.length) := hlen
    have HK : Hid (k' < l'.length) := hk'
    clear hm hinv hlen hk' hl HS
    by_cases h0 : k' = 0
    · subst h0
      go_wp2
      try rw [Exit.noGoto_ret]
      go_end0
      exact ⟨rfl, l', HM.out.pile, up_done HI.out (.inl rfl), HM.out.perm, HM.out.kept⟩
    · have hpos : 0 < k' := by omega
      have hpi : ((k' : Int) - 1) / 2 = (((k' - 1) / 2 : Nat) : Int) := by omega
      have HA : Hid (Calls Try.prog 29 #[.int .i64 (k' : Int), .int .i64 (((k' : Int) - 1) / 2), .pointer (some ⟨w.heap.size, 0, none⟩)] wr fun e w' => e = .returned (.bool (lt (at_ l' k') (at_ l' ((k' - 1) / 2)))) ∧ Mid w b j r l l' w') := by
        show Calls _ _ _ _ _
        rw [hpi]
        exact (ahead_any HM.out.pile HM.out.ptr k' ((k' - 1) / 2) HK.out (by have := HK.out; omega)).mono fun e w' ⟨h1, h2⟩ => ⟨h1, HM.out.below h2⟩
      cases hq : lt (at_ l' k') (at_ l' ((k' - 1) / 2)) with
      | false =>
        rw [hq] at HA
        have HD : Hid (Heap l') := up_done HI.out (.inr hq)
        clear hq hpi
        go_wp2_with (go_at_call 29; (with_reducible refine HA.out.mono ?_); rintro e w1 ⟨rfl, hm1⟩; have HM1 : Hid (Mid w b j r l l' w1) := hm1; clear hm1)
        try rw [Exit.noGoto_ret]
        go_end0
        exact ⟨rfl, l', HM1.out.pile, HD.out, HM1.out.perm, HM1.out.kept⟩
      | true =>
        rw [hq] at HA
        have HU : Hid (UpInv (swp l' k' ((k' - 1) / 2)) ((k' - 1) / 2)) := up_step HI.out hpos HK.out hq
        have HB : Hid (∀ w1, Mid w b j r l l' w1 → Calls Try.prog 27 #[.pointer (some ⟨b, j, none⟩), .int .i64 (k' : Int), .int .i64 (((k' : Int) - 1) / 2)] w1 fun e w' => e = .returned (.tuple #[]) ∧ Mid w b j r l (swp l' k' ((k' - 1) / 2)) w') := by
          intro w1 h1
          rw [hpi]
          exact (swap_any h1.pile k' ((k' - 1) / 2) HK.out (by have := HK.out; omega) (by omega)).mono fun e w' ⟨h2, h3, h4⟩ => ⟨h2, h1.swap h3 (swp_perm HK.out (by have := HK.out; omega)) h4⟩
        have HP : Hid (((k' : Int) - 1) / 2 = (((k' - 1) / 2 : Nat) : Int)) := hpi
        have HQ : Hid ((k' - 1) / 2 < (swp l' k' ((k' - 1) / 2)).length ∧ (swp l' k' ((k' - 1) / 2)).length = l.length) := by
          rw [swp_length]; have := HK.out; have := HL.out; exact ⟨by omega, this⟩
        clear hq hpi
        go_wp2_with (first
          | (go_at_call 29; (with_reducible refine HA.out.mono ?_); rintro e w1 ⟨rfl, hm1⟩; have HM1 : Hid (Mid w b j r l l' w1) := hm1; clear hm1)
          | (go_at_call 27; (with_reducible refine (HB.out _ HM1.out).mono ?_); rintro e w2 ⟨rfl, hm2⟩; have HM2 : Hid (Mid w b j r l (swp l' k' ((k' - 1) / 2)) w2) := hm2; clear hm2))
        go_roundw
        case rel => exact ⟨(k' - 1) / 2, _, by rw [HP.out], HQ.out.1, HQ.out.2, HU.out, HM2.out⟩
        case measure => simp [intOf]; omega
end Go.Proofs.Ytdhpphkkpjldfab
