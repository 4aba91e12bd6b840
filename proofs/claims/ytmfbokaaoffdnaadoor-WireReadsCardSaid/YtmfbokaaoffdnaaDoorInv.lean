/-
  A statement whose order is open, by one invariant: what holds of what has come up already.
-/
import Derived.Test.YtmfbokaaoffdnaaDoorGBfs
import Derived.Orders
import Derived.OrdersHeld
import Derived.WalkKit
namespace Go.Proofs.YtmfbokaaoffdnaaDoor
set_option maxRecDepth 100000
open Go Gq

section
variable {P : Program} {ops : Array Oper} {Q : Exit → Act → World → Prop} {md : Region.Mode}

theorem getD_of_mtb {l : Array Bool} {i : Nat} (h : l.getD i true = false) : i < l.toList.length ∧ mtb l.toList i = false := by
  have hi : i < l.size := by
    rcases Nat.lt_or_ge i l.size with h1 | h1
    · exact h1
    · simp [Array.getD, Nat.not_lt.2 h1] at h
  refine ⟨by simpa using hi, ?_⟩
  simp [Array.getD, hi] at h
  simp [mtb, List.getD, hi, h]

theorem all_listed (hord : ∀ (i : Nat) (o : Oper), ops[i]? = some o → o.guard = none ∧ ∀ e ∈ o.after, e.on < i) {l : Array Bool} (hsz : l.size = ops.size) (hr : Region.ready md ops l = []) :
    ∀ i, i < ops.size → l.getD i true = true := by
  intro i
  induction i using Nat.strongRecOn with
  | _ i ih =>
    intro hi
    cases h : l.getD i true with
    | true => rfl
    | false =>
      have hm : i ∈ Region.ready md ops l := mem_ready.2 ⟨h, ops[i], Array.getElem?_eq_getElem hi, fun e he _ => by
        have h1 := (hord i ops[i] (Array.getElem?_eq_getElem hi)).2 e he
        have h2 := ih e.on h1 (by omega)
        have h3 : e.on < l.size := by omega
        simp [Array.getD, h3] at h2 ⊢
        exact h2⟩
      rw [hr] at hm
      simp at hm

/-- Whatever order is picked: an invariant of those listed, the frame and the world. -/
theorem wpAny_inv (Inv : Array Bool → Act → World → Prop) (hord : ∀ (i : Nat) (o : Oper), ops[i]? = some o → o.guard = none ∧ ∀ e ∈ o.after, e.on < i) (hsz : ∀ l a w, Inv l a w → l.size = ops.size)
    (hstep : ∀ l a w i o, Inv l a w → l.getD i true = false → ops[i]? = some o → (∀ e ∈ o.after, Region.binds md e = true → l.getD e.on false = true) → o.wp P a w (Inv (l.setIfInBounds i true)) Q)
    (hdone : ∀ l a w, Inv l a w → (∀ i, i < ops.size → l.getD i true = true) → Q .normal a w) :
    ∀ (fuel : Nat) (l : Array Bool) (a : Act) (w : World), Inv l a w → cnt l.toList ≤ fuel → wpAny P md ops Q fuel l a w
  | 0, l, a, w, h, hc => by
    have hr : Region.ready md ops l = [] := by
      apply List.eq_nil_iff_forall_not_mem.2
      intro i hi
      obtain ⟨h1, _⟩ := mem_ready.1 hi
      obtain ⟨h2, h3⟩ := getD_of_mtb h1
      have := cnt_set h2 h3
      omega
    exact ⟨hr, hdone l a w h (all_listed hord (hsz l a w h) hr)⟩
  | fuel + 1, l, a, w, h, hc => by
    refine ⟨fun hr => hdone l a w h (all_listed hord (hsz l a w h) hr), fun i hi => ?_⟩
    obtain ⟨h1, o, ho, h2⟩ := mem_ready.1 hi
    obtain ⟨h3, h4⟩ := getD_of_mtb h1
    have hcs := cnt_set h3 h4
    unfold wpOp
    rw [ho]
    have hw : Region.wanted o (yielded ops a.tmps) = true := by simp [Region.wanted, (hord i o ho).1]
    dsimp only
    rw [if_pos hw]
    refine .inl (Oper.wp_mono (fun a' w' h' => wpAny_inv Inv hord hsz hstep hdone fuel _ a' w' h' ?_) (hstep l a w i o h h1 ho h2))
    rw [Array.toList_setIfInBounds]
    omega

/-- No guards, and each waits for earlier ones alone. -/
def ordered (ops : Array Oper) : Bool := (List.range ops.size).all fun i => ((ops[i]?).map fun o => o.guard.isNone && o.after.all fun e => decide (e.on < i)).getD true
theorem ordered_spec (h : ordered ops = true) (i : Nat) (o : Oper) (ho : ops[i]? = some o) : o.guard = none ∧ ∀ e ∈ o.after, e.on < i := by
  have hi : i < ops.size := (Array.getElem?_eq_some_iff.1 ho).1
  have := List.all_eq_true.1 h i (List.mem_range.2 hi)
  rw [ho] at this
  simp only [Option.map_some, Option.getD_some, Bool.and_eq_true, Option.isNone_iff_eq_none] at this
  refine ⟨this.1, fun e he => ?_⟩
  have := (Array.all_eq_true_iff_forall_mem.1 this.2) e he
  simpa using this
theorem region_inv (Inv : Array Bool → Act → World → Prop) {id : Nat} {a : Act} {w : World} (hm : P.follows .mixedOrders = true) (hord : ordered ops = true) (hsz : ∀ l a w, Inv l a w → l.size = ops.size)
    (hstep : ∀ l a w i o, Inv l a w → l.getD i true = false → ops[i]? = some o → (∀ e ∈ o.after, Region.binds .any e = true → l.getD e.on false = true) → o.wp P a w (Inv (l.setIfInBounds i true)) Q)
    (hdone : ∀ l a w, Inv l a w → (∀ i, i < ops.size → l.getD i true = true) → Q .normal a w) (h0 : Inv (Array.replicate ops.size false) a w.drew) : (Code.region id ops true).wp P Q a w :=
  wp_region_any hm (wpAny_inv Inv (ordered_spec hord) hsz hstep hdone _ _ _ _ h0 (by rw [Array.toList_replicate]; have := cnt_le (List.replicate ops.size false); simpa using this))
end
end Go.Proofs.YtmfbokaaoffdnaaDoor
