/-
  A statement's operations, cut in two: what is known between.
-/
import Derived.OwnWalk
import Derived.RowKit
import Derived.Orders
namespace Go.Proofs.YtmfbokaaoffdnaaDoor
set_option maxRecDepth 100000
open Go Go.RowKit

/-- Behind the first operations R is known; a panic is what it was. -/
def cutQ (Q : Exit → Act → World → Prop) (R : Act → World → Prop) : Exit → Act → World → Prop
  | .normal, a, w => R a w
  | .panic c, a, w => Q (.panic c) a w
  | .outgrown, a, w => Q .outgrown a w
  | _, _, _ => False

theorem oper_cut {P : Program} {Q : Exit → Act → World → Prop} {R : Act → World → Prop} {o : Oper} {a : Act} {w : World} {K K' : Act → World → Prop} (h : ∀ a w, K a w → K' a w)
    (hh : o.wp P a w K (cutQ Q R)) : o.wp P a w K' Q := by
  unfold Oper.wp at *
  generalize (execOp a.eval o).run P w = r at *
  cases r with
  | ok n w' =>
    cases n <;> simp only [Oper.upon] at hh ⊢ <;>
      first
        | exact h _ _ hh
        | exact Calls.mono hh (fun e w'' he => by cases e <;> first | exact h _ _ he | exact he)
        | exact Rows.mono hh (fun _ _ he => h _ _ he)
  | halt x w' => cases x <;> simp only [Oper.upon] at hh ⊢ <;> exact hh

theorem wpList_cut {P : Program} {ops : Array Oper} {Q : Exit → Act → World → Prop} {R : Act → World → Prop} {rest : List Oper} (hR : ∀ a w, R a w → wpList P ops Q rest a w) :
    ∀ (pre : List Oper) (a : Act) (w : World), wpList P ops (cutQ Q R) pre a w → wpList P ops Q (pre ++ rest) a w
  | [], a, w, h => hR a w h
  | o :: pre, a, w, h => by
    have ih := wpList_cut (P := P) (ops := ops) (Q := Q) hR pre
    rw [List.cons_append]
    unfold wpList at h ⊢
    split
    · rename_i hw
      rw [if_pos hw] at h
      rcases h with h | ⟨h1, h2⟩
      · exact .inl (oper_cut (fun a w => ih a w) h)
      · refine .inr ⟨h1, ?_⟩
        obtain ⟨a0, w0, h3⟩ := h2
        exact ⟨a0, w0, h3⟩
    · rename_i hw
      rw [if_neg hw] at h
      exact ih _ _ h
end Go.Proofs.YtmfbokaaoffdnaaDoor
