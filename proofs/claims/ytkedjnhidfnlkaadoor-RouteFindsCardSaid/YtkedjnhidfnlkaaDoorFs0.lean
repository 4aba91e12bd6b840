/-
  The document's distances, in memory; pure.
-/
import Derived.Test.YtkedjnhidfnlkaaDoorFd
import Derived.Test.YtkedjnhidfnlkaaDoorQ6
namespace Go.Proofs.YtkedjnhidfnlkaaDoor
set_option maxRecDepth 100000
set_option linter.unusedSimpArgs false
open Go Go.RowKit Rq

/-- A mark, as the document writes it: one less. -/
def offV (v : Nat) : Value := .int .i64 ((v : Int) - 1)
def dv (d : List Nat) : Array Value := (d.map offV).toArray
theorem dv_made (n : Nat) : madeCells #[.int .i64 0] n = dv (List.replicate n 1) := by
  apply Array.toList_inj.1
  rw [toList_madeCells_one]
  unfold dv
  simp only [List.map_replicate]
  rfl
theorem dv_set (d : List Nat) (i v : Nat) : (dv d).setIfInBounds i (offV v) = dv (d.set i v) := by
  apply Array.toList_inj.1
  simp [dv]
theorem dv_get {d : List Nat} {i : Nat} (h : i < d.length) : (dv d)[i]? = some (offV (d.getD i 0)) := by simp [dv, List.getD, h]
structure DJ (gd : Nat) (d : List Nat) (w wr : World) : Prop where
  bl : Below w.heap.size w wr
  blk : wr.heap[gd]? = some (.cells (dv d) 3 (0, 0))
  lo : w.heap.size ≤ gd
theorem DJ.below {gd : Nat} {d : List Nat} {w wr w2 : World} (h : DJ gd d w wr) (hb : Below wr.heap.size wr w2) : DJ gd d w w2 :=
  ⟨h.bl.trans (hb.mono h.bl.size), (hb.block gd (blk_lt h.blk)).trans h.blk, h.lo⟩
theorem DJ.drewN {gd : Nat} {d : List Nat} {w wr : World} (h : DJ gd d w wr) (n : Nat) : DJ gd d w (wr.drewN n) := h.below (bel_drewN (Below.refl _ _) n)
theorem DJ.set {gd : Nat} {d : List Nat} {w wr : World} (h : DJ gd d w wr) (j v : Nat) : DJ gd (d.set j v) w (wr.setCell ⟨gd, j, none⟩ (offV v)) := by
  refine ⟨h.bl.setCell (p := ⟨gd, j, none⟩) h.lo _, ?_, h.lo⟩
  rw [blk_set h.blk, dv_set]
theorem DJ.cell {gd : Nat} {d : List Nat} {w wr : World} (h : DJ gd d w wr) {j : Nat} (hj : j < d.length) : wr.cell? ⟨gd, j, none⟩ = some (offV (d.getD j 0)) := by
  rw [blk_cell h.blk, dv_get hj]

/-- Left out, by the document. -/
def obF (ban : List Int) (fr y : Nat) : Bool := outB ban (y : Int) (fr : Int)
theorem may_ob (ban : List Int) (fr y : Nat) : mayZ ban fr y = !obF ban fr y := by
  unfold mayZ obF outB
  by_cases h : y = fr
  · subst h; simp
  · have : ((y : Int) != (fr : Int)) = true := by simp; omega
    rw [this]
    simp [h]

theorem fw_wy {bk : Nat → List Nat} {ban : List Int} {fr e : Nat} (he : obF ban fr e = false) {n x : Nat} : Fw bk (obF ban fr) e n x ↔ Wy bk (mayZ ban fr) e n x := by
  have hm : ∀ y, mayZ ban fr y = true ↔ obF ban fr y = false := fun y => by rw [may_ob]; simp
  constructor
  · intro h
    induction h with
    | base => exact .base ((hm _).2 he)
    | step _ h2 h3 ih => exact .step ih h2 ((hm _).2 h3)
  · intro h
    induction h with
    | base _ => exact .base
    | step _ h2 h3 ih => exact .step ih h2 ((hm _).1 h3)

/-- Behind a level that turned nothing all have been found. -/
theorem Rq.Ra.stop {N : Nat} {nx : Nat → List Nat} {ban : Nat → Bool} {c k : Nat} {d : List Nat} (h : Ra N nx ban c d (k + 1) 0 []) (ht : ∀ x v : Nat, d[x]? = some v → v ≤ k) (hnx : ∀ x, ∀ y ∈ nx x, y < N) : ∀ {m x : Nat}, Fw nx ban c m x → ∃ v : Nat, d[x]? = some (v + 1) := by
  intro m
  induction m with
  | zero =>
    intro x hw
    cases hw
    exact ⟨0, h.beg⟩
  | succ m ih =>
    intro x hw
    cases hw with
    | step h1 h2 h3 =>
      rename_i y
      obtain ⟨v, hv⟩ := ih h1
      have h4 := ht y _ hv
      exact h.low (v + 1) x (by omega) (hnx _ _ h2) (.step (h.pos y v hv).1 h2 h3)

/-- What the document's list of distances is. -/
def DstL (R C : Nat) (ms : List UInt8) (ban : List Int) (fr to_ : Nat) (d : List Nat) : Prop :=
  d.length = ms.length ∧ ∀ x, x < ms.length → d.getD x 0 = match dsZ R C ms ban fr to_ x with | none => 0 | some v => v + 1
theorem dst_of {R C : Nat} {ms : List UInt8} {ban : List Int} {fr to_ k a : Nat} {pre : List Nat} {d : List Nat} (ht : to_ < ms.length) (he : obF ban fr to_ = false) (h : Ra ms.length (ins R C ms) (obF ban fr) to_ d k a pre) (hall : ∀ n x, n < ms.length → Fw (ins R C ms) (obF ban fr) to_ n x → ∃ v : Nat, d[x]? = some (v + 1)) : DstL R C ms ban fr to_ d := by
  refine ⟨h.len, fun x hx => ?_⟩
  have hg : d[x]? = some (d.getD x 0) := by
    have := h.len
    simp [List.getD, List.getElem?_eq_getElem (show x < d.length by omega)]
  cases hz : dsZ R C ms ban fr to_ x with
  | none =>
    cases hv : d.getD x 0 with
    | zero => rfl
    | succ v =>
      rw [hv] at hg
      have h1 := (fw_wy he).1 (h.pos x v hg).1
      exact absurd h1 ((dsO_none ht (bkN R C ms)).1 hz v)
  | some n =>
    have hd : Ds (ins R C ms) (mayZ ban fr) to_ n x := (dsO_some ht (bkN R C ms)).1 hz
    have hn := hd.lt ht (fun _ _ hb => (ins_mem.1 hb).1)
    obtain ⟨v, hv⟩ := hall n x hn ((fw_wy he).2 hd.1)
    have hp := h.pos x v hv
    have h1 := hp.2 n ((fw_wy he).2 hd.1)
    have h2 : n ≤ v := by
      rcases Nat.lt_or_ge v n with h3 | h3
      · exact absurd ((fw_wy he).1 hp.1) (hd.2 v h3)
      · exact h3
    have : d.getD x 0 = v + 1 := by
      rw [hg] at hv
      exact Option.some.inj hv
    rw [this]
    show v + 1 = n + 1
    omega
theorem dst_none {R C : Nat} {ms : List UInt8} {ban : List Int} {fr to_ : Nat} (ht : to_ < ms.length) (he : obF ban fr to_ = true) : DstL R C ms ban fr to_ (List.replicate ms.length 0) := by
  refine ⟨by simp, fun x hx => ?_⟩
  have hz : dsZ R C ms ban fr to_ x = none := by
    refine (dsO_none ht (bkN R C ms)).2 (fun n hw => ?_)
    have hm : mayZ ban fr to_ = true := by
      have key : ∀ {n x}, Wy (ins R C ms) (mayZ ban fr) to_ n x → mayZ ban fr to_ = true := by
        intro n x h
        induction h with
        | base h => exact h
        | step _ _ _ ih => exact ih
      exact key hw
    rw [may_ob, he] at hm
    cases hm
  rw [hz]
  simp [List.getD, hx]
end Go.Proofs.YtkedjnhidfnlkaaDoor
