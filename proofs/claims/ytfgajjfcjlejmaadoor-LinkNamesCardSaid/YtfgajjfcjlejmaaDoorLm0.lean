/-
  Links beside one another; rows beside a link that has turned; the law's helpers.
-/
import Derived.Test.YtfgajjfcjlejmaaDoorLkR
import Derived.Test.YtfgajjfcjlejmaaDoorLkP
import Derived.Test.YtfgajjfcjlejmaaDoorLkQ
namespace Go.Proofs.YtfgajjfcjlejmaaDoor
set_option maxRecDepth 100000
set_option linter.unusedSimpArgs false
open Go Go.RowKit Wr
attribute [local go_sem] Oper.semAt_some

/-- Another link beside one that has turned. -/
theorem LnkAt.side {w w' : World} {T S S' S2 : Nat → Prop} {o2 N2 : Nat} {s2 : Lk.S} (h2 : LnkAt w T S2 o2 N2 s2) (hk : Kept S w w') (hst : ∀ k, S k → T k) (hd : ∀ k, S2 k → ¬ S k) (hS' : ∀ k, S' k → S k ∨ w.heap.size ≤ k) (hlt : ∀ k, S' k → k < w'.heap.size) :
    LnkAt w' (fun k => T k ∨ S' k) S2 o2 N2 s2 ∧ ∀ k, S2 k → ¬ S' k := by
  obtain ⟨⟨v, E, mb, b1, b2, b3, b4, b5, b6, b7⟩, c1, c2, c3⟩ := h2
  have hT : ∀ k, k < w.heap.size → (T k ∨ S' k) → T k := fun k hk h => h.elim id (fun h => (hS' k h).elim (hst k) (fun h => by omega))
  have e3 : OpnAt w' (fun k => T k ∨ S' k) v E := (b3.more hT).kept hk (fun k h => .inl (hst k h)) (fun g hg => hd g (b7 g hg).1)
  have e4 : ErlAt w' (fun k => T k ∨ S' k) mb N2 s2.erl := (b4.more hT).kept hk (fun k h => .inl (hst k h)) (hd _ b5)
  refine ⟨⟨⟨v, E, mb, b1, (hk.block _ (c3 _ (c2 _ c1)) (hd _ c1)).trans b2, e3, e4, b5, b6, b7⟩, c1, fun k hk => .inl (c2 k hk), fun k h => h.elim (fun h => Nat.lt_of_lt_of_le (c3 k h) hk.size) (hlt k)⟩, fun k hk hs => ?_⟩
  rcases hS' k hs with h | h
  · exact hd k hk h
  · have := c3 k (c2 k hk); omega
theorem PktsR.side {w w' : World} {T S S' : Nat → Prop} {B : Nat} {v : Value} {L : List Pkt} (h : PktsR w T B v L) (hk : Kept S w w') (hst : ∀ k, S k → T k) (hS' : ∀ k, S' k → S k ∨ w.heap.size ≤ k) (hv : ∀ g, v.ownBlock = some g → ¬ S g) : PktsR w' (fun k => T k ∨ S' k) B v L ∧ ∀ g, v.ownBlock = some g → ¬ S' g := by
  refine ⟨?_, fun g hg hs => ?_⟩
  · obtain ⟨E, h1, h2, h3⟩ := h
    exact ⟨E, h1, hk.row h2 hv, fun e he => (h3 e he).beside hk hst hS'⟩
  · obtain ⟨_, cur, hc⟩ := h.blk hg
    have := blk_lt hc
    rcases hS' g hs with h | h
    · exact hv g hg h
    · omega
theorem MsgsR.side {w w' : World} {T S S' : Nat → Prop} {B : Nat} {v : Value} {L : List Msg} (h : MsgsR w T B v L) (hk : Kept S w w') (hst : ∀ k, S k → T k) (hS' : ∀ k, S' k → S k ∨ w.heap.size ≤ k) (hv : ∀ g, v.ownBlock = some g → ¬ S g) : MsgsR w' (fun k => T k ∨ S' k) B v L ∧ ∀ g, v.ownBlock = some g → ¬ S' g := by
  refine ⟨?_, fun g hg hs => ?_⟩
  · obtain ⟨E, h1, h2, h3⟩ := h
    exact ⟨E, h1, hk.row h2 hv, fun e he => (h3 e he).beside hk hst hS'⟩
  · obtain ⟨_, cur, hc⟩ := h.blk hg
    have := blk_lt hc
    rcases hS' g hs with h | h
    · exact hv g hg h
    · omega
theorem PktsR.of_below {w w' : World} {T T' : Nat → Prop} {B : Nat} {v : Value} {L : List Pkt} (h : PktsR w T B v L) (hb : Below w.heap.size w w') (hT : ∀ k, k < w.heap.size → T' k → T k) : PktsR w' T' B v L := (h.more hT).below hb
theorem MsgsR.below {w w' : World} {T : Nat → Prop} {B : Nat} {v : Value} {L : List Msg} (h : MsgsR w T B v L) (hb : Below w.heap.size w w') : MsgsR w' T B v L := h.keptX (X := fun _ => False) (Kept.of_below hb (Nat.le_refl _)) (fun _ h => h.elim) (fun _ _ => id)
/-- The list's shape and the k-th packet's cells. -/
theorem PktsR.shape {w : World} {T : Nat → Prop} {B : Nat} {v : Value} {L : List Pkt} (h : PktsR w T B v L) : ∃ A cap, v = .slice A L.length cap := by
  obtain ⟨E, h1, h2, _⟩ := h
  have hl : E.length = L.length := by rw [← h1]; simp
  rcases h2.2 with ⟨e, h0⟩ | ⟨g, c, cur, e, _⟩
  · exact ⟨none, 0, by rw [e, ← hl, h0]⟩
  · exact ⟨_, _, by rw [e, hl]⟩
theorem MsgsR.shape {w : World} {T : Nat → Prop} {B : Nat} {v : Value} {L : List Msg} (h : MsgsR w T B v L) : ∃ A cap, v = .slice A L.length cap := by
  obtain ⟨E, h1, h2, _⟩ := h
  have hl : E.length = L.length := by rw [← h1]; simp
  rcases h2.2 with ⟨e, h0⟩ | ⟨g, c, cur, e, _⟩
  · exact ⟨none, 0, by rw [e, ← hl, h0]⟩
  · exact ⟨_, _, by rw [e, hl]⟩
def PkCells (W : World) (g i : Nat) (p : Pkt) (A : Option Addr) (cap : Nat) : Prop :=
  ∀ j u, (pkC p (.slice A p.msg.claims.length cap))[j]? = some u → W.cell? ((⟨g, 0, none⟩ : Addr).add (i + j)) = some u
theorem PktsR.get {w : World} {T : Nat → Prop} {B : Nat} {v : Value} {L : List Pkt} (h : PktsR w T B v L) {k : Nat} (hk : k < L.length) : ∃ g cap A c, v = .slice (some ⟨g, 0, none⟩) L.length cap ∧ PkCells w g (k * 15) (L.getD k default) A c ∧ ClT w T A (L.getD k default).msg.claims c := by
  obtain ⟨E, h1, h2, h3⟩ := h
  have hl : E.length = L.length := by rw [← h1]; simp
  have hkE : k < E.length := by omega
  have he : (E.getD k noPEn).1 = L.getD k default ∧ E.getD k noPEn ∈ E := by
    have e1 : E.getD k noPEn = E[k] := by rw [List.getD_eq_getElem?_getD, List.getElem?_eq_getElem hkE]; rfl
    refine ⟨?_, by rw [e1]; exact List.getElem_mem _⟩
    rw [e1, ← h1, List.getD_eq_getElem?_getD, List.getElem?_map, List.getElem?_eq_getElem hkE]; rfl
  have h2' := h2
  rcases h2.2 with ⟨e, h0⟩ | ⟨g, c, cur, e, _⟩
  · omega
  · refine ⟨g, c, (E.getD k noPEn).2.1, (E.getD k noPEn).2.2, by rw [e, hl], fun j u hu => ?_, ?_⟩
    · have hj : j < 15 := by
        have := (List.getElem?_eq_some_iff.1 hu).1
        simpa [pkC] using this
      rw [e] at h2'
      refine h2'.cells rfl (k * 15 + j) u ?_
      rw [csP_get hkE hj, he.1]
      unfold PEn.v
      rw [he.1]
      exact hu
    · rw [← he.1]; exact h3 _ he.2

/-- The chapter's rule. -/
theorem rule_any (w : World) : Calls Tryd.prog 26 #[] w fun e w' => e = .returned (ruV 4 16) ∧ Below w.heap.size w w' := by
  have HB : Hid (∀ o, Below w.heap.size w (w.alloc o)) := fun o => (Below.refl _ w).alloc (Nat.le_refl _) o
  go_enter Tryd.func26, Tryd.ntmps26
  go_wp2
  refine bodyPost_ret (v := ruV 4 16) (by simp [results, Tryd.results26, go_sem]) rfl ⟨rfl, HB.out _⟩
/-- A Release. -/
def freeM (n : Int) : Msg := ⟨3, n, 1, 0, 0, 0, 0, 0, []⟩
theorem free_any (w : World) (n : Int) : Calls Tryd.prog 27 #[.int .i64 n] w fun e w' => e = .returned (msgA (freeM n) none 0 0) ∧ Below w.heap.size w w' := by
  have HB : Hid (∀ o, Below w.heap.size w (w.alloc o)) := fun o => (Below.refl _ w).alloc (Nat.le_refl _) o
  go_enter Tryd.func27, Tryd.ntmps27
  go_wp2
  refine bodyPost_ret (v := msgA (freeM n) none 0 0) (by simp [results, Tryd.results27, go_sem, freeM]) rfl ⟨rfl, HB.out _⟩
end Go.Proofs.YtfgajjfcjlejmaaDoor
