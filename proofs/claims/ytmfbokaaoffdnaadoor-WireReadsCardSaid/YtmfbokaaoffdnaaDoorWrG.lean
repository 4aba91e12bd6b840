/-
  The laws' example: hello, alive.
-/
import Derived.Test.YtmfbokaaoffdnaaDoorWrD
import Derived.Test.YtmfbokaaoffdnaaDoorWrF
import Derived.Test.YtmfbokaaoffdnaaDoorWrI
namespace Go.Proofs.YtmfbokaaoffdnaaDoor
set_option maxRecDepth 100000
set_option linter.unusedSimpArgs false
open Go Go.RowKit Wr

/-- Bytes in a block of the call's own. -/
structure Blk (w : World) (g cap : Nat) (l : List Nat) : Prop where
  blk : ∃ cur, w.heap[g]? = some (.cells cur 5 (0, 0)) ∧ cur.size = cap ∧ cur.toList.take l.length = l.map byV
  le : l.length ≤ cap
  mx : cap ≤ maxLen
theorem Blk.cell {w : World} {g cap : Nat} {l : List Nat} (h : Blk w g cap l) {j : Nat} (hj : j < l.length) : w.cell? ⟨g, j, none⟩ = some (byV (l.getD j 0)) := by
  obtain ⟨cur, h1, h2, h3⟩ := h.blk
  rw [blk_cell h1]
  have : (cur.toList.take l.length)[j]? = (l.map byV)[j]? := by rw [h3]
  rw [List.getElem?_take, if_pos hj] at this
  rw [← Array.getElem?_toList, this]
  simp [List.getD, hj]
theorem Blk.at_ {w : World} {g cap : Nat} {l : List Nat} (h : Blk w g cap l) : BytesAt w (some ⟨g, 0, none⟩) l := by
  intro j hj
  refine ⟨_, rfl, ?_⟩
  have e : (⟨g, 0, none⟩ : Addr).add j = ⟨g, j, none⟩ := by
    unfold Addr.add
    by_cases h0 : j = 0
    · subst h0; rfl
    · simp [h0]
  rw [e]
  exact h.cell hj
theorem Blk.lt {w : World} {g cap : Nat} {l : List Nat} (h : Blk w g cap l) : g < w.heap.size := by
  obtain ⟨cur, h1, _⟩ := h.blk
  exact blk_lt h1
theorem Blk.free {w : World} {g cap : Nat} {l : List Nat} (h : Blk w g cap l) (j : Nat) : w.frozen? ⟨g, j, none⟩ = false := by
  obtain ⟨cur, h1, _⟩ := h.blk
  exact blk_free h1 j
theorem Blk.below {w w' : World} {g cap : Nat} {l : List Nat} (h : Blk w g cap l) (hb : Below w.heap.size w w') : Blk w' g cap l := by
  obtain ⟨cur, h1, h2⟩ := h.blk
  exact ⟨⟨cur, ((Kept.of_below (X := fun _ => False) hb (Nat.le_refl _)).block _ (blk_lt h1) id).trans h1, h2⟩, h.le, h.mx⟩
theorem row_blk {W : World} {base : Nat} {v : Value} {l : List Nat} (h : W.ownsRow base 5 1 v l.length (l.map byV)) (hl : l ≠ []) : ∃ g cap, v = .slice (some ⟨g, 0, none⟩) l.length cap ∧ base ≤ g ∧ Blk W g cap l := by
  rcases h.2 with ⟨rfl, h0⟩ | ⟨g, cap, cur, rfl, hb, hg, hle, hmx, hsz, htk⟩
  · exact absurd (List.length_eq_zero_iff.1 h0) hl
  · exact ⟨g, cap, rfl, hb, ⟨⟨cur, hg, by omega, by simpa using htk⟩, hle, hmx⟩⟩
theorem bytes_len (p : Pkt) : (Wr.bytes p).length = sizeM p.msg := by
  have h1 : ∀ l : List (Int × Nat), (l.flatMap clm).length = l.length * 6 := by
    intro l
    induction l with
    | nil => rfl
    | cons c l ih => simp [clm, be_length] at ih ⊢; omega
  have h2 : ∀ (m : Msg) (l : List Nat), (l.flatMap (fun f => be (wid f) (num m f))).length = sumW l := by
    intro m l
    have : ∀ (l : List Nat) (n : Nat), (l.map wid).foldl (· + ·) n = n + ((l.map wid).foldl (· + ·) 0) := by
      intro l
      induction l with
      | nil => simp
      | cons x l ih => intro n; simp only [List.map_cons, List.foldl_cons]; rw [ih, ih (0 + wid x)]; omega
    induction l with
    | nil => rfl
    | cons x l ih =>
      simp only [List.flatMap_cons, List.length_append, be_length, ih, sumW, List.map_cons, List.foldl_cons]
      rw [this l (0 + wid x)]; omega
  have h3 : sizeM p.msg = 2 * (19 + p.msg.claims.length * 6 + sumW (flds p.msg.kind)) := rfl
  rw [h3]
  unfold Wr.bytes plain body
  rw [dbl_length]
  simp only [List.length_append, be_length, h1, h2]
  omega
theorem bytes_lt (p : Pkt) : ∀ c ∈ Wr.bytes p, c < 256 := by
  have hp : ∀ c ∈ plain p, c < 256 := by
    intro c hc
    unfold plain body clm at hc
    simp only [List.mem_append, List.mem_flatMap] at hc
    rcases hc with h | h | h | h | h | h | h | ⟨_, _, h⟩ | ⟨_, _, h | h⟩ <;> exact be_lt h
  intro c hc
  unfold Wr.bytes dbl at hc
  rw [List.mem_flatMap] at hc
  obtain ⟨x, hx, h⟩ := hc
  have := hp x hx
  simp at h
  rcases h with rfl | rfl <;> omega
theorem bytes_ne (p : Pkt) : Wr.bytes p ≠ [] := by
  intro h
  have := bytes_len p
  rw [h] at this
  unfold sizeM at this
  simp only [List.length_nil] at this
  omega

/-- Bytes, its answer a block. -/
def BytesB (w : World) (p : Pkt) (e : Ending) (w' : World) : Prop :=
  Below w.heap.size w w' ∧ ((okP p = false ∧ e = .returned (.tuple #[.slice none 0 0, .int .i64 71])) ∨ (okP p = true ∧ ∃ g cap, e = .returned (.tuple #[.slice (some ⟨g, 0, none⟩) (Wr.bytes p).length cap, .int .i64 0]) ∧ w.heap.size < g ∧ Blk w' g cap (Wr.bytes p)))
theorem bytesB_any {w : World} (hT : Tab w) (p : Pkt) {A : Option Addr} (cap : Nat) (hC : ClaimsAt w A p.msg.claims) (hl : p.msg.claims.length ≤ 100000) (hf : Fits p) :
    Calls Tryd.prog 9 #[pktA p A p.msg.claims.length cap] w (BytesB w p) := by
  refine (bytes_any hT p cap hC hl hf).mono ?_
  rintro e w' ⟨hb, ⟨h1, h2⟩ | ⟨h1, v, rfl, hr⟩⟩
  · exact ⟨hb, .inl ⟨h1, h2⟩⟩
  · obtain ⟨g, cap', rfl, hg, hB⟩ := row_blk hr (bytes_ne p)
    exact ⟨hb, .inr ⟨h1, g, cap', rfl, hg, hB⟩⟩

def helloP : Pkt := ⟨1, 2, 1, 0, 0, 0, ⟨9, 0, 0, 0, 0, 0, 0, 0, []⟩⟩
theorem hello_ok : okP helloP = true ∧ Wr.bytes helloP = [1, 254, 2, 253, 0, 255, 0, 255, 0, 255, 1, 254, 0, 255, 0, 255, 0, 255, 0, 255, 0, 255, 0, 255, 0, 255, 0, 255, 0, 255, 0, 255, 0, 255, 0, 255, 9, 246] := by decide +kernel

end Go.Proofs.YtmfbokaaoffdnaaDoor
