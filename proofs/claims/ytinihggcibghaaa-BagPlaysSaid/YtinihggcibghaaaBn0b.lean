/-
  Beside two bags: questions; what a call leaves as it is.
-/
import Derived.Test.YtinihggcibghaaaBm2
import Derived.Test.YtinihggcibghaaaBd
import Derived.Test.YtinihggcibghaaaBh
namespace Go.Proofs.Ytinihggcibghaaa
set_option maxRecDepth 100000
set_option linter.unusedSimpArgs false
open Go Go.RowKit Bg
attribute [local go_sem] Oper.semAt_some

theorem row_same {w w' : World} {B : Nat} {e : TypeId} {s : Nat} {v : Value} {n : Nat} {xs : List Value} (h : w.ownsRow B e s v n xs) (hk : ∀ g, v.ownBlock = some g → w'.heap[g]? = w.heap[g]?) : w'.ownsRow B e s v n xs := by
  refine ⟨h.1, ?_⟩
  rcases h.2 with h1 | ⟨g, cap, cur, rfl, hb, hg, rest⟩
  · exact .inl h1
  · exact .inr ⟨g, cap, cur, rfl, hb, (hk g rfl).trans hg, rest⟩
theorem Own.same {w w' : World} {S : Nat → Prop} {o : Nat} {v : Value} {E : List Ent} (h : Own w S o v E) (hk : ∀ k, S k → w'.heap[k]? = w.heap[k]?) : Own w' S o v E :=
  ⟨row_same h.row (fun g hg => hk g (h.vo g hg).1), fun e he => row_same (h.dat e he) (fun g hg => hk g (h.eo e he g hg).1), h.vo, h.eo, h.apart⟩
theorem Own.q {W : World} {S : Nat → Prop} {o : Nat} {v : Value} {E : List Ent} {l : List Fl} (h2 : Own W S o v E) (h1 : E.map (·.1) = l) {A : Option Addr} {cap : Nat} (hv : v = .slice A l.length cap) : (0 < l.length → ∃ g, A = some ⟨g, 0, none⟩ ∧ AllQ W l g cap) ∧ l.length ≤ cap ∧ cap ≤ maxLen := by
  obtain ⟨A', cap', rfl, h4, h5, h6⟩ := h2.form
  have hlen : E.length = l.length := by rw [← h1]; simp
  injection hv with e1 _ e3
  subst e1 e3
  refine ⟨fun h0 => ?_, by omega, h5⟩
  obtain ⟨g, rfl⟩ := h6 (by omega)
  refine ⟨g, rfl, ⟨fun k hk => ?_⟩⟩
  obtain ⟨x0, x1, x2, x3, x4⟩ := h2.cells (k := k) (by omega)
  obtain ⟨a1, _⟩ := h2.ent (k := k) (by omega)
  unfold Ent.v at x3
  rw [entD h1] at x0 x1 x2 x3 x4 a1
  exact ⟨⟨x0, x1, x2, x4⟩, _, _, x3, a1⟩
section
variable {w0 V W : World} {o1 o2 k : Nat} {b b2 : St} {F : Nat → Prop}
/-- A list that was told: the bags' it is not. -/
structure Told (w0 : World) (o1 o2 : Nat) (b b2 : St) (F : Nat → Prop) (V W : World) (l : List Fl) (v : Value) (w' : World) : Prop where
  own : ∃ E, E.map (·.1) = l ∧ Own w' (fun k => W.heap.size < k ∧ k < w'.heap.size) W.heap.size v E
  below : Below W.heap.size W w'
  two : Two w0 o1 o2 b b2 F V w'
theorem two1_all (h : Two w0 o1 o2 b b2 F V W) (hb : Bd k b) : Calls Try.prog 14 #[.pointer (some ⟨o1, 0, none⟩)] W fun e w' => ∃ v, e = .returned v ∧ (∃ A cap, v = .slice A b.l.length cap ∧ b.l.length ≤ cap ∧ cap ≤ maxLen) ∧ Told w0 o1 o2 b b2 F V W b.l v w' := by
  have h0 := h
  obtain ⟨S, h1, _, h2⟩ := h.use1
  refine (all_any h1 hb).mono ?_
  rintro e w' ⟨v, E, rfl, h3, h4, h5⟩
  obtain ⟨A, cap, h6, h7, h8, _⟩ := h4.form
  have hlen : E.length = b.l.length := by rw [← h3]; simp
  exact ⟨v, rfl, ⟨A, cap, by rw [h6, hlen], by omega, h8⟩, ⟨⟨E, h3, h4⟩, h5, h0.later h5⟩⟩
theorem Told.allL {l : List Fl} {v : Value} {w' w2 : World} (h : Told w0 o1 o2 b b2 F V W l v w') {A : Option Addr} {cap : Nat} (hv : v = .slice A l.length cap) (hs : ∀ k, W.heap.size ≤ k → k < w'.heap.size → w2.heap[k]? = w'.heap[k]?) (h256 : l.length ≤ 256) (hlt : ∀ x ∈ l, ∀ c ∈ x.d, c < 256) : AllL w2 l A cap := by
  obtain ⟨E, h1, h2⟩ := h.own
  obtain ⟨h3, h4, _⟩ := (h2.same (fun k hk => hs k (by omega) hk.2)).q h1 hv
  exact ⟨h3, h4, h256, hlt⟩
theorem two1_count (h : Two w0 o1 o2 b b2 F V W) : Calls Try.prog 18 #[.pointer (some ⟨o1, 0, none⟩)] W fun e w' => e = .returned (ctA b.c) ∧ Below W.heap.size W w' := by
  obtain ⟨S, h1, _, h2⟩ := h.use1
  exact count_any h1
theorem two1_len (h : Two w0 o1 o2 b b2 F V W) : Calls Try.prog 17 #[.pointer (some ⟨o1, 0, none⟩)] W fun e w' => e = .returned (.int .i64 (b.l.length : Nat)) ∧ W = w' := by
  obtain ⟨S, h1, _, h2⟩ := h.use1
  exact len_any h1
theorem two1_find (h : Two w0 o1 o2 b b2 F V W) (hb : Bd k b) (n : Int) : Calls Try.prog 12 #[.pointer (some ⟨o1, 0, none⟩), .int .i64 n] W fun e w' => FinP (finX b n) e w' ∧ Below W.heap.size W w' := by
  obtain ⟨S, h1, _, h2⟩ := h.use1
  exact find_any h1 hb n
/-- Two new bags. -/
theorem Two.new (w0 W : World) (hb : Below w0.heap.size w0 W) (F : Nat → Prop) (hF : ∀ k, F k → k < W.heap.size) :
    Two w0 W.heap.size (W.heap.size + 1) zero zero F W ((W.alloc (.cells #[.slice none 0 0, .int .i64 0, .int .i64 0, .int .i64 0, .int .i64 0, .int .i64 0, .int .i64 0, .int .i64 0] 29)).alloc (.cells #[.slice none 0 0, .int .i64 0, .int .i64 0, .int .i64 0, .int .i64 0, .int .i64 0, .int .i64 0, .int .i64 0] 32)) := by
  have hz : ∀ (W : World) (t : TypeId) (o : Nat), W.heap[o]? = some (.cells #[.slice none 0 0, .int .i64 0, .int .i64 0, .int .i64 0, .int .i64 0, .int .i64 0, .int .i64 0, .int .i64 0] t (0, 0)) → o < W.heap.size → BagAt t W (fun k => k = o) o zero := fun W t o h hlt =>
    ⟨⟨.slice none 0 0, [], rfl, h, ⟨World.ownsRow_nil _ _ _ _, fun e he => absurd he (List.not_mem_nil), fun g hg => (by cases hg), fun e he => absurd he (List.not_mem_nil), List.Pairwise.nil⟩⟩, rfl, fun k hk => by rw [hk]; exact hlt⟩
  have hsz := hb.size
  refine ⟨(hb.alloc hb.size _).alloc (by simp; omega) _, fun k => k = W.heap.size, fun k => k = W.heap.size + 1, hz _ _ _ ?_ (by simp; omega), hz _ _ _ ?_ (by simp), fun k h1 h2 => by omega, fun k hk => by omega, fun k hk => by omega, fun k hk => ?_⟩
  · exact (Below.heap_alloc _ _ _ (by simp)).trans (World.alloc_heap_new W _)
  · have := World.alloc_heap_new (W.alloc (.cells #[.slice none 0 0, .int .i64 0, .int .i64 0, .int .i64 0, .int .i64 0, .int .i64 0, .int .i64 0, .int .i64 0] 29)) (.cells #[.slice none 0 0, .int .i64 0, .int .i64 0, .int .i64 0, .int .i64 0, .int .i64 0, .int .i64 0, .int .i64 0] 32)
    rwa [World.size_alloc] at this
  · have := hF k hk
    exact ⟨⟨this, (Below.heap_alloc _ _ _ (by simp; omega)).trans (Below.heap_alloc _ _ _ this)⟩, by omega, by omega⟩
end

namespace Bg
theorem Srt.sendN {b : St} (h : Srt b) (x : Cl) : ∀ n, Srt (sendN b x n)
  | 0 => h
  | n + 1 => (h.sendN x n).send _ _ _
theorem Srt.doS {b : St} (h : Srt b) (x : Cl) : Srt (doS b x) := by
  unfold Go.Proofs.Ytinihggcibghaaa.doS
  split
  · exact h.sendN x _
  split
  · exact h.del _
  split
  · exact h.drop _
  split
  · exact h.dbl _
  split
  · exact h.spoil _ _ _
  · exact h
/-- What a call answers: whether it was refused. -/
def eV (b : St) (x : Cl) : Int := if x.kind = 1 then (delX b x.n).2 else if x.kind = 2 then errV b x.n else if x.kind = 3 then (dblX b x.n).2 else if x.kind = 4 then spoilV b x.n x.at_ x.v else 0
/-- A call that is refused changes nothing. -/
theorem refused {b : St} {x : Cl} (h0 : x.kind ≠ 0) (h : eV b x ≠ 0) : opS b x = b := by
  unfold eV at h
  unfold opS
  rw [if_neg h0]
  split
  · rename_i h1
    rw [if_pos h1] at h
    unfold delX at h; unfold delS
    split <;> simp_all
  rename_i h1
  rw [if_neg h1] at h
  split
  · rename_i h2
    rw [if_pos h2] at h
    unfold errV at h; unfold dropS
    split <;> simp_all
  rename_i h2
  rw [if_neg h2] at h
  split
  · rename_i h3
    rw [if_pos h3] at h
    unfold dblX at h; unfold dblS
    split <;> simp_all
  rename_i h3
  rw [if_neg h3] at h
  split
  · rename_i h4
    rw [if_pos h4] at h
    unfold spoilV at h; unfold spoilS
    split
    · rfl
    · rename_i i hi
      rw [hi] at h
      split
      · rename_i hc; simp only at h; rw [if_pos hc] at h; exact absurd rfl h
      · rfl
  · rfl
theorem mem_erase {l : List Fl} {i j : Nat} (hi : i < l.length) (hne : i ≠ j) : l[i] ∈ l.eraseIdx j := by
  rw [List.mem_eraseIdx_iff_getElem]
  exact ⟨i, hi, hne, rfl⟩
/-- Another packet stays. -/
theorem stays {b : St} {x : Cl} (h0 : x.kind ≠ 0) {i : Nat} (hi : i < b.l.length) (hn : (b.l.getD i noFl).n ≠ x.n) : b.l.getD i noFl ∈ (opS b x).l := by
  have e : b.l.getD i noFl = b.l[i] := by rw [List.getD_eq_getElem?_getD, List.getElem?_eq_getElem hi]; rfl
  have hm : b.l[i] ∈ b.l := List.getElem_mem hi
  have hne : ∀ j, idx b.l x.n = some j → i ≠ j := fun j hj e2 => hn (by rw [e2]; exact (idx_some hj).2)
  unfold opS
  rw [if_neg h0, e]
  split
  · unfold delS
    split
    · exact hm
    · rename_i j hj; exact mem_erase hi (hne j hj)
  split
  · unfold dropS
    split
    · exact hm
    · rename_i j hj; exact mem_erase hi (hne j hj)
  split
  · unfold dblS
    split
    · exact hm
    · unfold comeS
      split
      · exact hm
      · exact List.mem_append_left _ hm
  split
  · unfold spoilS
    split
    · exact hm
    · rename_i j hj
      split
      · have hjl := (idx_some hj).1
        have h2 : (b.l.set j (spoilt (b.l.getD j noFl) x.at_.toNat x.v))[i]'(by simpa using hi) = b.l[i] := by
          rw [List.getElem_set, if_neg (fun e2 => hne j hj e2.symm)]
        rw [← h2]
        exact List.getElem_mem _
      · exact hm
  · exact hm
theorem found {b : St} (hs : Srt b) {x : Cl} (h0 : x.kind ≠ 0) {i : Nat} (hi : i < b.l.length) (hn : (b.l.getD i noFl).n ≠ x.n) : finX (opS b x) (b.l.getD i noFl).n = (b.l.getD i noFl, true) := by
  obtain ⟨j, hj, e⟩ := List.getElem_of_mem (stays h0 hi hn)
  have e2 : (opS b x).l.getD j noFl = b.l.getD i noFl := by rw [List.getD_eq_getElem?_getD, List.getElem?_eq_getElem hj]; exact e
  have := (hs.op x).idx hj
  rw [e2] at this
  unfold finX
  rw [this]
  simp only [e2]
end Bg
end Go.Proofs.Ytinihggcibghaaa
