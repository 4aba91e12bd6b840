/-
  Lists of records in memory.
-/
import Derived.Test.YtijhkjegpcmjoaaCl8
namespace Go.Proofs.Ytijhkjegpcmjoaa
set_option maxRecDepth 100000
set_option linter.unusedSimpArgs false
open Go Go.RowKit Cl

def rcs (r : Rc) : List Value := [.int .i64 r.k, .int .i64 r.n, .slice r.A r.d.length r.cap]
def csR (l : List Rc) : List Value := l.flatMap rcs
theorem csR_length (A : List Rc) : (csR A).length = A.length * 3 := by
  induction A with
  | nil => rfl
  | cons x A ih => simp only [csR, List.flatMap_cons, List.length_append] at *; rw [ih]; simp [rcs]; omega
theorem csR_append (A B : List Rc) : csR (A ++ B) = csR A ++ csR B := by simp [csR]
theorem csR_one (A : List Rc) : ∀ v ∈ csR A, v.oneCell' = true := by
  intro v hv
  simp only [csR, List.mem_flatMap] at hv
  obtain ⟨x, _, hv⟩ := hv
  simp [rcs] at hv
  rcases hv with rfl | rfl | rfl <;> rfl
theorem csR_get {A : List Rc} {j : Nat} (h : j < A.length) (k : Nat) (hk : k < 3) : (csR A)[j * 3 + k]? = (rcs (A.getD j default))[k]? := by
  have h1 : csR A = csR (A.take j) ++ (rcs (A.getD j default) ++ csR (A.drop (j + 1))) := by
    have : A = A.take j ++ A.getD j default :: A.drop (j + 1) := by
      rw [show A.getD j default = A[j] by simp [List.getD, h], List.getElem_cons_drop, List.take_append_drop]
    conv => lhs; rw [this]
    rw [csR_append]; rfl
  have h2 : (csR (A.take j)).length = j * 3 := by rw [csR_length, List.length_take]; omega
  rw [h1, List.getElem?_append_right (by omega), h2, Nat.add_sub_cancel_left, List.getElem?_append_left (by simp [rcs]; omega)]
theorem rs_of_cells {w : World} {g : Nat} {l : List Rc} (h : ∀ j u, (csR l)[j]? = some u → w.cell? ⟨g, j, none⟩ = some u) (hd : ∀ j, j < l.length → DOk w (l.getD j default)) : RsAt w (some ⟨g, 0, none⟩) l := by
  intro j hj
  have e : (⟨g, 0, none⟩ : Addr).add (j * 3) = ⟨g, j * 3, none⟩ := by unfold Addr.add; split <;> simp_all
  refine ⟨_, rfl, ?_, hd j hj⟩
  rw [e]
  exact ⟨h (j * 3) _ (by have := csR_get hj 0 (by omega); rw [Nat.add_zero] at this; rw [this]; rfl), h (j * 3 + 1) _ (by rw [csR_get hj 1 (by omega)]; rfl), h (j * 3 + 2) _ (by rw [csR_get hj 2 (by omega)]; rfl)⟩
theorem rs_block {w : World} {g : Nat} {l : List Rc} {cs : Array Value} {t : TypeId} {m : Nat × Nat} (h : w.heap[g]? = some (.cells cs t m)) (hc : cs.toList = csR l) (hd : ∀ j, j < l.length → DOk w (l.getD j default)) : RsAt w (some ⟨g, 0, none⟩) l := by
  refine rs_of_cells (fun j u hu => ?_) hd
  rw [blk_cell h, ← hu, ← hc, Array.getElem?_toList]
theorem DOk.none_ (w : World) (k n : Int) (cap : Nat) : DOk w ⟨k, n, [], none, cap⟩ := ⟨fun i hi => by simp at hi, fun i => by simp [List.getD]⟩
theorem DOk.block {w : World} {k n : Int} {d : List Int} {g cap : Nat} {cs : Array Value} {t : TypeId} {m : Nat × Nat} (h : w.heap[g]? = some (.cells cs t m)) (hc : cs.toList = d.map (Value.int .u8)) (hb : ∀ x ∈ d, 0 ≤ x ∧ x ≤ 255) : DOk w ⟨k, n, d, some ⟨g, 0, none⟩, cap⟩ := by
  refine ⟨fun i hi => ⟨_, rfl, ?_⟩, fun i => ?_⟩
  · have e : (⟨g, 0, none⟩ : Addr).add i = ⟨g, i, none⟩ := by unfold Addr.add; split <;> simp_all
    rw [e, blk_cell h]
    have : cs[i]? = cs.toList[i]? := by rw [Array.getElem?_toList]
    rw [this, hc]
    have hi' : i < d.length := hi
    simp [List.getD, hi']
  · show 0 ≤ d.getD i 0 ∧ d.getD i 0 ≤ 255
    rcases Nat.lt_or_ge i d.length with hi | hi
    · exact hb _ (by simp [List.getD, hi])
    · rw [List.getD_eq_getElem?_getD, List.getElem?_eq_none hi]
      exact ⟨by decide, by decide⟩
theorem heap2 (w : World) (o1 o2 : Obj) : ((w.alloc o1).alloc o2).heap[w.heap.size]? = some o1 ∧ ((w.alloc o1).alloc o2).heap[w.heap.size + 1]? = some o2 := by
  refine ⟨?_, ?_⟩
  · rw [Below.heap_alloc _ _ _ (by simp only [World.size_alloc]; omega)]
    exact World.alloc_heap_new w _
  · have := World.alloc_heap_new (w.alloc o1) o2
    rwa [World.size_alloc] at this
theorem heap3 (w : World) (o1 o2 o3 : Obj) : (((w.alloc o1).alloc o2).alloc o3).heap[w.heap.size]? = some o1 ∧ (((w.alloc o1).alloc o2).alloc o3).heap[w.heap.size + 1]? = some o2 ∧ (((w.alloc o1).alloc o2).alloc o3).heap[w.heap.size + 1 + 1]? = some o3 := by
  refine ⟨?_, ?_, ?_⟩
  · rw [Below.heap_alloc _ _ _ (by simp only [World.size_alloc]; omega), Below.heap_alloc _ _ _ (by simp only [World.size_alloc]; omega)]
    exact World.alloc_heap_new w _
  · rw [Below.heap_alloc _ _ _ (by simp only [World.size_alloc]; omega)]
    have := World.alloc_heap_new (w.alloc o1) o2
    rwa [World.size_alloc] at this
  · have := World.alloc_heap_new ((w.alloc o1).alloc o2) o3
    rwa [World.size_alloc, World.size_alloc] at this
/-- What is known of a run of calls: a call's own claims, and a record that stays. -/
def St (w : World) (b px : Nat) (cx : Array Value) (s : List Cm) (V : World) : Prop := CAt V b s ∧ V.heap[px]? = some (.cells cx 49 (0, 0)) ∧ Below w.heap.size w V ∧ w.heap.size ≤ b ∧ b ≠ px
section
variable {w V V' : World} {b px : Nat} {cx : Array Value} {s : List Cm}
theorem St.below (h : St w b px cx s V) (hb : Below V.heap.size V V') : St w b px cx s V' := by
  obtain ⟨h1, h2, h3, h4, h5⟩ := h
  exact ⟨h1.below hb, (hb.block px (blk_lt h2)).trans h2, h3.trans (hb.mono h3.size), h4, h5⟩
theorem St.take (h : St w b px cx s V) (c g : Int) {e : Int} {s' : List Cm} (h0 : 0 ≤ g ∧ g < 4294967296) (h1 : takeE s c = e) (h2 : takeL s ⟨c, g⟩ = s') :
    Calls Try.prog 9 #[.pointer (some ⟨b, 0, none⟩), .int .i64 c, .int .u32 g] V fun x w' => x = .returned (.int .i64 e) ∧ St w b px cx s' w' := by
  obtain ⟨q1, q2, q3, q4, q5⟩ := h
  refine (take_lit q1 c g h0 h1 h2).mono ?_
  rintro x w' ⟨rfl, k1, k2⟩
  exact ⟨rfl, k1, (k2.block px (blk_lt q2) (fun e => q5 e.symm)).trans q2, q3.trans (k2.below (fun k h => by omega) q3.size), q4, q5⟩
theorem St.drop (h : St w b px cx s V) (c : Int) {g : Int} {t : Bool} {s' : List Cm} (h1 : genG s c = g) (h2 : has s c = t) (h3 : dropL s c = s') :
    Calls Try.prog 11 #[.pointer (some ⟨b, 0, none⟩), .int .i64 c] V fun x w' => x = .returned (.tuple #[.int .u32 g, .bool t]) ∧ St w b px cx s' w' ∧ Kept (fun k => k = b) V w' := by
  obtain ⟨q1, q2, q3, q4, q5⟩ := h
  subst h1 h2 h3
  refine (drop_any q1 c).mono ?_
  rintro x w' ⟨rfl, k1, k2⟩
  exact ⟨rfl, ⟨k1, (k2.block px (blk_lt q2) (fun e => q5 e.symm)).trans q2, q3.trans (k2.below (fun k h => by omega) q3.size), q4, q5⟩, k2⟩
theorem St.home (h : St w b px cx s V) (hm r : Int) {l : List Cm} {n : Nat} (hr : r ≤ 9223372036854775807) (h1 : ofZ s hm r = l) (hn : l.length = n) :
    Calls Try.prog 13 #[.pointer (some ⟨b, 0, none⟩), .int .i64 hm, .int .i64 r] V fun x w' => ∃ A cap, x = .returned (.slice A n cap) ∧ IsM w' (.slice A n cap) l ∧ (∀ k, (Value.slice A n cap).ownBlock = some k → ¬ k = b) ∧ St w b px cx s w' := by
  have := home_any (.inr ⟨b, rfl, h.1⟩) (h := hm) (r := r) hr
  rw [h1] at this
  subst hn
  refine this.mono ?_
  rintro x w' ⟨v, rfl, hr, hb⟩
  have hI := IsM.of_row hr
  have hk := fun k hk => (hr.lt k hk).1
  obtain ⟨A, cap, rfl⟩ := row_isM hr
  refine ⟨A, cap, rfl, hI, fun k h2 e => ?_, h.below hb⟩
  have := hk k h2
  have := h.1.lt
  omega
theorem St.all (h : St w b px cx s V) {n : Nat} (hn : s.length = n) :
    Calls Try.prog 19 #[.pointer (some ⟨b, 0, none⟩)] V fun x w' => ∃ A cap, x = .returned (.slice A n cap) ∧ IsM w' (.slice A n cap) s ∧ St w b px cx s w' := by
  subst hn
  refine (all_any (.inr ⟨b, rfl, h.1⟩)).mono ?_
  rintro x w' ⟨v, rfl, hr, hb⟩
  have hI := IsM.of_row hr
  obtain ⟨A, cap, rfl⟩ := row_isM hr
  exact ⟨A, cap, rfl, hI, h.below hb⟩
theorem St.load (h : St w b px cx s V) {A : Option Addr} {l : List Rc} {cap : Nat} (hl : RsAt V A l) (hn : l.length ≤ 1000) {e : Int} {t : List Cm} {n : Nat} (hn2 : l.length = n) (h1 : ldR l = (e, t)) :
    Calls Try.prog 24 #[.slice A n cap] V fun x w' => ∃ p, x = .returned (.tuple #[.pointer p, .int .i64 e]) ∧ (e = 0 → CP w' p t) ∧ St w b px cx s w' := by
  subst hn2
  refine (load_any hl (by omega)).mono ?_
  rintro x w' ⟨p, rfl, _, q1, q2⟩
  rw [h1] at q1
  refine ⟨p, by rw [h1], fun e0 => ?_, h.below q2⟩
  obtain ⟨b', rfl, hc, _⟩ := q1 e0
  exact .inr ⟨b', rfl, hc⟩
end
end Go.Proofs.Ytijhkjegpcmjoaa
