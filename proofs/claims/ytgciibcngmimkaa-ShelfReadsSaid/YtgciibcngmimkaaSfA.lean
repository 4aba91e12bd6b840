/-
  shelf.Same, shelf.All.
-/
import Derived.Test.YtgciibcngmimkaaSf9
import Derived.Laws.IdiomStrings
import Derived.Laws.BytesString
import Derived.Lib.SlicesS
namespace Go.Proofs.Ytgciibcngmimkaa
set_option maxRecDepth 100000
set_option linter.unusedSimpArgs false
open Go Go.RowKit Sf
attribute [local go_sem] Oper.semAt_some

def strN (l : List Nat) : ByteArray := ⟨(l.map UInt8.ofNat).toArray⟩
theorem strN_inj {l m : List Nat} (hl : ∀ c ∈ l, c < 256) (hm : ∀ c ∈ m, c < 256) (h : strN l = strN m) : l = m := by
  unfold strN at h
  have h1 : l.map UInt8.ofNat = m.map UInt8.ofNat := by
    have := congrArg ByteArray.data h
    simpa using this
  have h2 : ∀ x : List Nat, (∀ c ∈ x, c < 256) → (x.map UInt8.ofNat).map UInt8.toNat = x := by
    intro x hx
    rw [List.map_map]
    conv => rhs; rw [← List.map_id x]
    refine List.map_congr_left (fun c hc => ?_)
    have := hx c hc
    simp [Nat.mod_eq_of_lt this]
  rw [← h2 l hl, ← h2 m hm, h1]
theorem conv_bytes {w : World} {A : Option Addr} {l : List Nat} (cap : Nat) (h : BytesAt w A l) (hlt : ∀ c ∈ l, c < 256) :
    (convert 30 9 (.slice A l.length cap)).run Try.prog w = .ok (.string (strN l)) w := by
  have h1 : Try.prog.underlying 30 = some (.slice 5) := by kernel_rfl
  have h2 : Try.prog.underlying 5 = some (.int .u8) := by kernel_rfl
  have h3 : Try.prog.underlying 9 = some .string := by kernel_rfl
  cases A with
  | none =>
    have hl : l = [] := by
      cases l with
      | nil => rfl
      | cons c l => obtain ⟨a, ha, _⟩ := h 0 (by simp); cases ha
    subst hl
    exact run_convert_bytes_nil w _ _ h1 h2 _ _ _ h3
  | some a =>
    have := run_convert_bytes_back w _ _ _ a cap (l.map UInt8.ofNat) h1 h2 h3 (by
      intro j hj
      rw [List.length_map] at hj
      obtain ⟨a', ha, hc⟩ := h j hj
      cases ha
      rw [hc]
      have hlt' := hlt _ (List.getElem_mem hj)
      simp [byV, List.getD, hj, Nat.mod_eq_of_lt hlt'])
    rw [List.length_map] at this
    exact this
theorem conv8 {w : World} {v : Value} {l : List Nat} (h : R8 w v l) (hlt : ∀ c ∈ l, c < 256) : (convert 30 9 v).run Try.prog w = .ok (.string (strN l)) w := by
  obtain ⟨A, cap, rfl, h1, _⟩ := row_bytes h
  exact conv_bytes cap h1 hlt

theorem equal_any {w : World} {u v : Value} {l m : List Nat} (hu : R8 w u l) (hv : R8 w v m) (hl : ∀ c ∈ l, c < 256) (hm : ∀ c ∈ m, c < 256) :
    Calls Try.prog 32 #[u, v] w fun e w' => e = .returned (.bool (decide (l = m))) ∧ w = w' := by
  have c1 := conv8 hu hl
  have c2 := conv8 hv hm
  have HI := Lib.hid (strN_inj hl hm)
  clear hu hv hl hm
  by_cases h4 : l = m
  · subst h4
    have d0 : decide (l = l) = true := by simp
    rw [d0]
    generalize strN l = S1 at *
    clear HI d0
    go_enter Try.func32, Try.ntmps32
    go_wp2
    go_ret
    exact ⟨rfl, rfl⟩
  · have d0 : decide (l = m) = false := by simpa using h4
    rw [d0]
    have hne : ¬ strN l = strN m := fun e => h4 (HI.out e)
    have hne2 : ((strN l).toList == (strN m).toList) = false := (Lib.bytes_beq_false_iff _ _).2 hne
    clear HI d0 h4
    generalize strN l = S1 at *
    generalize strN m = S2 at *
    go_enter Try.func32, Try.ntmps32
    go_wp2
    go_ret
    exact ⟨rfl, rfl⟩
theorem same_any {w : World} {p q : Option Addr} {M K : List Ent} (hp : ShP w p M) (hq : ShP w q K) :
    Calls Try.prog 23 #[.pointer p, .pointer q] w fun e w' => e = .returned (.bool (decide (M = K))) ∧ Below w.heap.size w w' := by
  have H1 := Lib.hid (bytes_any hp)
  have H2 := Lib.hid (fun W (hb : Below w.heap.size w W) => bytes_any (hq.below hb))
  have H3 : Hid (∀ W W2 u v, W.ownsRow w.heap.size 5 1 u (byM M).length ((byM M).map byV) → W2.ownsRow W.heap.size 5 1 v (byM K).length ((byM K).map byV) → Below W.heap.size W W2 → Calls Try.prog 32 #[u, v] W2 fun e w' => e = .returned (.bool (decide (M = K))) ∧ W2 = w') := by
    intro W W2 u v h1 h2 hb
    have h3 := equal_any (w := W2) (R8.below (R8.of h1) hb) (R8.of h2) (byM_lt hp.ok.each) (byM_lt hq.ok.each)
    have e : decide (byM M = byM K) = decide (M = K) := by
      rw [decide_eq_decide]
      exact ⟨byM_inj hp.ok.each hq.ok.each, fun h => by rw [h]⟩
    rw [e] at h3
    exact h3
  clear hp hq
  generalize decide (M = K) = B at *
  go_enter Try.func23, Try.ntmps23
  go_wp2_with fail
  (with_reducible refine H1.out.mono ?_)
  rintro e W1 ⟨u, rfl, hu, hb1⟩
  have HU := Lib.hid hu
  have HB1 := Lib.hid hb1
  clear hu hb1
  go_wp2_with fail
  (with_reducible refine (H2.out _ HB1.out).mono ?_)
  rintro e W2 ⟨v, rfl, hv, hb2⟩
  have HE := Lib.hid (H3.out _ _ _ _ HU.out hv hb2)
  have HB2 := Lib.hid (HB1.out.trans (hb2.mono HB1.out.size))
  clear hv hb2
  go_wp2_with fail
  (with_reducible refine HE.out.mono ?_)
  rintro e W3 ⟨rfl, rfl⟩
  go_wp2
  go_ret
  exact ⟨rfl, HB2.out⟩

/-! ### a list of records -/
def csR (xs : List (Ent × Value)) : List Value := xs.flatMap fun x => [.int .i64 ((x.1.1 / 65536 : Nat) : Int), .int .i64 ((x.1.1 % 65536 : Nat) : Int), x.2]
theorem csR_snoc (xs : List (Ent × Value)) (x : Ent × Value) : csR (xs ++ [x]) = csR xs ++ [.int .i64 ((x.1.1 / 65536 : Nat) : Int), .int .i64 ((x.1.1 % 65536 : Nat) : Int), x.2] := by simp [csR]
/-- Records that were told, in a list. -/
def RcP (w : World) (B : Nat) (v : Value) (xs : List (Ent × Value)) : Prop := w.ownsRow B 32 3 v xs.length (csR xs) ∧ ∀ x ∈ xs, R8 w x.2 x.1.2
def AllQ (w : World) (M : List Ent) (e : Ending) (w' : World) : Prop := ∃ v xs, e = .returned v ∧ xs.map (·.1) = M ∧ RcP w' w.heap.size v xs ∧ Below w.heap.size w w'
/-- Records told, in a list in a variable q. -/
structure LsI (w : World) (F q : Nat) (M : List Ent) (f : Ent → Bool) (pre : List (Ent × Value)) (W : World) : Prop where
  below : Below w.heap.size w W
  q : ∃ v xs, W.heap[q]? = some (.cells #[v] 22 (0, 0)) ∧ RcP W F v xs ∧ xs.map (·.1) = (pre.map (·.1)).filter f
  size : F ≤ W.heap.size
  pre : pre.map (·.1) <+: M
section
variable {w : World} {F q : Nat} {M : List Ent} {f : Ent → Bool} {pre : List (Ent × Value)} {W W' : World}
theorem RcP.blocks {B : Nat} {v : Value} {xs : List (Ent × Value)} {X : Nat → Prop} (h : RcP W B v xs) (hk : ∀ k, k < W.heap.size → ¬ X k → W'.heap[k]? = W.heap[k]?) (h8 : No8 X W) (hX : ∀ g, v.ownBlock = some g → ¬ X g) : RcP W' B v xs := by
  refine ⟨⟨h.1.1, ?_⟩, fun x hx => R8.blocks (h.2 x hx) hk h8⟩
  rcases h.1.2 with hn | ⟨g, cap, cur, rfl, hb, hg, rest⟩
  · exact .inl hn
  · exact .inr ⟨g, cap, cur, rfl, hb, by rw [hk g (blk_lt hg) (hX g rfl)]; exact hg, rest⟩
theorem LsI.from (hw : w.heap.size ≤ F) (hq : q < F) : OwnFrom F (LsI w F q M f) := by
  intro pre W W' row h hg hr
  obtain ⟨v, xs, h1, h2, h3⟩ := h.q
  have hk : ∀ k, k < F → W'.heap[k]? = W.heap[k]? := fun k hk => hg.block k (Nat.lt_of_lt_of_le hk h.size) (fun e => by have := (hr k e.symm).1; omega)
  refine ⟨h.below.trans ⟨hg.os, hg.tape, hg.output, hg.size, fun k hk' => hk k (by omega)⟩, ⟨v, xs, (hk _ hq).trans h1, h2.blocks (X := fun k => row = some k) (fun k h1 h2 => hg.block k h1 (fun e => h2 e.symm)) (fun k cur f hc e => ?_) (fun g hgv e => ?_), h3⟩, Nat.le_trans h.size hg.size, h.pre⟩
  · obtain ⟨_, o, ho, hc'⟩ := hr k e
    rw [hc] at ho
    cases ho
    cases hc'
  · obtain ⟨_, o, ho, hc'⟩ := hr g e
    rcases h2.1.2 with ⟨rfl, _⟩ | ⟨g', cap, cur, rfl, _, hgg, _⟩
    · cases hgv
    · have : g' = g := by simpa [Value.ownBlock] using hgv
      subst this
      rw [hgg] at ho
      cases ho
      cases hc'
theorem LsI.take (hw : w.heap.size ≤ F) (hq : q < F) (h : LsI w F q M f pre W) (ht : Kept (fun _ => False) W W') : LsI w F q M f pre W' := by
  obtain ⟨v, xs, h1, h2, h3⟩ := h.q
  exact ⟨h.below.trans (ht.below (fun _ h => h.elim) (by have := h.size; omega)), ⟨v, xs, (ht.block _ (by have := h.size; omega) id).trans h1, h2.blocks (X := fun _ => False) (fun k h1 h2 => ht.block k h1 h2) (No8.none _) (fun _ _ => id), h3⟩, Nat.le_trans h.size ht.size, h.pre⟩
/-- One more, or one that is passed over. -/
theorem LsI.skip (h : LsI w F q M f pre W) {x : Ent × Value} (hp : pre.map (·.1) ++ [x.1] <+: M) (hx : f x.1 = false) : LsI w F q M f (pre ++ [x]) W := by
  obtain ⟨v, xs, h1, h2, h3⟩ := h.q
  refine ⟨h.below, ⟨v, xs, h1, h2, ?_⟩, h.size, by simpa using hp⟩
  rw [h3, List.map_append, List.filter_append]
  simp [hx]
theorem LsI.snoc {W0 Wa W2 : World} {X : Nat → Prop} {v v' : Value} {xs : List (Ent × Value)} {x : Ent × Value} {a : Act} {Ix : Code → List (Ent × Value) → World → Prop} (hF : F = W0.heap.size) (hw : w.heap.size ≤ q) (hq : q < F) (hqX : X q) (h : LsI w F q M f pre W)
    (h1 : W.heap[q]? = some (.cells #[v] 22 (0, 0))) (h2 : RcP W F v xs) (h3 : xs.map (·.1) = (pre.map (·.1)).filter f) (hp : pre.map (·.1) ++ [x.1] <+: M) (hx : f x.1 = true) (hx8 : R8 W x.2 x.1.2) (ha : Below W.heap.size W Wa)
    (hg : Wa.grownBy W2 v.ownBlock) (ho : W2.ownsRow F 32 3 v' (xs.length + 1) (csR xs ++ [.int .i64 ((x.1.1 / 65536 : Nat) : Int), .int .i64 ((x.1.1 % 65536 : Nat) : Int), x.2])) :
    (W2.cell? ⟨q, 0, none⟩ = some v ∧ W2.frozen? ⟨q, 0, none⟩ = false) ∧ ownPostG W0.heap.size (KpF W0.heap.size X) (LsI w F q M f) Ix (pre ++ [x]) W .normal a (W2.setCell ⟨q, 0, none⟩ v') := by
  obtain ⟨a1, a2, a3, a4, a5⟩ := var_snoc h1 h2.1 hq ha hg ho
  have h8 : No8 (fun k => k = q ∨ v.ownBlock = some k) W := by
    rintro k cur f hc (rfl | e)
    · rw [h1] at hc
      injection hc with hc
      injection hc with _ h _
      exact absurd h (by decide)
    · obtain ⟨_, _, c, f', h6⟩ := a5 k e
      rw [h6] at hc
      injection hc with hc
      injection hc with _ h _
      exact absurd h (by decide)
  refine ⟨a1, ⟨a4.size, fun k o hk hob hc => ?_⟩, ?_, ⟨h.below.trans (a4.below (B := w.heap.size) (fun k hk => ?_) (by have := h.size; omega)), ⟨v', xs ++ [x], a2, ⟨by rw [csR_snoc, List.length_append]; exact a3, fun y hy => ?_⟩, ?_⟩, Nat.le_trans h.size a4.size, by simpa using hp⟩⟩
  · refine (a4.block k (blk_lt hob) ?_).trans hob
    rintro (e | e)
    · omega
    · obtain ⟨_, _, c, f', h6⟩ := a5 k e; rw [hob] at h6; cases h6; cases hc
  · refine KpF.of_kept a4 (by rw [← hF]; exact h.size) (fun k hk hlt => ?_) (fun k hk cs f' e => ?_)
    · rcases hk with rfl | hk
      · exact hqX
      · have := (a5 k hk).1; omega
    · rcases hk with rfl | hk
      · rw [h1] at e
        injection e with e
        injection e with _ e _
        exact absurd e (by decide)
      · obtain ⟨_, _, c, f', h6⟩ := a5 k hk
        rw [h6] at e
        injection e with e
        injection e with _ e _
        exact absurd e (by decide)
  · rcases hk with rfl | hk
    · exact hw
    · have := (a5 k hk).1; omega
  · rcases List.mem_append.1 hy with hy | hy
    · exact R8.kept (h2.2 y hy) a4 h8
    · rw [List.mem_singleton] at hy; subst hy; exact R8.kept hx8 a4 h8
  · rw [List.map_append, h3, List.map_append, List.filter_append]
    simp [hx]
end
end Go.Proofs.Ytgciibcngmimkaa
