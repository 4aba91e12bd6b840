/- Joined texts: Sh0, Sh1, Sh2. -/
import Derived.Test.YtkfijjjnidiejaaDoorRn1

/-
  RouteShort: what the law asks of routes; has, without.
-/
namespace Go.Proofs.YtkfijjjnidiejaaDoor
set_option maxRecDepth 100000
set_option linter.unusedSimpArgs false
open Go Go.RowKit Rq

section
variable {R C : Nat} {ms : List UInt8} {ban : List Int} {fr to_ D : Nat}
theorem may_iff (ban : List Int) (fr : Nat) : ∀ y, mayZ ban fr y = true ↔ (banF ban y = false ∨ y = fr) := by
  intro y
  unfold mayZ banF
  simp
theorem outsN (hN : R * C = ms.length) : ∀ x y, y ∈ outs R C ms x → y < ms.length := fun x y h => by rw [← hN]; exact outs_bd h
theorem dsZ_some (ht : to_ < ms.length) {x : Nat} : dsZ R C ms ban fr to_ x = some D ↔ Ds (ins R C ms) (mayZ ban fr) to_ D x := dsO_some ht (bkN R C ms)
theorem dsZ_none (ht : to_ < ms.length) {x : Nat} : dsZ R C ms ban fr to_ x = none ↔ ∀ n, ¬ Wy (ins R C ms) (mayZ ban fr) to_ n x := dsO_none ht (bkN R C ms)
theorem dsZ_lt (ht : to_ < ms.length) {x : Nat} (h : dsZ R C ms ban fr to_ x = some D) : D < ms.length := ((dsZ_some ht).1 h).lt ht (fun _ _ hb => (ins_mem.1 hb).1)

/-- Find with a budget that is never too small. -/
theorem find_none_ (hf : freeB ms (fr : Int) = true) (hf2 : freeB ms (to_ : Int) = true) (h : dsZ R C ms ban fr to_ fr = none) {bud : Int} (hb : (ms.length : Int) ≤ bud) : findZ R C ms (fr : Int) (to_ : Int) ban bud = ([], 40) := by
  unfold findZ
  have h1 := looksN_le R C ms ban fr to_
  rw [hf, hf2, if_pos (by rfl), if_neg (by simp only [Int.toNat_natCast]; omega)]
  simp only [Int.toNat_natCast, h]
theorem find_some_ (hf : freeB ms (fr : Int) = true) (hf2 : freeB ms (to_ : Int) = true) (h : dsZ R C ms ban fr to_ fr = some D) {bud : Int} (hb : (ms.length : Int) ≤ bud) : findZ R C ms (fr : Int) (to_ : Int) ban bud = (routeZ R C ms ban fr to_ D, 0) := by
  unfold findZ
  have h1 := looksN_le R C ms ban fr to_
  rw [hf, hf2, if_pos (by rfl), if_neg (by simp only [Int.toNat_natCast]; omega)]
  simp only [Int.toNat_natCast, h]
theorem find_two_ (hf : (freeB ms (fr : Int) && freeB ms (to_ : Int)) = false) {bud : Int} : findZ R C ms (fr : Int) (to_ : Int) ban bud = ([], 2) := by
  unfold findZ
  rw [hf]
  rfl

/-- Whether the end is around the beginning. -/
theorem near_iff (hN : R * C = ms.length) (hfr : fr < ms.length) (ht : to_ < ms.length) (hf : freeB ms (fr : Int) = true) {far : Int} {l : List Nat} (h : ArL R C ms (fr : Int) far ban l) : to_ ∈ l ↔ ∃ D, dsZ R C ms ban fr to_ fr = some D ∧ (D : Int) ≤ far := by
  by_cases h0 : far < 0
  · rw [h.1 (.inr h0)]
    constructor
    · intro h1; simp at h1
    · rintro ⟨D, _, h2⟩; omega
  · have h1 := (h.2 hf (by omega)).2 to_
    rw [h1]
    simp only [Int.toNat_natCast]
    constructor
    · rintro ⟨n, hn, hw⟩
      have hwy : Wy (ins R C ms) (mayZ ban fr) to_ n fr := hw.wy (bkN R C ms) hfr (outsN hN) (may_iff ban fr)
      obtain ⟨m, hm, hd⟩ := hwy.ds
      exact ⟨m, (dsZ_some ht).2 hd, by omega⟩
    · rintro ⟨D, hD, hle⟩
      exact ⟨D, by omega, ((dsZ_some ht).1 hD).to_fw (bkN R C ms) (may_iff ban fr)⟩

theorem routeZ_len : (routeZ R C ms ban fr to_ D).length = D + 1 := pthR_len D fr
theorem routeZ_head : (routeZ R C ms ban fr to_ D).getD 0 0 = fr := pthR_head D fr
theorem routeZ_last (ht : to_ < ms.length) (h : dsZ R C ms ban fr to_ fr = some D) : (routeZ R C ms ban fr to_ D).getD D 0 = to_ := pthR_last ht (bkN R C ms) ((dsZ_some ht).1 h)
theorem routeZ_lt (ht : to_ < ms.length) (h : dsZ R C ms ban fr to_ fr = some D) {i : Nat} (hi : i ≤ D) : (routeZ R C ms ban fr to_ D).getD i 0 < ms.length :=
  ((pthR_at ht (bkN R C ms) ((dsZ_some ht).1 h) i hi).1.1).lt ht (fun _ _ hb => (ins_mem.1 hb).1)

theorem intsQ_get {l : List Nat} {i : Nat} (hi : i < l.length) : (intsQ l).getD i 0 = ((l.getD i 0 : Nat) : Int) := by simp [intsQ, List.getD, hi]
/-- A route is one, by Check's rule. -/
theorem route_ok (ht : to_ < ms.length) (hf : freeB ms (fr : Int) = true) (hf2 : freeB ms (to_ : Int) = true) (h : dsZ R C ms ban fr to_ fr = some D) : checkZ R C ms (intsQ (routeZ R C ms ban fr to_ D)) (ban.filter (fun x => x != (fr : Int))) = 0 := by
  have hl : (intsQ (routeZ R C ms ban fr to_ D)).length = D + 1 := by rw [intsQ_length, routeZ_len]
  have hg : ∀ i, i ≤ D → (intsQ (routeZ R C ms ban fr to_ D)).getD i 0 = (((routeZ R C ms ban fr to_ D).getD i 0 : Nat) : Int) := fun i hi => intsQ_get (by rw [routeZ_len]; omega)
  have hDs := (dsZ_some ht).1 h
  unfold checkZ
  rw [if_neg, if_pos]
  · rw [List.all_eq_true]
    intro i hi
    rw [List.mem_range, hl] at hi
    have hi' : i < D := by omega
    unfold stepB
    rw [hg i (by omega), hg (i + 1) (by omega)]
    have h1 := routeZ_lt (ban := ban) (fr := fr) ht h (i := i) (by omega)
    have h2 := pthR_step ht (bkN R C ms) hDs i hi'
    have h3 := (pthR_at ht (bkN R C ms) hDs (i + 1) (by omega)).1.1.last
    rw [may_iff] at h3
    have hnx : nextZ R C ms (((routeZ R C ms ban fr to_ D).getD i 0 : Nat) : Int) = outs R C ms ((routeZ R C ms ban fr to_ D).getD i 0) := by
      unfold nextZ; rw [if_pos (by omega)]; rfl
    rw [hnx, Bool.and_eq_true]
    refine ⟨List.any_eq_true.2 ⟨_, h2, by simp [routeZ]⟩, ?_⟩
    rw [Bool.not_eq_true', decide_eq_false_iff_not, List.mem_filter]
    rintro ⟨h4, h5⟩
    rcases h3 with h3 | h3
    · unfold banF at h3
      rw [decide_eq_false_iff_not] at h3
      exact h3 h4
    · rw [show (routeZ R C ms ban fr to_ D).getD (i + 1) 0 = fr from h3] at h5
      simp at h5
  · rw [hl, hg 0 (by omega), routeZ_head, show D + 1 - 1 = D by omega, hg D (by omega), routeZ_last ht h, hf, hf2]
    simp
end

/-! has -/
def intW (x : Int) : Value := .int .i64 x
def WithR (w : World) (l : List Int) (x : Int) (v : Value) (wr : World) (k : Nat) : Prop :=
  wr.ownsRow w.heap.size 3 1 v ((l.take k).filter (fun y => y != x)).length (((l.take k).filter (fun y => y != x)).map intW) ∧ Below w.heap.size w wr
def WithoutP (w : World) (l : List Int) (x : Int) (e : Ending) (w' : World) : Prop :=
  ∃ A c, e = .returned (.slice A (l.filter (fun y => y != x)).length c) ∧ IntsAt w' A (l.filter (fun y => y != x)) ∧ (l.filter (fun y => y != x)).length ≤ c ∧ Below w.heap.size w w'
theorem without_end {w wr : World} {l : List Int} {x : Int} {v : Value} (h : WithR w l x v wr l.length) : WithoutP w l x (.returned v) wr := by
  obtain ⟨ho, hb⟩ := h
  rw [List.take_length] at ho
  rcases ho.2 with ⟨rfl, h0⟩ | ⟨g, cap, cur, rfl, h1, h2, h3, _⟩
  · exact ⟨none, 0, by rw [h0], fun j hj => by omega, by omega, hb⟩
  · refine ⟨some ⟨g, 0, none⟩, cap, rfl, fun j hj => ⟨_, rfl, blk_lt h2, ?_⟩, h3, hb⟩
    have : Addr.add ⟨g, 0, none⟩ j = ⟨g, j, none⟩ := by simp [Addr.add]; omega
    rw [this, ho.cellAt j (by omega)]
    simp [intW, List.getD, hj]

end Go.Proofs.YtkfijjjnidiejaaDoor

/-
  The walk of the law RouteShort.
-/
namespace Go.Proofs.YtkfijjjnidiejaaDoor
set_option maxRecDepth 100000
set_option linter.unusedSimpArgs false
open Go Go.RowKit Rq

/-- Parse, whatever the text. -/
def ParseSome (w : World) (e : Ending) (w' : World) : Prop := ∃ p l c z, e = .returned (.tuple #[p, .int .i64 l, .int .i64 c, .int .i64 z]) ∧ Below w.heap.size w w'
theorem parse_some (s : ByteArray) (w : World) (hs : s.size ≤ maxLen) : Calls Tryd.prog 7 #[.string s] w (ParseSome w) := by
  refine (parse_any s w (by unfold maxLen at hs; omega)).mono ?_
  rintro e w' ⟨h1, h2⟩
  cases hv : Pure.verdict s.data.toList with
  | bad l c =>
    rw [hv] at h2
    exact ⟨_, _, _, _, h2, h1⟩
  | good L =>
    rw [hv] at h2
    obtain ⟨g, cap, h3, h4⟩ := h2
    exact ⟨_, _, _, _, h3, h1⟩
/-- Parse of a map's text. -/
def ParseGood (w : World) (L : List (List UInt8)) (e : Ending) (w' : World) : Prop := ∃ b g cap, e = .returned (.tuple #[.pointer (some ⟨b, 0, none⟩), .int .i64 0, .int .i64 0, .int .i64 0]) ∧ MapAt w' b g cap L ∧ Below w.heap.size w w' ∧ w.heap.size ≤ b
theorem parse_good {s : ByteArray} {L : List (List UInt8)} (hv : Pure.verdict s.data.toList = .good L) (w : World) (hs : s.size ≤ maxLen) : Calls Tryd.prog 7 #[.string s] w (ParseGood w L) := by
  refine (parse_any s w (by unfold maxLen at hs; omega)).mono ?_
  rintro e w' ⟨h1, h2⟩
  rw [hv] at h2
  obtain ⟨g, cap, h3, h4⟩ := h2
  exact ⟨_, g, cap, h3, h4, h1, Nat.le_refl _⟩
theorem parse_bad {s : ByteArray} {l c : Nat} (hv : Pure.verdict s.data.toList = .bad l c) (w : World) (hs : s.size ≤ maxLen) : Calls Tryd.prog 7 #[.string s] w fun e w' => e = .returned (.tuple #[.pointer none, .int .i64 (l : Int), .int .i64 (c : Int), .int .i64 10]) ∧ Below w.heap.size w w' := by
  refine (parse_any s w (by unfold maxLen at hs; omega)).mono ?_
  rintro e w' ⟨h1, h2⟩
  rw [hv] at h2
  exact ⟨h2, h1⟩
/-- A map that was parsed behind the laws' example. -/
theorem m1_parsed {w w1 w2 : World} {b g cap : Nat} {L : List (List UInt8)} (hw : Ways w) (hG : Pure.Good L) (hb : Below w.heap.size w w1) (hm : MapAt w2 b g cap L) (hb2 : Below w1.heap.size w1 w2) (hbl : w1.heap.size ≤ b) : M1 w b g cap L.length (Pure.wid L) L.flatten w2 :=
  m1_start (w := w) hw hG hm (hb.trans (hb2.mono hb.size)) (Nat.le_trans hb.size hbl)
theorem good_flat {L : List (List UInt8)} (hG : Pure.Good L) : 0 < L.flatten.length := by
  rw [hG.size]
  exact Nat.mul_pos (List.length_pos_iff.2 hG.ne) hG.lo

end Go.Proofs.YtkfijjjnidiejaaDoor

/-
  The walk of the law RouteShort: both ends are free.
-/
namespace Go.Proofs.YtkfijjjnidiejaaDoor
set_option maxRecDepth 100000
set_option linter.unusedSimpArgs false
open Go Go.RowKit Rq

/-- A map in memory, its text's. -/
structure Got (s : ByteArray) (w : World) (R C : Nat) (ms : List UInt8) : Prop where
  pos : 0 < ms.length
  small : ms.length ≤ 1024
  hN : R * C = ms.length
  parse : ∀ w1, Below w.heap.size w w1 → Calls Tryd.prog 7 #[.string s] w1 fun e w' => ∃ b g cap, e = .returned (.tuple #[.pointer (some ⟨b, 0, none⟩), .int .i64 0, .int .i64 0, .int .i64 0]) ∧ M1 w b g cap R C ms w'
theorem got_of {s : ByteArray} {w : World} (hw : Ways w) (hs : s.size ≤ maxLen) {L : List (List UInt8)} (hv : Pure.verdict s.data.toList = .good L) : Got s w L.length (Pure.wid L) L.flatten := by
  have hG := (Pure.good_of hv).1
  refine ⟨good_flat hG, ?_, hG.size.symm, fun w1 hb => ?_⟩
  · have h1 := hG.size
    have h2 := Nat.mul_le_mul hG.len hG.hi
    omega
  · refine (parse_good hv w1 hs).mono ?_
    rintro e w' ⟨b, g, cap, rfl, h1, h2, h3⟩
    exact ⟨b, g, cap, rfl, m1_parsed hw hG hb h1 h2 h3⟩
theorem m1_free {w0 w : World} {bm gm cm R C : Nat} {ms : List UInt8} (h : M1 w0 bm gm cm R C ms w) {i : Int} {b : Bool} (hi : freeB ms i = b) : Calls Tryd.prog 9 #[.pointer (some ⟨bm, 0, none⟩), .int .i64 i] w fun e w' => e = .returned (.bool b) ∧ w = w' := by
  rw [← hi]
  exact free_any bm gm cm ms i w h.em.c2 (fun j hj => h.em.mark j hj)
theorem m1_cells {w0 w : World} {bm gm cm R C : Nat} {ms : List UInt8} (h : M1 w0 bm gm cm R C ms w) {N : Nat} (hN : ms.length = N) : Calls Tryd.prog 12 #[.pointer (some ⟨bm, 0, none⟩)] w fun e w' => e = .returned (.int .i64 (N : Int)) ∧ w = w' := by
  rw [← hN]
  exact cells_any bm _ _ _ w h.em.c2
theorem M1.ints {w0 w : World} {bm gm cm R C : Nat} {ms : List UInt8} {B : Option Addr} {l : List Int} (h : M1 w0 bm gm cm R C ms w) (hB : IntsAt w0 B l) : IntsAt w B l := hB.below h.bl (Nat.le_refl _)

/-- What has tells of what is near. -/
theorem any_near {l : List Nat} {t : Nat} {b : Bool} (h : t ∈ l ↔ b = true) : l.any (fun y => (y : Int) == (t : Int)) = b := by
  rw [Bool.eq_iff_iff, ← h, List.any_eq_true]
  constructor
  · rintro ⟨y, h1, h2⟩
    have : y = t := by
      have := eq_of_beq h2
      omega
    rw [← this]; exact h1
  · intro h1
    exact ⟨t, h1, by simp⟩

end Go.Proofs.YtkfijjjnidiejaaDoor
