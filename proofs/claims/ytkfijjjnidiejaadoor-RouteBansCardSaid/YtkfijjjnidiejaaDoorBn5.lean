/- Joined texts: Bn0, Bn1, Bn2, Bn3, Bn4, Bn5. -/
import Derived.Test.YtkfijjjnidiejaaDoorFd
import Derived.Test.YtkfijjjnidiejaaDoorTr1
import Derived.Test.YtkfijjjnidiejaaDoorRs4
import Derived.Laws.IdiomStrings
import Derived.Laws.AppendOwnNone
import Derived.StillTailTactics

/-
  RouteBans, pure: cells that are walled.
-/
namespace Go.Proofs.YtkfijjjnidiejaaDoor
set_option maxRecDepth 100000
set_option linter.unusedSimpArgs false
open Go Go.RowKit Rq

theorem leaves_wall (k : Nat) : leavesB k 35 = false := by
  unfold leavesB
  match k with
  | 0 => rfl
  | 1 => rfl
  | 2 => rfl
  | 3 => rfl
  | k + 4 => simp [mkK]
theorem enters_wall (k : Nat) : entersB k 35 = false := by
  unfold entersB
  simp
/-- What goes out of a cell where cells have been walled. -/
theorem outs_wall {R C : Nat} {ms ms' : List UInt8} {W : Nat → Bool} (h : ∀ i, ms'.getD i 0 = if W i = true then 35 else ms.getD i 0) (a : Nat) : outs R C ms' a = if W a = true then [] else (outs R C ms a).filter (fun b => !W b) := by
  unfold outs
  by_cases ha : W a = true
  · rw [if_pos ha, h a, if_pos ha]
    have : (sidesK R C a 4).filter (goes 35 ms') = [] := by
      rw [List.filter_eq_nil_iff]
      intro x _
      unfold goes
      rw [leaves_wall]
      simp
    rw [this]
    rfl
  · rw [if_neg ha, h a, if_neg ha, List.filter_map, List.filter_filter]
    congr 1
    refine List.filter_congr (fun x _ => ?_)
    simp only [Function.comp]
    unfold goes
    rw [h x.1]
    by_cases hx : W x.1 = true
    · rw [if_pos hx, enters_wall, hx]; simp
    · have hx' : W x.1 = false := by simpa using hx
      rw [if_neg hx, hx']; simp
theorem free_wall {ms ms' : List UInt8} {W : Nat → Bool} (hl : ms'.length = ms.length) (h : ∀ i, ms'.getD i 0 = if W i = true then 35 else ms.getD i 0) (x : Int) : freeB ms' x = (freeB ms x && !W x.toNat) := by
  unfold freeB
  rw [hl, h x.toNat]
  by_cases hx : W x.toNat = true
  · rw [if_pos hx, hx]; simp
  · have hx' : W x.toNat = false := by simpa using hx
    rw [if_neg hx, hx']; simp
end Go.Proofs.YtkfijjjnidiejaaDoor

/-
  RouteBans, pure: routes of a walled map.
-/
namespace Go.Proofs.YtkfijjjnidiejaaDoor.Rq
set_option maxRecDepth 100000

section
variable {N : Nat} {bk nx bk' nx' : Nat → List Nat} {may may' : Nat → Bool} {e : Nat} {W : Nat → Bool}
theorem ds_same (hw : ∀ n x, Wy bk' may' e n x ↔ Wy bk may e n x) {n x : Nat} : Ds bk' may' e n x ↔ Ds bk may e n x := by
  unfold Ds
  rw [hw]
  refine and_congr_right fun _ => ?_
  constructor
  · intro h m hm hk
    exact h m hm ((hw _ _).2 hk)
  · intro h m hm hk
    exact h m hm ((hw _ _).1 hk)
theorem dsO_same (he : e < N) (hbn : ∀ x b, b ∈ bk x ↔ b < N ∧ x ∈ nx b) (hbn' : ∀ x b, b ∈ bk' x ↔ b < N ∧ x ∈ nx' b) (hw : ∀ n x, Wy bk' may' e n x ↔ Wy bk may e n x) (x : Nat) : dsO N nx' may' e x = dsO N nx may e x := by
  cases hq : dsO N nx may e x with
  | some n => exact (dsO_some he hbn').2 ((ds_same hw).2 ((dsO_some he hbn).1 hq))
  | none => exact (dsO_none he hbn').2 (fun n hk => (dsO_none he hbn).1 hq n ((hw _ _).1 hk))
theorem pthR_wall (he : e < N) (hbn : ∀ x b, b ∈ bk x ↔ b < N ∧ x ∈ nx b) (hbn' : ∀ x b, b ∈ bk' x ↔ b < N ∧ x ∈ nx' b) (hw : ∀ n x, Wy bk' may' e n x ↔ Wy bk may e n x) (hnx : ∀ c, may c = true → nx' c = (nx c).filter (fun b => !W b)) (hmW : ∀ c, may c = true → W c = false) : ∀ {d c : Nat}, Ds bk may e d c → pthR N nx' may' e d c = pthR N nx may e d c := by
  intro d
  induction d with
  | zero => intro c _; rfl
  | succ d ih =>
    intro c hc
    obtain ⟨y, h1, h2, h3, h4⟩ := pthR_succ he hbn hc
    obtain ⟨y', h1', _, _, h4'⟩ := pthR_succ he hbn' ((ds_same hw).2 hc)
    have e1 : (nx' c).find? (fun y => dsO N nx' may' e y == some d) = (nx c).find? (fun y => dsO N nx may e y == some d) := by
      rw [hnx c hc.1.last, List.find?_filter]
      refine find_congr (fun z _ => ?_)
      rw [dsO_same he hbn hbn' hw]
      cases hz : (dsO N nx may e z == some d) with
      | false => simp
      | true =>
        have h5 := (dsO_some he hbn).1 (eq_of_beq hz)
        have h6 := hmW z h5.1.last
        simp [h6]
    rw [e1, h1] at h1'
    cases h1'
    rw [h4, h4', ih h3]
end
end Go.Proofs.YtkfijjjnidiejaaDoor.Rq

namespace Go.Proofs.YtkfijjjnidiejaaDoor
set_option maxRecDepth 100000
set_option linter.unusedSimpArgs false
open Go Go.RowKit Rq

/-- Which cells are walled. -/
def wallB (ms : List UInt8) (ban : List Int) (fr x : Nat) : Bool := freeB ms (x : Int) && !(mayZ ban fr x)
section
variable {R C : Nat} {ms ms' : List UInt8} {ban : List Int} {fr to_ : Nat}
theorem may_wall {x : Nat} (h : mayZ ban fr x = true) : wallB ms ban fr x = false := by unfold wallB; rw [h]; simp
theorem wall_may {x : Nat} (h : wallB ms ban fr x = false) (hf : freeB ms (x : Int) = true) : mayZ ban fr x = true := by
  unfold wallB at h
  rw [hf] at h
  simpa using h
theorem out_free {a b : Nat} (h : b ∈ outs R C ms a) (ha : a < ms.length) : freeB ms (a : Int) = true := by
  obtain ⟨k, _, _, h3⟩ := mem_outs.1 h
  unfold goes at h3
  have h4 := (Bool.and_eq_true_iff.1 h3).1
  unfold freeB
  have : ms.getD a 0 ≠ 35 := fun e => by rw [e, leaves_wall] at h4; cases h4
  have h6 : ms[a] ≠ 35 := by
    have e1 : ms.getD a 0 = ms[a] := by simp [List.getD, ha]
    rw [← e1]; exact this
  simp [ha, h6]
theorem wy_wall (hl : ms'.length = ms.length) (h : ∀ i, ms'.getD i 0 = if wallB ms ban fr i = true then 35 else ms.getD i 0) (hft : freeB ms (to_ : Int) = true) (hwt : wallB ms ban fr to_ = false) (n x : Nat) : Wy (ins R C ms') (mayZ [] fr) to_ n x ↔ Wy (ins R C ms) (mayZ ban fr) to_ n x := by
  have hnil : ∀ y, mayZ [] fr y = true := fun y => by simp [mayZ]
  have hins : ∀ b x, b ∈ ins R C ms' x ↔ b ∈ ins R C ms x ∧ wallB ms ban fr b = false ∧ wallB ms ban fr x = false := fun b x => by
    rw [ins_mem, ins_mem, hl, outs_wall h b]
    cases hb : wallB ms ban fr b with
    | true => simp
    | false => simp [and_assoc]
  constructor
  · intro hw
    induction hw with
    | base _ => exact .base (wall_may hwt hft)
    | step _ h2 _ ih =>
      obtain ⟨h4, h5, _⟩ := (hins _ _).1 h2
      obtain ⟨h6, h7⟩ := ins_mem.1 h4
      exact .step ih h4 (wall_may h5 (out_free h7 h6))
  · intro hw
    induction hw with
    | base _ => exact .base (hnil _)
    | step h1 h2 h3 ih => exact .step ih ((hins _ _).2 ⟨h2, may_wall h3, may_wall h1.last⟩) (hnil _)
/-- Where the end is not walled: the same distance, and the same route. -/
theorem dsZ_wall (hl : ms'.length = ms.length) (h : ∀ i, ms'.getD i 0 = if wallB ms ban fr i = true then 35 else ms.getD i 0) (hto : to_ < ms.length) (hft : freeB ms (to_ : Int) = true) (hwt : wallB ms ban fr to_ = false) (x : Nat) : dsZ R C ms' [] fr to_ x = dsZ R C ms ban fr to_ x := by
  unfold dsZ
  rw [hl]
  refine dsO_same hto (bkN R C ms) (fun x b => ?_) (wy_wall hl h hft hwt) x
  have := bkN R C ms' x b
  rw [hl] at this
  exact this
theorem route_wall (hl : ms'.length = ms.length) (h : ∀ i, ms'.getD i 0 = if wallB ms ban fr i = true then 35 else ms.getD i 0) (hto : to_ < ms.length) (hft : freeB ms (to_ : Int) = true) (hwt : wallB ms ban fr to_ = false) {D : Nat} (hd : dsZ R C ms ban fr to_ fr = some D) : routeZ R C ms' [] fr to_ D = routeZ R C ms ban fr to_ D := by
  unfold routeZ
  rw [hl]
  refine pthR_wall (W := wallB ms ban fr) hto (bkN R C ms) (fun x b => ?_) (wy_wall hl h hft hwt) (fun c hc => ?_) (fun c hc => may_wall hc) ((dsO_some hto (bkN R C ms)).1 hd)
  · have := bkN R C ms' x b
    rw [hl] at this
    exact this
  · rw [outs_wall h c, may_wall hc]
    rfl
theorem find_walled (hl : ms'.length = ms.length) (h : ∀ i, ms'.getD i 0 = if wallB ms ban fr i = true then 35 else ms.getD i 0) (hwt : wallB ms ban fr to_ = true) (bud : Int) : findZ R C ms' (fr : Int) (to_ : Int) [] bud = ([], 2) := by
  have hf : freeB ms' (to_ : Int) = false := by
    rw [free_wall hl h, Int.toNat_natCast, hwt]
    simp
  unfold findZ
  rw [hf]
  simp
theorem find_none (hff : freeB ms (fr : Int) = true) (hft : freeB ms (to_ : Int) = true) (hto : to_ < ms.length) (hwt : wallB ms ban fr to_ = true) : findZ R C ms (fr : Int) (to_ : Int) ban (ms.length : Int) = ([], 40) := by
  have hk := looksN_le R C ms ban fr to_
  have hm : mayZ ban fr to_ = false := by
    unfold wallB at hwt
    rw [hft] at hwt
    simpa using hwt
  have hz : dsZ R C ms ban fr to_ fr = none := by
    refine (dsO_none hto (bkN R C ms)).2 (fun n hw => ?_)
    have key : ∀ {n x}, Wy (ins R C ms) (mayZ ban fr) to_ n x → mayZ ban fr to_ = true := by
      intro n x h
      induction h with
      | base h => exact h
      | step _ _ _ ih => exact ih
    rw [key hw] at hm
    cases hm
  unfold findZ
  rw [hff, hft]
  simp only [Bool.and_self, if_true, Int.toNat_natCast, hz]
  rw [if_neg (by omega)]
theorem find_wall (hl : ms'.length = ms.length) (h : ∀ i, ms'.getD i 0 = if wallB ms ban fr i = true then 35 else ms.getD i 0) (hff : freeB ms (fr : Int) = true) (hft : freeB ms (to_ : Int) = true) (hto : to_ < ms.length) (hwt : wallB ms ban fr to_ = false) : findZ R C ms' (fr : Int) (to_ : Int) [] (ms.length : Int) = findZ R C ms (fr : Int) (to_ : Int) ban (ms.length : Int) := by
  have h1 := looksN_le R C ms ban fr to_
  have h2 := looksN_le R C ms' [] fr to_
  rw [hl] at h2
  have hwf : wallB ms ban fr fr = false := may_wall (by simp [mayZ])
  have f1 : freeB ms' (fr : Int) = true := by rw [free_wall hl h, Int.toNat_natCast, hwf, hff]; rfl
  have f2 : freeB ms' (to_ : Int) = true := by rw [free_wall hl h, Int.toNat_natCast, hwt, hft]; rfl
  have hd := dsZ_wall (R := R) (C := C) hl h hto hft hwt fr
  unfold findZ
  rw [hff, hft, f1, f2]
  simp only [Bool.and_self, if_true, Int.toNat_natCast]
  rw [if_neg (by omega), if_neg (by omega), hd]
  cases hz : dsZ R C ms ban fr to_ fr with
  | none => rfl
  | some D =>
    show (routeZ R C ms' [] fr to_ D, (0 : Int)) = (routeZ R C ms ban fr to_ D, 0)
    rw [route_wall hl h hto hft hwt hz]
end
end Go.Proofs.YtkfijjjnidiejaaDoor

/-
  RouteBans, pure: bytes of a map's text that are set to walls; more banned cells.
-/
namespace Go.Proofs.YtkfijjjnidiejaaDoor
set_option maxRecDepth 100000
set_option linter.unusedSimpArgs false
open Go Go.RowKit Rq

namespace Bn
open Go.Proofs.YtkfijjjnidiejaaDoor.Pure (okc okc_ten fits most wid parse text wid_snoc verdict fin flat_at)
theorem okc_ne {c : UInt8} (h : okc c = true) : c ≠ 10 := by
  intro e; subst e; rw [okc_ten] at h; cases h

theorem parse_row (M : List (List UInt8)) (s : List UInt8) (hM : M.length < 32) : ∀ (x r : List UInt8), (∀ c ∈ x, okc c = true) → (r ++ x).length ≤ most M → 0 < (r ++ x).length → (M = [] ∨ (r ++ x).length = wid M) →
    parse (x ++ 10 :: s) M r = parse s (M ++ [r ++ x]) []
  | [], r, _, _, hp, hw => by
    have hf : fits M r 10 = true := by
      simp only [List.append_nil] at hp hw
      simp only [fits, Bool.and_eq_true, decide_eq_true_eq, if_true]
      exact ⟨hM, hp, hw⟩
    rw [List.nil_append, parse, if_pos hf, if_pos rfl, List.append_nil]
  | c :: x, r, hok, hm, hp, hw => by
    have hc := hok c (by simp)
    have hc10 := okc_ne hc
    have hlt : r.length < most M := by simp at hm; omega
    have hf : fits M r c = true := by
      simp only [fits, Bool.and_eq_true, decide_eq_true_eq, if_neg hc10]
      exact ⟨hM, hc, hlt⟩
    have e : (r ++ [c]) ++ x = r ++ c :: x := by simp
    rw [List.cons_append, parse, if_pos hf, if_neg hc10, parse_row M s hM x (r ++ [c]) (fun d hd => hok d (by simp [hd])) (by rw [e]; exact hm) (by rw [e]; exact hp) (by rw [e]; exact hw), e]

theorem parse_rows {W : Nat} (h1 : 1 ≤ W) (h2 : W ≤ 32) : ∀ (K M : List (List UInt8)), M.length + K.length ≤ 32 → (∀ x ∈ K, x.length = W ∧ ∀ c ∈ x, okc c = true) → (M = [] ∨ wid M = W) →
    parse (text K) M [] = (true, M ++ K, [])
  | [], M, _, _, _ => by simp [text, parse]
  | x :: K, M, hl, hx, hM => by
    have hxx := hx x (by simp)
    have hm : W ≤ most M := by
      unfold most
      split
      · exact h2
      · rename_i hn
        rcases hM with e | e
        · exact absurd e hn
        · omega
    have ht : text (x :: K) = x ++ 10 :: text K := by simp [text]
    simp only [List.length_cons] at hl
    rw [ht, parse_row M (text K) (by omega) x [] hxx.2 (by simpa [hxx.1] using hm) (by simp [hxx.1]; omega) (by rcases hM with e | e; exact .inl e; exact .inr (by simp [hxx.1, e])), List.nil_append,
      parse_rows h1 h2 K (M ++ [x]) (by simp; omega) (fun y hy => hx y (by simp [hy])) ?_]
    · simp
    · right
      rcases hM with rfl | e
      · exact hxx.1
      · rcases Decidable.em (M = []) with rfl | hn
        · exact hxx.1
        · rw [wid_snoc M x hn, e]

theorem verdict_text {L : List (List UInt8)} (h : Pure.Good L) : verdict (text L) = .good L := by
  have hp := parse_rows h.lo h.hi L [] (by simpa using h.len) (fun x hx => ⟨h.row x hx, h.ok x hx⟩) (.inl rfl)
  rw [List.nil_append] at hp
  unfold verdict
  rw [hp]
  simp only [fin]
  rw [if_neg (by simp [h.ne]), if_neg (by simp [h.free])]

theorem get_at (l : List UInt8) {i : Nat} (h : i < l.length) : l.getD i 0 = l[i] := by simp [List.getD, h]
theorem get_set (l : List UInt8) {i : Nat} (h : i < l.length) (c : UInt8) : (l.set i c).getD i 0 = c := by simp [List.getD, h]
/-- Cell r of row q is walled. -/
def setL (L : List (List UInt8)) (q r : Nat) : List (List UInt8) := L.modify q (fun x => x.set r 35)

theorem text_set {n : Nat} : ∀ (L : List (List UInt8)) (q r : Nat), (∀ x ∈ L, x.length = n) → r < n → q < L.length → text (setL L q r) = (text L).set (q * (n + 1) + r) 35
  | [], q, r, _, _, h => by simp at h
  | x :: L, 0, r, hx, hr, _ => by
    have e : text (x :: L) = (x ++ [10]) ++ text L := by simp [text]
    have e2 : text (setL (x :: L) 0 r) = (x.set r 35 ++ [10]) ++ text L := by simp [setL, text]
    have hxl := hx x (by simp)
    rw [e, e2, Nat.zero_mul, Nat.zero_add, List.append_assoc, List.append_assoc, List.set_append_left _ _ (by omega)]
  | x :: L, q + 1, r, hx, hr, hq => by
    have e : text (x :: L) = (x ++ [10]) ++ text L := by simp [text]
    have e2 : text (setL (x :: L) (q + 1) r) = (x ++ [10]) ++ text (setL L q r) := by simp [setL, text]
    have hxl := hx x (by simp)
    have ih := text_set L q r (fun y hy => hx y (by simp [hy])) hr (by simpa using hq)
    have hm : (q + 1) * (n + 1) + r = (n + 1) + (q * (n + 1) + r) := by rw [Nat.add_mul, Nat.one_mul]; omega
    rw [e, e2, ih, hm, List.set_append_right _ _ (by simp [hxl])]
    congr 2
    simp [hxl]
theorem flat_set {n : Nat} : ∀ (L : List (List UInt8)) (q r : Nat), (∀ x ∈ L, x.length = n) → r < n → q < L.length → (setL L q r).flatten = L.flatten.set (q * n + r) 35
  | [], q, r, _, _, h => by simp at h
  | x :: L, 0, r, hx, hr, _ => by
    have e2 : (setL (x :: L) 0 r).flatten = x.set r 35 ++ L.flatten := by simp [setL]
    have hxl := hx x (by simp)
    rw [List.flatten_cons, e2, Nat.zero_mul, Nat.zero_add, List.set_append_left _ _ (by omega)]
  | x :: L, q + 1, r, hx, hr, hq => by
    have e2 : (setL (x :: L) (q + 1) r).flatten = x ++ (setL L q r).flatten := by simp [setL]
    have hxl := hx x (by simp)
    have ih := flat_set L q r (fun y hy => hx y (by simp [hy])) hr (by simpa using hq)
    have hm : (q + 1) * n + r = n + (q * n + r) := by rw [Nat.add_mul, Nat.one_mul]; omega
    rw [List.flatten_cons, e2, ih, hm, List.set_append_right _ _ (by omega)]
    congr 2
    omega
theorem mem_setL {L : List (List UInt8)} {q r : Nat} {x : List UInt8} (h : x ∈ setL L q r) : ∃ y ∈ L, x = y ∨ x = y.set r 35 := by
  unfold setL at h
  obtain ⟨i, hi, rfl⟩ := List.mem_iff_getElem.1 h
  have hl : i < L.length := by simpa using hi
  refine ⟨L[i], List.getElem_mem hl, ?_⟩
  rw [List.getElem_modify]
  split
  · exact .inr rfl
  · exact .inl rfl
theorem wid_setL {L : List (List UInt8)} {q r : Nat} : wid (setL L q r) = wid L := by
  cases L with
  | nil => simp [setL, wid]
  | cons x L =>
    cases q with
    | zero => simp [setL, wid]
    | succ q => simp [setL, wid]
theorem len_setL {L : List (List UInt8)} {q r : Nat} : (setL L q r).length = L.length := by simp [setL]
theorem good_setL {L : List (List UInt8)} (h : Pure.Good L) {q r f : Nat} (hr : r < wid L) (hq : q < L.length) (hf : f ≠ q * wid L + r) (hff : L.flatten.getD f 0 ≠ 35) (hfl : f < L.flatten.length) : Pure.Good (setL L q r) := by
  refine ⟨?_, by rw [len_setL]; exact h.len, ?_, by rw [wid_setL]; exact h.lo, by rw [wid_setL]; exact h.hi, ?_, ?_⟩
  · intro e
    have := congrArg List.length e
    rw [len_setL] at this
    exact h.ne (List.length_eq_zero_iff.1 this)
  · intro x hx
    rw [wid_setL]
    obtain ⟨y, hy, rfl | rfl⟩ := mem_setL hx
    · exact h.row _ hy
    · rw [List.length_set]; exact h.row _ hy
  · intro x hx c hc
    obtain ⟨y, hy, rfl | rfl⟩ := mem_setL hx
    · exact h.ok _ hy c hc
    · rcases List.mem_or_eq_of_mem_set hc with h1 | rfl
      · exact h.ok _ hy c h1
      · decide
  · unfold Pure.wall
    rw [flat_set L q r h.row hr hq, List.all_eq_false]
    refine ⟨(L.flatten.set (q * wid L + r) 35)[f]'(by simpa using hfl), List.getElem_mem _, ?_⟩
    rw [List.getElem_set_ne (by omega)]
    rw [get_at _ hfl] at hff
    simpa using hff

/-- Rows behind j cells: walled where these name free cells other than the beginning. -/
structure Wal (L0 L : List (List UInt8)) (ban : List Int) (fr : Nat) : Prop where
  good : Pure.Good L
  len : L.length = L0.length
  wide : Pure.wid L = Pure.wid L0
  size : L.flatten.length = L0.flatten.length
  at_ : ∀ i, L.flatten.getD i 0 = if (freeB L0.flatten (i : Int) && (decide ((i : Int) ∈ ban) && !decide (i = fr))) = true then 35 else L0.flatten.getD i 0
theorem Wal.start {L0 : List (List UInt8)} (h : Pure.Good L0) (fr : Nat) : Wal L0 L0 [] fr := ⟨h, rfl, rfl, rfl, fun i => by simp⟩
theorem Wal.skip {L0 L : List (List UInt8)} {ban : List Int} {fr : Nat} (h : Wal L0 L ban fr) {x : Int} (hx : freeB L0.flatten x = false ∨ x = (fr : Int)) : Wal L0 L (ban ++ [x]) fr := by
  refine ⟨h.good, h.len, h.wide, h.size, fun i => ?_⟩
  rw [h.at_ i]
  have e : (freeB L0.flatten (i : Int) && (decide ((i : Int) ∈ ban ++ [x]) && !decide (i = fr))) = (freeB L0.flatten (i : Int) && (decide ((i : Int) ∈ ban) && !decide (i = fr))) := by
    by_cases hi : (i : Int) = x
    · rcases hx with hx | hx
      · rw [hi, hx]; simp
      · have : i = fr := by omega
        simp [this]
    · simp [List.mem_append, hi]
  rw [e]
theorem Wal.put {L0 L : List (List UInt8)} {ban : List Int} {fr : Nat} (h : Wal L0 L ban fr) (hfr : freeB L0.flatten (fr : Int) = true) {x : Nat} (hx : freeB L0.flatten (x : Int) = true) (hne : x ≠ fr) :
    Wal L0 (setL L (x / Pure.wid L0) (x % Pure.wid L0)) (ban ++ [(x : Int)]) fr ∧ text (setL L (x / Pure.wid L0) (x % Pure.wid L0)) = (text L).set (x / Pure.wid L0 * (Pure.wid L0 + 1) + x % Pure.wid L0) 35 ∧ x / Pure.wid L0 * (Pure.wid L0 + 1) + x % Pure.wid L0 < (text L).length := by
  have hw := h.wide
  have hlo := h.good.lo
  have hr : x % Pure.wid L0 < Pure.wid L := by rw [hw]; exact Nat.mod_lt _ (by omega)
  obtain ⟨_, hx2⟩ := free_range hx
  have hsz := h.good.size
  have hx3 : x < L.flatten.length := by rw [h.size]; omega
  have hq : x / Pure.wid L0 < L.length := by
    rw [← hw, Nat.div_lt_iff_lt_mul (by omega), ← hsz]; exact hx3
  obtain ⟨_, hf2⟩ := free_range hfr
  have hdm : x / Pure.wid L0 * Pure.wid L + x % Pure.wid L0 = x := by rw [hw, Nat.mul_comm]; exact Nat.div_add_mod _ _
  have hfv : L.flatten.getD fr 0 ≠ 35 := by
    rw [h.at_ fr]
    simp only [decide_true, Bool.not_true, Bool.and_false, Bool.false_eq_true, if_false]
    unfold freeB at hfr
    have := (Bool.and_eq_true_iff.1 hfr).2
    simpa using this
  have hfl : fr < L.flatten.length := by rw [h.size]; omega
  have hG := good_setL h.good (q := x / Pure.wid L0) (r := x % Pure.wid L0) (f := fr) hr hq (by rw [hdm]; exact fun e => hne e.symm) hfv hfl
  refine ⟨⟨hG, by rw [len_setL, h.len], by rw [wid_setL, hw], ?_, fun i => ?_⟩, ?_, ?_⟩
  · rw [flat_set L _ _ h.good.row hr hq, List.length_set, h.size]
  · rw [flat_set L _ _ h.good.row hr hq, hdm]
    by_cases hi : i = x
    · subst hi
      have e1 : (L.flatten.set i 35).getD i 0 = 35 := get_set _ hx3 35
      rw [e1, if_pos]
      rw [hx]
      simp [hne]
    · have e1 : (L.flatten.set x 35).getD i 0 = L.flatten.getD i 0 := by simp [List.getD, List.getElem?_set_ne (Ne.symm hi)]
      rw [e1, h.at_ i]
      have hi2 : ¬ (i : Int) = (x : Int) := by omega
      simp [List.mem_append, hi2]
  · have := text_set L (x / Pure.wid L0) (x % Pure.wid L0) h.good.row hr hq
    rw [this, hw]
  · have hL : ∀ (K : List (List UInt8)) (n : Nat), (∀ y ∈ K, y.length = n) → (text K).length = K.length * (n + 1) := by
      intro K n
      induction K with
      | nil => intro _; simp [text]
      | cons y K ih =>
        intro hy
        have h1 := hy y (by simp)
        have h2 := ih (fun z hz => hy z (by simp [hz]))
        simp only [text, List.flatMap_cons, List.length_append, List.length_cons, List.length_nil] at h2 ⊢
        rw [h1, h2, Nat.add_mul (K.length) 1, Nat.one_mul]
        omega
    rw [hL L _ h.good.row, hw]
    have h1 : (x / Pure.wid L0 + 1) * (Pure.wid L0 + 1) ≤ L.length * (Pure.wid L0 + 1) := Nat.mul_le_mul_right _ hq
    rw [Nat.add_mul, Nat.one_mul] at h1
    rw [hw] at hr
    omega
end Bn

section
variable {R C : Nat} {ms : List UInt8} {fr to_ : Nat}
/-- With more banned cells the distance is no less. -/
theorem dist_more {some_ more : List Int} {y : Int} (ht : to_ < ms.length) (hf : freeB ms (fr : Int) = true) (hf2 : freeB ms (to_ : Int) = true) (h : distZ R C ms (fr : Int) (to_ : Int) (some_ ++ more) = (y, 0)) : ∃ x, distZ R C ms (fr : Int) (to_ : Int) some_ = (x, 0) ∧ x ≤ y := by
  unfold distZ at h ⊢
  rw [hf, hf2] at h ⊢
  simp only [Bool.and_self, if_true, Int.toNat_natCast] at h ⊢
  cases hz : dsZ R C ms (some_ ++ more) fr to_ fr with
  | none => rw [hz] at h; simp at h
  | some D =>
    rw [hz] at h
    have hy : (D : Int) = y := (Prod.mk.inj h).1
    have h1 := ((dsZ_some ht).1 hz).1
    have h2 : Wy (ins R C ms) (mayZ some_ fr) to_ D fr := h1.mono (fun c hc => by
      unfold mayZ at hc ⊢
      simp only [List.mem_append, Bool.or_eq_true, Bool.not_eq_true', decide_eq_false_iff_not, decide_eq_true_eq] at hc ⊢
      rcases hc with hc | hc
      · exact .inl (fun h => hc (.inl h))
      · exact .inr hc)
    obtain ⟨Z, hZ, hd⟩ := h2.ds
    rw [(dsZ_some ht).2 hd]
    exact ⟨_, rfl, by omega⟩
theorem dist_kind (ban : List Int) (a b : Int) : (distZ R C ms a b ban).2 = 0 ∨ (distZ R C ms a b ban).2 = 40 ∨ (distZ R C ms a b ban).2 = 2 := by
  unfold distZ
  split
  · split <;> simp
  · simp
theorem dist_free {ban : List Int} {a b : Int} (h : (freeB ms a && freeB ms b) = true) : (distZ R C ms a b ban).2 ≠ 2 := by
  unfold distZ
  rw [if_pos h]
  split <;> simp
theorem dist_not {ban : List Int} {a b : Int} (h : (freeB ms a && freeB ms b) = false) : distZ R C ms a b ban = (0, 2) := by
  unfold distZ
  rw [h]
  rfl
theorem wallB_eq (ban : List Int) (i : Nat) : (freeB ms (i : Int) && (decide ((i : Int) ∈ ban) && !decide (i = fr))) = wallB ms ban fr i := by
  unfold wallB mayZ
  simp
end
end Go.Proofs.YtkfijjjnidiejaaDoor

/-
  RouteBans: its ground in memory: a list behind another one, a text's bytes, two maps.
-/
namespace Go.Proofs.YtkfijjjnidiejaaDoor
set_option maxRecDepth 100000
set_option linter.unusedSimpArgs false
open Go Go.RowKit Rq

/-- A list that came in, behind one of the call's own. -/
theorem wpList_append_ints {ops : Array Oper} {rest : List Oper} {o : Oper} {a : Act} {w : World} {Q : Exit → Act → World → Prop} (hgd : o.guard = none) (s x : Operand)
    (ho : o.op = .call { callee := .builtin .append, args := #[s, x], argTypes := #[22, 22] }) (base : Nat) {v : Value} {n : Nat} {L : List Int} (hs : a.eval s = v) (hown : w.ownsRow base 3 1 v n (L.map intW))
    {A : Option Addr} {m c : Nat} {news : List Int} (hx : a.eval x = .slice A m c) (hA : IntsAt w A news) (hm : m = news.length) (hn : A = none → news = [] ∧ c = 0)
    (h63 : n + m ≤ 1000000) (hbase : base ≤ w.heap.size)
    (h : ∀ v' w', w'.ownsRow base 3 1 v' (n + m) ((L ++ news).map intW) → w.grownBy w' v.ownBlock → wpList Tryd.prog ops Q rest (a.put o.dst v') w') : wpList Tryd.prog ops Q (o :: rest) a w := by
  obtain ⟨i0, hi0, hz0, hz1, hz2⟩ := info_parts Tryd.infoInt
  cases A with
  | none =>
    obtain ⟨rfl, rfl⟩ := hn rfl
    subst hm
    exact wpList_append_own_none hgd s x 22 ho base 3 i0 1 Tryd.underlying22 hi0 v n (L.map intW) hs hown hx (h v w (by simpa using hown) (World.grownBy.refl w _))
  | some ad =>
    refine wpList_append_own (P := Tryd.prog) w hgd s x 22 ho base 3 i0 (.int .i64 0) 1 8 Tryd.underlying22 hi0 hz0 hz1 hz2 rfl (by decide) v n (L.map intW) hs hown ad m c (news.map intW) hx (by rw [List.length_map]; omega) ?_ (by intro u hu; obtain ⟨z, _, rfl⟩ := List.mem_map.1 hu; rfl) (by unfold maxLen; omega) (by omega) hbase (fun v' w' h1 h2 _ => h v' w' (by rw [List.map_append]; exact h1) h2)
    intro j u hu
    have hj : j < news.length := by
      rcases Nat.lt_or_ge j news.length with h | h
      · exact h
      · rw [List.getElem?_eq_none (by simpa using h)] at hu; cases hu
    obtain ⟨a', e1, _, h2⟩ := hA j hj
    cases e1
    rw [h2, ← hu]
    simp [intW, List.getD, hj]

/-- Find's list lies apart from whatever there was. -/
theorem m1_findN {w0 w : World} {bm gm cm R C : Nat} {ms : List UInt8} (h : M1 w0 bm gm cm R C ms w) {B : Option Addr} {ban : List Int} (hB : IntsAt w B ban) {m cb : Nat} (hm : ban.length = m) (hbm : ban.length ≤ maxLen) {fr to_ bud : Int} {l : List Nat} {z : Int} (hz : findZ R C ms fr to_ ban bud = (l, z)) {n : Nat} (hn : l.length = n) :
    Calls Tryd.prog 11 #[.pointer (some ⟨bm, 0, none⟩), .int .i64 fr, .int .i64 to_, .slice B m cb, .int .i64 bud] w fun e w' => ∃ a c, e = .returned (.tuple #[.slice a n c, .int .i64 z]) ∧ (M1 w0 bm gm cm R C ms w' ∧ (∀ k, k < w.heap.size → LstN k w' (.slice a n c) l) ∧ w.grownBy w' (some bm)) := by
  subst hm hn
  refine (finds_any h.em hB hbm bud).mono ?_
  rw [hz]
  rintro e w' ⟨v, rfl, hx, ho⟩
  obtain ⟨a, c, rfl, hl⟩ := lstn_of (l := l) ho h.lt
  refine ⟨a, c, rfl, h.emx hx, fun k hk => ?_, hx.grown⟩
  obtain ⟨a', c', e, h2⟩ := lstn_of (l := l) ho hk
  exact h2

/-- The world behind []byte(s). -/
def bytesW (w : World) (s : ByteArray) : World :=
  w.drew.alloc (.cells (bytesRow s (grownCap w s.size 0 5)) 5 ((bytesRow s (grownCap w s.size 0 5)).size, (bytesRow s (grownCap w s.size 0 5)).size + 1))
theorem run_bytes (s : ByteArray) (w : World) : (convert 9 30 (.string s)).run Tryd.prog w = .ok (.slice (some ⟨w.heap.size, 0, none⟩) s.size (grownCap w s.size 0 5)) (bytesW w s) :=
  run_bytes_of_string w 9 30 5 s Tryd.underlying9 Tryd.underlying30 Tryd.underlying5
/-- Bytes in memory that may be written. -/
def BytesAt (w : World) (p : Nat) (l : List UInt8) : Prop := ∀ j, (hj : j < l.length) → w.cell? ⟨p, j, none⟩ = some (.int .u8 (l[j].toNat : Int)) ∧ w.frozen? ⟨p, j, none⟩ = false
theorem bytesW_below (w : World) (s : ByteArray) : Below w.heap.size w (bytesW w s) := (Below.refl _ _).drew.alloc (Nat.le_refl _) _
theorem bytesW_size (w : World) (s : ByteArray) : (bytesW w s).heap.size = w.heap.size + 1 := by simp [bytesW]
theorem bytesW_at (w : World) (s : ByteArray) {l : List UInt8} (hl : l = s.data.toList) : BytesAt (bytesW w s) w.heap.size l := by
  subst hl
  intro j hj
  have hs : j < s.data.size := by simpa using hj
  constructor
  · show (w.drew.alloc _).cell? ⟨w.drew.heap.size, j, none⟩ = _
    rw [World.cell?_alloc_mark, bytesRow_at s _ j hs]
    simp
  · show (w.drew.alloc _).frozen? ⟨w.drew.heap.size, j, none⟩ = _
    rw [World.frozen?_alloc_mark]
    have : s.data.size ≤ (bytesRow s (grownCap w s.size 0 5)).size := by simp [bytesRow]
    have h2 : ¬ (bytesRow s (grownCap w s.size 0 5)).size ≤ j := by omega
    simp [h2]
theorem BytesAt.kept {w w' : World} {p : Nat} {l : List UInt8} (h : BytesAt w p l) (hb : w'.heap[p]? = w.heap[p]?) : BytesAt w' p l := fun j hj =>
  ⟨(World.cell?_of_block hb).trans (h j hj).1, (World.frozen?_of_block (a := ⟨p, j, none⟩) hb).trans (h j hj).2⟩
theorem BytesAt.set {w : World} {p i : Nat} {l : List UInt8} (h : BytesAt w p l) (hi : i < l.length) (c : UInt8) : BytesAt (w.setCell ⟨p, i, none⟩ (.int .u8 (c.toNat : Int))) p (l.set i c) := by
  intro j hj
  have hj' : j < l.length := by simpa using hj
  constructor
  · by_cases e : i = j
    · subst e
      rw [World.cell?_setCell_same _ _ _ (h i hi).1]
      simp
    · rw [World.cell?_setCell_other _ ⟨p, i, none⟩ ⟨p, j, none⟩ _ (by intro e2; apply e; cases e2; rfl), (h j hj').1, List.getElem_set_ne e]
  · rw [World.frozen?_setCell]
    exact (h j hj').2
theorem run_back {w : World} {p n cap : Nat} {l : List UInt8} (h : BytesAt w p l) (hn : n = l.length) : (convert 30 9 (.slice (some ⟨p, 0, none⟩) n cap)).run Tryd.prog w = .ok (.string ⟨l.toArray⟩) w := by
  subst hn
  refine run_convert_bytes_back w 30 9 5 ⟨p, 0, none⟩ cap l Tryd.underlying30 Tryd.underlying5 Tryd.underlying9 (fun j hj => ?_)
  have : Addr.add ⟨p, 0, none⟩ j = ⟨p, j, none⟩ := by simp [Addr.add]; omega
  rw [this]
  exact (h j hj).1
end Go.Proofs.YtkfijjjnidiejaaDoor

/-
  RouteBans: its walk, where there is little to do.
-/
namespace Go.Proofs.YtkfijjjnidiejaaDoor
set_option maxRecDepth 100000
set_option linter.unusedSimpArgs false
open Go Go.RowKit Rq

set_option maxHeartbeats 1000000 in
theorem bb_out (s : ByteArray) (fr to_ : Int) (B A : Option Addr) (m cb k ck : Nat) (w : World) (hw : Ways w) (hs : s.size ≤ maxLen) (h : 400 < s.size ∨ 60 < m ∨ 60 < k) :
    Calls Tryd.prog 3 #[.string s, .int .i64 fr, .int .i64 to_, .slice B m cb, .slice A k ck] w fun e w' => e = .returned (.bool true) ∧ Below w.heap.size w w' := by
  have HA := Lib.hid (ralive_any w hw)
  have HP : Hid (∀ w, Calls Tryd.prog 7 #[.string s] w (ParseSome w)) := fun w => parse_some s w hs
  clear hw hs
  by_cases h1 : 400 < s.size
  · clear h
    go_enter Tryd.func3, Tryd.ntmps3
    go_wp2_with (first
      | (go_at_call 6; (with_reducible refine HA.out.mono ?_); rintro e w1 ⟨rfl, hb⟩)
      | (go_at_call 7; (with_reducible refine (HP.out _).mono ?_); rintro e w2 ⟨p, l, c, z, rfl, hb2⟩))
    go_ret
    exact ⟨rfl, hb.trans (hb2.mono hb.size)⟩
  · have h2 := h.resolve_left h1
    have h3 : s.size ≤ 400 := Nat.le_of_not_lt h1
    clear h h1
    by_cases h4 : 60 < m
    · clear h2
      go_enter Tryd.func3, Tryd.ntmps3
      go_wp2_with (first
        | (go_at_call 6; (with_reducible refine HA.out.mono ?_); rintro e w1 ⟨rfl, hb⟩)
        | (go_at_call 7; (with_reducible refine (HP.out _).mono ?_); rintro e w2 ⟨p, l, c, z, rfl, hb2⟩))
      go_ret
      exact ⟨rfl, hb.trans (hb2.mono hb.size)⟩
    · have h5 : 60 < k := h2.resolve_left h4
      have h6 : m ≤ 60 := Nat.le_of_not_lt h4
      clear h2 h4
      go_enter Tryd.func3, Tryd.ntmps3
      go_wp2_with (first
        | (go_at_call 6; (with_reducible refine HA.out.mono ?_); rintro e w1 ⟨rfl, hb⟩)
        | (go_at_call 7; (with_reducible refine (HP.out _).mono ?_); rintro e w2 ⟨p, l, c, z, rfl, hb2⟩))
      go_ret
      exact ⟨rfl, hb.trans (hb2.mono hb.size)⟩

set_option maxHeartbeats 1000000 in
theorem bb_bad (s : ByteArray) (fr to_ : Int) (B A : Option Addr) (m cb k ck : Nat) (w : World) (hw : Ways w) (hs : s.size ≤ 400) (hm : m ≤ 60) (hk : k ≤ 60) {l c : Nat} (hv : Pure.verdict s.data.toList = .bad l c) :
    Calls Tryd.prog 3 #[.string s, .int .i64 fr, .int .i64 to_, .slice B m cb, .slice A k ck] w fun e w' => e = .returned (.bool true) ∧ Below w.heap.size w w' := by
  have HA := Lib.hid (ralive_any w hw)
  have HP := Lib.hid (fun w => parse_bad hv w (by unfold maxLen; omega))
  clear hw hv
  go_enter Tryd.func3, Tryd.ntmps3
  go_wp2_with (first
    | (go_at_call 6; (with_reducible refine HA.out.mono ?_); rintro e w1 ⟨rfl, hb⟩)
    | (go_at_call 7; (with_reducible refine (HP.out _).mono ?_); rintro e w2 ⟨rfl, hb2⟩))
  go_ret
  exact ⟨rfl, hb.trans (hb2.mono hb.size)⟩

/-- Both lists, one behind the other, in new memory. -/
theorem both_own {w wr : World} {L M : List Int} {v : Value} {n : Nat} (h : wr.ownsRow w.heap.size 3 1 v n ((([] ++ L) ++ M).map intW)) (hn : n = L.length + M.length) : ∃ A c, v = .slice A (L.length + M.length) c ∧ IntsAt wr A (L ++ M) ∧ ∀ a, A = some a → w.heap.size ≤ a.block := by
  subst hn
  rcases h.2 with ⟨rfl, h0⟩ | ⟨g, cap, cur, rfl, h1, h2, h3, _⟩
  · exact ⟨none, 0, by rw [h0], fun j hj => by rw [List.length_append] at hj; omega, fun a e => by cases e⟩
  · refine ⟨some ⟨g, 0, none⟩, cap, rfl, fun j hj => ⟨_, rfl, blk_lt h2, ?_⟩, fun a e => by cases e; exact h1⟩
    have : Addr.add ⟨g, 0, none⟩ j = ⟨g, j, none⟩ := by simp [Addr.add]; omega
    rw [List.length_append] at hj
    rw [this, h.cellAt j (by omega)]
    simp only [List.nil_append]
    have hj2 : j < (L ++ M).length := by rw [List.length_append]; exact hj
    simp only [List.getElem?_map, List.getElem?_eq_getElem hj2, List.getD, Option.map_some, Option.getD_some, intW]

theorem ints_grown {w w' : World} {A : Option Addr} {l : List Int} {b : Nat} (h : IntsAt w A l) (hg : w.grownBy w' (some b)) (hne : ∀ a, A = some a → a.block ≠ b) : IntsAt w' A l := by
  intro j hj
  obtain ⟨a, e, h1, h2⟩ := h j hj
  have hbk : (a.add j).block = a.block := by unfold Addr.add; split <;> rfl
  exact ⟨a, e, Nat.lt_of_lt_of_le h1 hg.size, hg.cell h2 (fun e2 => hne a e (by rw [hbk] at e2; injection e2))⟩

set_option maxHeartbeats 2000000 in
theorem bb_err (s : ByteArray) (fr to_ : Int) (B A : Option Addr) (some_ more : List Int) (cb ck : Nat) (w : World) (hw : Ways w) (hs : s.size ≤ 400) (hm : some_.length ≤ 60) (hk : more.length ≤ 60) (hB : IntsAt w B some_) (hA : IntsAt w A more) (hcb : B = none → some_ = [] ∧ cb = 0) (hca : A = none → more = [] ∧ ck = 0) {R C : Nat} {ms : List UInt8} (hG : Got s w R C ms) (hf : (freeB ms fr && freeB ms to_) = false) :
    Calls Tryd.prog 3 #[.string s, .int .i64 fr, .int .i64 to_, .slice B some_.length cb, .slice A more.length ck] w fun e w' => e = .returned (.bool true) ∧ Below w.heap.size w w' := by
  have HA := Lib.hid (ralive_any w hw)
  have HP := Lib.hid hG.parse
  obtain ⟨m, hmm⟩ : ∃ m, m = some_.length := ⟨_, rfl⟩
  obtain ⟨k, hkk⟩ : ∃ k, k = more.length := ⟨_, rfl⟩
  have HD1 : Hid (∀ b g cap W, M1 w b g cap R C ms W → Calls Tryd.prog 8 #[.pointer (some ⟨b, 0, none⟩), .int .i64 fr, .int .i64 to_, .slice B m cb] W fun e w' => e = .returned (.tuple #[.int .i64 0, .int .i64 2]) ∧ (M1 w b g cap R C ms w' ∧ W.grownBy w' (some b))) := fun b g cap W h => m1_dist h (h.ints hB) hmm.symm (by unfold maxLen; omega) (dist_not hf)
  have HD2 : Hid (∀ b g cap W A' c', M1 w b g cap R C ms W → IntsAt W A' (some_ ++ more) → Calls Tryd.prog 8 #[.pointer (some ⟨b, 0, none⟩), .int .i64 fr, .int .i64 to_, .slice A' (m + k) c'] W fun e w' => e = .returned (.tuple #[.int .i64 0, .int .i64 2]) ∧ (M1 w b g cap R C ms w' ∧ W.grownBy w' (some b))) := fun b g cap W A' c' h hi => m1_dist h hi (by rw [List.length_append]; omega) (by rw [List.length_append]; unfold maxLen; omega) (dist_not hf)
  have HBB := Lib.hid hB
  have HAA := Lib.hid hA
  have HCB := Lib.hid hcb
  have HCA := Lib.hid hca
  have HMl := Lib.hid hmm
  have HKl := Lib.hid hkk
  rw [← hmm] at hm ⊢
  rw [← hkk] at hk ⊢
  clear hw hG hB hA hcb hca hf hmm hkk
  go_enter Tryd.func3, Tryd.ntmps3
  go_wp2_with (first
    | (go_at_call 6; (with_reducible refine HA.out.mono ?_); rintro e w1 ⟨rfl, hb⟩)
    | (go_at_call 7; (with_reducible refine (HP.out w1 hb).mono ?_); rintro e w2 ⟨b, g, cap, rfl, hm2⟩; have H2 := Lib.hid hm2; clear hm2)
    | (at_builtin; refine wpList_append_ints rfl (.tmp 61) (.tmp 62) rfl w2.heap.size (v := .slice (some ⟨w2.heap.size, 0, none⟩) 0 0) (n := 0) (L := []) rfl (row_empty w2 _ rfl) (m := m) (c := cb) rfl ((H2.out.alloc _).ints HBB.out) HMl.out HCB.out (by omega) (by simp) ?_; intro v3 w3 ho3 hg3; have HO3 := Lib.hid ho3; have HB3 := Lib.hid (((Below.refl w2.heap.size w2).alloc (Nat.le_refl _) (.cells #[] 3)).grown hg3 (by simp) (fun k hk => by simp [Value.ownBlock] at hk; omega)); clear ho3 hg3)
    | (at_builtin; refine wpList_append_ints rfl (.tmp 63) (.tmp 64) rfl w2.heap.size rfl HO3.out (m := k) (c := ck) rfl ((H2.out.below HB3.out).ints HAA.out) HKl.out HCA.out (by omega) HB3.out.size ?_; intro v4 w4 ho4 hg4; have HB4 := Lib.hid (HB3.out.grown hg4 HB3.out.size (fun k hk => (HO3.out.lt k hk).1)); obtain ⟨A4, c4, hv4, hi4, hn4⟩ := both_own ho4 (by rw [← HMl.out, ← HKl.out]; omega); rw [← HMl.out, ← HKl.out] at hv4; subst hv4; have HI4 := Lib.hid hi4; have HN4 := Lib.hid hn4; have H4 := Lib.hid (H2.out.below HB4.out); clear ho4 hg4 hi4 hn4)
    | (go_at_call 8; (with_reducible refine (HD1.out _ _ _ _ H4.out).mono ?_); rintro e w5 ⟨rfl, hm5⟩; have H5 := Lib.hid hm5.1; have HI5 := Lib.hid (ints_grown HI4.out hm5.2 (fun a e => by have h1 := HN4.out a e; have h2 := H2.out.lt; omega)); clear hm5)
    | (go_at_call 8; (with_reducible refine (HD2.out _ _ _ _ _ _ H5.out HI5.out).mono ?_); rintro e w6 ⟨rfl, hm6⟩; have H6 := Lib.hid hm6.1; clear hm6))
  go_ret
  exact ⟨rfl, H6.out.bl⟩
end Go.Proofs.YtkfijjjnidiejaaDoor

/-
  RouteBans: its walk, both ends free.
-/
namespace Go.Proofs.YtkfijjjnidiejaaDoor
set_option maxRecDepth 100000
set_option linter.unusedSimpArgs false
open Go Go.RowKit Rq

/-- The bytes behind j cells. -/
def BanR (w6 : World) (L0 : List (List UInt8)) (all : List Int) (fr n j : Nat) (wr : World) : Prop :=
  Below w6.heap.size w6 wr ∧ w6.heap.size < wr.heap.size ∧ ∃ L, Bn.Wal L0 L (all.take j) fr ∧ BytesAt wr w6.heap.size (Pure.text L) ∧ (Pure.text L).length = n
theorem BanR.start {w6 : World} {L0 : List (List UInt8)} {all : List Int} {fr : Nat} {s : ByteArray} (hG : Pure.Good L0) (ht : Pure.text L0 = s.data.toList) : BanR w6 L0 all fr s.size 0 (bytesW w6 s) :=
  ⟨bytesW_below w6 s, by rw [bytesW_size]; omega, L0, by rw [List.take_zero]; exact .start hG fr, bytesW_at w6 s ht, by rw [ht]; simp⟩
theorem take_one {all : List Int} {j : Nat} (h : j < all.length) : all.take (j + 1) = all.take j ++ [all.getD j 0] := by
  rw [List.take_succ_eq_append_getElem h]
  simp [List.getD, h]
theorem BanR.skip {w6 wr : World} {L0 : List (List UInt8)} {all : List Int} {fr n j : Nat} (h : BanR w6 L0 all fr n j wr) (hj : j < all.length) (hx : freeB L0.flatten (all.getD j 0) = false ∨ all.getD j 0 = (fr : Int)) : BanR w6 L0 all fr n (j + 1) wr := by
  obtain ⟨h1, h2, L, h3, h4, h5⟩ := h
  exact ⟨h1, h2, L, by rw [take_one hj]; exact h3.skip hx, h4, h5⟩
/-- One more is walled. -/
theorem BanR.put {w6 wr : World} {L0 : List (List UInt8)} {all : List Int} {fr n j x : Nat} (h : BanR w6 L0 all fr n j wr) (hj : j < all.length) (hfr : freeB L0.flatten (fr : Int) = true) (hxe : all.getD j 0 = (x : Int)) (hx : freeB L0.flatten (x : Int) = true) (hne : x ≠ fr) :
    x / Pure.wid L0 * (Pure.wid L0 + 1) + x % Pure.wid L0 < n ∧ (∃ u, wr.cell? ⟨w6.heap.size, x / Pure.wid L0 * (Pure.wid L0 + 1) + x % Pure.wid L0, none⟩ = some u) ∧ wr.frozen? ⟨w6.heap.size, x / Pure.wid L0 * (Pure.wid L0 + 1) + x % Pure.wid L0, none⟩ = false ∧
      BanR w6 L0 all fr n (j + 1) (wr.drew.setCell ⟨w6.heap.size, x / Pure.wid L0 * (Pure.wid L0 + 1) + x % Pure.wid L0, none⟩ (.int .u8 35)) := by
  obtain ⟨h1, h2, L, h3, h4, h5⟩ := h
  obtain ⟨h6, h7, h8⟩ := h3.put hfr hx hne
  generalize x / Pure.wid L0 * (Pure.wid L0 + 1) + x % Pure.wid L0 = p at *
  have hc := h4 p h8
  refine ⟨by omega, ⟨_, hc.1⟩, hc.2, (h1.drew).setCell (p := ⟨w6.heap.size, p, none⟩) (Nat.le_refl _) _, by simpa using h2, Bn.setL L (x / Pure.wid L0) (x % Pure.wid L0), ?_, ?_, ?_⟩
  · rw [take_one hj, hxe]; exact h6
  · rw [h7]
    exact BytesAt.set (w := wr.drew) (fun j hj => h4 j hj) h8 35
  · rw [h7, List.length_set]; exact h5
theorem div_int (x C : Nat) : (x : Int).tdiv (C : Int) = ((x / C : Nat) : Int) := by simp
theorem mod_int (x C : Nat) : (x : Int).tmod (C : Int) = ((x % C : Nat) : Int) := by rw [Int.tmod_eq_emod_of_nonneg (by omega), Int.natCast_emod]

/-- What both Finds tell. -/
theorem finds_two {L0 L : List (List UInt8)} {all : List Int} {fr : Nat} (h : Bn.Wal L0 L all fr) : L.flatten.length = L0.flatten.length ∧ ∀ i, L.flatten.getD i 0 = if wallB L0.flatten all fr i = true then 35 else L0.flatten.getD i 0 :=
  ⟨h.size, fun i => by rw [h.at_ i, wallB_eq]⟩
theorem find_ne_two {R C : Nat} {ms : List UInt8} {a b bud : Int} {ban : List Int} (h : (freeB ms a && freeB ms b) = true) : (findZ R C ms a b ban bud).2 ≠ 2 := by
  unfold findZ
  rw [if_pos h]
  split
  · simp
  · split <;> simp

set_option maxHeartbeats 8000000 in
theorem bb_good (s : ByteArray) (fr to_ : Nat) (B A : Option Addr) (some_ more : List Int) (cb ck : Nat) (w : World) (hw : Ways w) (hs : s.size ≤ 400) (hm : some_.length ≤ 60) (hk : more.length ≤ 60) (hB : IntsAt w B some_) (hA : IntsAt w A more) (hcb : B = none → some_ = [] ∧ cb = 0) (hca : A = none → more = [] ∧ ck = 0) {L0 : List (List UInt8)} (hv : Pure.verdict s.data.toList = .good L0) (hff : freeB L0.flatten (fr : Int) = true) (hft : freeB L0.flatten (to_ : Int) = true) (hfr : fr < L0.flatten.length) (hto : to_ < L0.flatten.length) :
    Calls Tryd.prog 3 #[.string s, .int .i64 (fr : Int), .int .i64 (to_ : Int), .slice B some_.length cb, .slice A more.length ck] w fun e w' => e = .returned (.bool true) ∧ Below w.heap.size w w' := by
  have HA := Lib.hid (ralive_any w hw)
  have hG := got_of hw (by unfold maxLen; omega) hv
  have HP := Lib.hid hG.parse
  have hGd := (Pure.good_of hv).1
  obtain ⟨m, hmm⟩ : ∃ m, m = some_.length := ⟨_, rfl⟩
  obtain ⟨k, hkk⟩ : ∃ k, k = more.length := ⟨_, rfl⟩
  obtain ⟨N, hNN⟩ : ∃ N, N = L0.flatten.length := ⟨_, rfl⟩
  obtain ⟨C, hC⟩ : ∃ C, C = Pure.wid L0 := ⟨_, rfl⟩
  have hC1 : 1 ≤ C := by rw [hC]; exact hGd.lo
  have hC2 : C ≤ 32 := by rw [hC]; exact hGd.hi
  have hN2 : N ≤ 1024 := by rw [hNN]; exact hG.small
  have hfb : (freeB L0.flatten (fr : Int) && freeB L0.flatten (to_ : Int)) = true := by rw [hff, hft]; rfl
  have hlen : (some_ ++ more).length = m + k := by rw [List.length_append]; omega
  have hmx : (some_ ++ more).length ≤ maxLen := by unfold maxLen; omega
  obtain ⟨⟨x, f⟩, hx⟩ : ∃ d, d = distZ L0.length (Pure.wid L0) L0.flatten (fr : Int) (to_ : Int) some_ := ⟨_, rfl⟩
  obtain ⟨⟨y, gg⟩, hy⟩ : ∃ d, d = distZ L0.length (Pure.wid L0) L0.flatten (fr : Int) (to_ : Int) (some_ ++ more) := ⟨_, rfl⟩
  have hf2 : (f == 2) = false := by
    have := dist_free (R := L0.length) (C := Pure.wid L0) (ban := some_) hfb
    rw [← hx] at this
    simpa using this
  have hg2 : (gg == 2) = false := by
    have := dist_free (R := L0.length) (C := Pure.wid L0) (ban := some_ ++ more) hfb
    rw [← hy] at this
    simpa using this
  have HXY : Hid (gg = 0 → f = 0 ∧ x ≤ y) := fun e => by
    subst e
    obtain ⟨x', h1, h2⟩ := dist_more hto hff hft hy.symm
    rw [← hx] at h1
    cases h1
    exact ⟨rfl, h2⟩
  have HD1 : Hid (∀ b g cap W, M1 w b g cap L0.length (Pure.wid L0) L0.flatten W → Calls Tryd.prog 8 #[.pointer (some ⟨b, 0, none⟩), .int .i64 (fr : Int), .int .i64 (to_ : Int), .slice B m cb] W fun e w' => e = .returned (.tuple #[.int .i64 x, .int .i64 f]) ∧ (M1 w b g cap L0.length (Pure.wid L0) L0.flatten w' ∧ W.grownBy w' (some b))) := fun b g cap W h => m1_dist h (h.ints hB) hmm.symm (by unfold maxLen; omega) hx.symm
  have HD2 : Hid (∀ b g cap W A' c', M1 w b g cap L0.length (Pure.wid L0) L0.flatten W → IntsAt W A' (some_ ++ more) → Calls Tryd.prog 8 #[.pointer (some ⟨b, 0, none⟩), .int .i64 (fr : Int), .int .i64 (to_ : Int), .slice A' (m + k) c'] W fun e w' => e = .returned (.tuple #[.int .i64 y, .int .i64 gg]) ∧ (M1 w b g cap L0.length (Pure.wid L0) L0.flatten w' ∧ W.grownBy w' (some b))) := fun b g cap W A' c' h hi => m1_dist h hi hlen hmx hy.symm
  have HFr : Hid (∀ b g cap W z q, freeB L0.flatten z = q → M1 w b g cap L0.length (Pure.wid L0) L0.flatten W → Calls Tryd.prog 9 #[.pointer (some ⟨b, 0, none⟩), .int .i64 z] W fun e w' => e = .returned (.bool q) ∧ W = w') := fun b g cap W z q hq h => m1_free h hq
  have HCo : Hid (∀ b g cap W, M1 w b g cap L0.length (Pure.wid L0) L0.flatten W → Calls Tryd.prog 10 #[.pointer (some ⟨b, 0, none⟩)] W fun e w' => e = .returned (.int .i64 (C : Int)) ∧ w' = W) := fun b g cap W h => by
    rw [hC]
    refine (cols_any b _ W h.em.c1).mono ?_
    rintro e w' ⟨rfl, rfl⟩
    exact ⟨rfl, rfl⟩
  have HP2 : Hid (∀ L W, Bn.Wal L0 L (some_ ++ more) fr → Below w.heap.size w W → (Pure.text L).length = s.size → Calls Tryd.prog 7 #[.string ⟨(Pure.text L).toArray⟩] W fun e w' => ∃ b' g' cap', e = .returned (.tuple #[.pointer (some ⟨b', 0, none⟩), .int .i64 0, .int .i64 0, .int .i64 0]) ∧ (M1 w b' g' cap' L0.length (Pure.wid L0) L.flatten w' ∧ Below W.heap.size W w' ∧ W.heap.size ≤ b')) := fun L W hW hb hl => by
    have hvv : Pure.verdict (ByteArray.mk (Pure.text L).toArray).data.toList = .good L := by
      show Pure.verdict (Pure.text L).toArray.toList = _
      rw [List.toList_toArray]
      exact Bn.verdict_text hW.good
    have hsz : (ByteArray.mk (Pure.text L).toArray).size ≤ maxLen := by
      show (Pure.text L).toArray.size ≤ _
      rw [List.size_toArray, hl]; unfold maxLen; omega
    refine (parse_good hvv W hsz).mono ?_
    rintro e w' ⟨b', g', cap', rfl, h1, h2, h3⟩
    refine ⟨b', g', cap', rfl, ?_, h2, h3⟩
    rw [← hW.len, ← hW.wide]
    exact m1_parsed hw hW.good hb h1 h2 h3
  have HCe : Hid (∀ b g cap W ms, ms.length = N → M1 w b g cap L0.length (Pure.wid L0) ms W → Calls Tryd.prog 12 #[.pointer (some ⟨b, 0, none⟩)] W fun e w' => e = .returned (.int .i64 (N : Int)) ∧ W = w') := fun b g cap W ms h1 h => m1_cells h h1
  -- what both Finds tell
  obtain ⟨⟨l2, z2⟩, hz2⟩ : ∃ d, d = findZ L0.length (Pure.wid L0) L0.flatten (fr : Int) (to_ : Int) (some_ ++ more) (N : Int) := ⟨_, rfl⟩
  obtain ⟨n2, hn2⟩ : ∃ n, l2.length = n := ⟨_, rfl⟩
  have HF2 : Hid (∀ b g cap W A' c', M1 w b g cap L0.length (Pure.wid L0) L0.flatten W → IntsAt W A' (some_ ++ more) → Calls Tryd.prog 11 #[.pointer (some ⟨b, 0, none⟩), .int .i64 (fr : Int), .int .i64 (to_ : Int), .slice A' (m + k) c', .int .i64 (N : Int)] W fun e w' => ∃ a c, e = .returned (.tuple #[.slice a n2 c, .int .i64 z2]) ∧ (M1 w b g cap L0.length (Pure.wid L0) L0.flatten w' ∧ (∀ k, k < W.heap.size → LstN k w' (.slice a n2 c) l2) ∧ W.grownBy w' (some b))) := fun b g cap W A' c' h hi => m1_findN h hi hlen hmx hz2.symm hn2
  have HL : Hid (∃ (l1 : List Nat) (n1 : Nat) (z1 : Int), l1.length = n1 ∧ ((z1 = 2 ∧ z2 = 40) ∨ ((z1 == 2) = false ∧ z1 = z2 ∧ l1 = l2 ∧ n1 = n2)) ∧ ∀ L b g cap W, Bn.Wal L0 L (some_ ++ more) fr → M1 w b g cap L0.length (Pure.wid L0) L.flatten W → Calls Tryd.prog 11 #[.pointer (some ⟨b, 0, none⟩), .int .i64 (fr : Int), .int .i64 (to_ : Int), .slice none 0 0, .int .i64 (N : Int)] W fun e w' => ∃ a c, e = .returned (.tuple #[.slice a n1 c, .int .i64 z1]) ∧ (M1 w b g cap L0.length (Pure.wid L0) L.flatten w' ∧ (∀ k, k < W.heap.size → LstN k w' (.slice a n1 c) l1) ∧ W.grownBy w' (some b))) := by
    cases hwt : wallB L0.flatten (some_ ++ more) fr to_ with
    | true =>
      have h2 := find_none (R := L0.length) (C := Pure.wid L0) hff hft hto hwt
      rw [hNN, h2] at hz2
      cases hz2
      refine ⟨[], 0, 2, rfl, .inl ⟨rfl, rfl⟩, fun L b g cap W hW h => ?_⟩
      obtain ⟨h3, h4⟩ := finds_two hW
      exact m1_findN h (ints_nil _ _) (m := 0) rfl (by unfold maxLen; simp) (find_walled (to_ := to_) h3 h4 hwt _) rfl
    | false =>
      have h5 := find_ne_two (R := L0.length) (C := Pure.wid L0) (ban := some_ ++ more) (bud := (N : Int)) hfb
      rw [← hz2] at h5
      refine ⟨l2, n2, z2, hn2, .inr ⟨by simpa using h5, rfl, rfl, rfl⟩, fun L b g cap W hW h => ?_⟩
      obtain ⟨h3, h4⟩ := finds_two hW
      refine m1_findN h (ints_nil _ _) (m := 0) rfl (by unfold maxLen; simp) ?_ hn2
      have h6 := find_wall (R := L0.length) (C := Pure.wid L0) (to_ := to_) h3 h4 hff hft hto hwt
      rw [hNN, h6, ← hNN]
      exact hz2.symm
  have HSm : Hid (∀ W a c a' c', Lst W (.slice a n2 c) l2 → Lst W (.slice a' n2 c') l2 → Calls Tryd.prog 13 #[.slice a n2 c, .slice a' n2 c'] W fun e w' => e = .returned (.bool true) ∧ ∃ q, w' = W.drewN q) := fun W a c a' c' h1 h2 => by
    refine (same_any h1 h2 ?_).mono ?_
    · have h3 : l2 = (findZ L0.length (Pure.wid L0) L0.flatten (fr : Int) (to_ : Int) (some_ ++ more) (N : Int)).1 := by rw [← hz2]
      rw [h3]
      unfold findZ
      rw [if_pos hfb]
      split
      · simp
      · split
        · simp
        · rename_i D hD
          have := dsZ_lt hto hD
          simp only [routeZ_len]
          omega
    · rintro e w' ⟨rfl, hq⟩
      exact ⟨by simp, hq⟩
  have HBB := Lib.hid hB
  have HAA := Lib.hid hA
  have HCB := Lib.hid hcb
  have HCA := Lib.hid hca
  have HMl := Lib.hid hmm
  have HKl := Lib.hid hkk
  have HTx : Hid (Pure.text L0 = s.data.toList) := (Pure.good_of hv).2
  have HGd := Lib.hid hGd
  have HFF := Lib.hid hff
  have HNN := Lib.hid hNN
  have HCC := Lib.hid hC
  have HLen := Lib.hid hlen
  have hcv := run_bytes s
  rw [← hmm] at hm ⊢
  rw [← hkk] at hk ⊢
  clear hw hG hGd hB hA hcb hca hmm hkk hNN hC hv hff hft hfr hto hfb hlen hmx hx hy hz2 hn2
  go_enter Tryd.func3, Tryd.ntmps3
  go_wp2_with (first
    | (go_at_call 6; (with_reducible refine HA.out.mono ?_); rintro e w1 ⟨rfl, hb⟩)
    | (go_at_call 7; (with_reducible refine (HP.out w1 hb).mono ?_); rintro e w2 ⟨b, g, cap, rfl, hm2⟩; have H2 := Lib.hid hm2; clear hm2)
    | (at_builtin; refine wpList_append_ints rfl (.tmp 61) (.tmp 62) rfl w2.heap.size (v := .slice (some ⟨w2.heap.size, 0, none⟩) 0 0) (n := 0) (L := []) rfl (row_empty w2 _ rfl) (m := m) (c := cb) rfl ((H2.out.alloc _).ints HBB.out) HMl.out HCB.out (by omega) (by simp) ?_; intro v3 w3 ho3 hg3; have HO3 := Lib.hid ho3; have HB3 := Lib.hid (((Below.refl w2.heap.size w2).alloc (Nat.le_refl _) (.cells #[] 3)).grown hg3 (by simp) (fun k hk => by simp [Value.ownBlock] at hk; omega)); clear ho3 hg3)
    | (at_builtin; refine wpList_append_ints rfl (.tmp 63) (.tmp 64) rfl w2.heap.size rfl HO3.out (m := k) (c := ck) rfl ((H2.out.below HB3.out).ints HAA.out) HKl.out HCA.out (by omega) HB3.out.size ?_; intro v4 w4 ho4 hg4; have HB4 := Lib.hid (HB3.out.grown hg4 HB3.out.size (fun k hk => (HO3.out.lt k hk).1)); obtain ⟨A4, c4, hv4, hi4, hn4⟩ := both_own ho4 (by rw [← HMl.out, ← HKl.out]; omega); rw [← HMl.out, ← HKl.out] at hv4; subst hv4; have HI4 := Lib.hid hi4; have HN4 := Lib.hid hn4; have H4 := Lib.hid (H2.out.below HB4.out); clear ho4 hg4 hi4 hn4)
    | (go_at_call 8; (with_reducible refine (HD1.out _ _ _ _ H4.out).mono ?_); rintro e w5 ⟨rfl, hm5⟩; have H5 := Lib.hid hm5.1; have HI5 := Lib.hid (ints_grown HI4.out hm5.2 (fun a e => by have h1 := HN4.out a e; have h2 := H2.out.lt; omega)); clear hm5)
    | fail)
  refine (HD2.out _ _ _ _ _ _ H5.out HI5.out).mono ?_
  rintro e w6 ⟨rfl, hm6⟩
  have H6 := Lib.hid hm6.1
  have HI6 := Lib.hid (ints_grown HI5.out hm6.2 (fun a e => by have h1 := HN4.out a e; have h2 := H2.out.lt; omega))
  clear hm6 HO3 HB3 HB4 HI4 H4 H5 HI5 HN4 HD1 HD2 HA HP
  have HSt : Hid (∃ j : Nat, j ≤ m + k ∧ Value.int .i64 0 = .int .i64 (j : Int) ∧ BanR w6 L0 (some_ ++ more) fr s.size j (bytesW w6 s)) := ⟨0, Nat.zero_le _, rfl, .start HGd.out HTx.out⟩
  have HB6 := H6.out.bl
  have HLoop : ∀ P : Prop, P → P := fun _ h => h
  clear HLoop HB6
  by_cases hg0 : gg = 0
  · subst hg0
    obtain ⟨rfl, hxy⟩ := HXY.out rfl
    have d1 : decide (y < x) = false := decide_eq_false (by omega)
    clear hxy HXY
    go_wp2_with fail
    go_loopw [22] (fun u wr => ∃ j : Nat, j ≤ m + k ∧ u = .int .i64 (j : Int) ∧ BanR w6 L0 (some_ ++ more) fr s.size j wr) (fun u _ => (m + k) - (intOf u).toNat)
    case atStart => exact HSt.out
    case round =>
      obtain ⟨j, hj, rfl, hr⟩ := hrel
      rename World => V
      have HR := Lib.hid hr
      clear hr HSt
      have HMv := Lib.hid (H6.out.below HR.out.1)
      by_cases hjk : j < m + k
      · obtain ⟨a9, rfl, ha9, fx⟩ := (HI6.out.below HR.out.1 (Nat.le_refl _)) j (by rw [HLen.out]; exact hjk)
        have hja : j < (some_ ++ more).length := by rw [HLen.out]; exact hjk
        have HGo : Hid (∀ W, BanR w6 L0 (some_ ++ more) fr s.size (j + 1) W → ∃ j' : Nat, j' ≤ m + k ∧ Value.int .i64 ((j : Int) + 1) = .int .i64 (j' : Int) ∧ BanR w6 L0 (some_ ++ more) fr s.size j' W) := fun W hW => ⟨j + 1, by omega, by go_num, hW⟩
        have HSk : Hid (freeB L0.flatten ((some_ ++ more).getD j 0) = false ∨ (some_ ++ more).getD j 0 = (fr : Int) → BanR w6 L0 (some_ ++ more) fr s.size (j + 1) V) := fun h => HR.out.skip hja h
        have HPt : Hid (∀ x : Nat, (some_ ++ more).getD j 0 = (x : Int) → freeB L0.flatten (x : Int) = true → x ≠ fr → x / Pure.wid L0 * (Pure.wid L0 + 1) + x % Pure.wid L0 < s.size ∧ (∃ u, V.cell? ⟨w6.heap.size, x / Pure.wid L0 * (Pure.wid L0 + 1) + x % Pure.wid L0, none⟩ = some u) ∧ V.frozen? ⟨w6.heap.size, x / Pure.wid L0 * (Pure.wid L0 + 1) + x % Pure.wid L0, none⟩ = false ∧ BanR w6 L0 (some_ ++ more) fr s.size (j + 1) (V.drew.setCell ⟨w6.heap.size, x / Pure.wid L0 * (Pure.wid L0 + 1) + x % Pure.wid L0, none⟩ (.int .u8 35))) := fun x h1 h2 h3 => HR.out.put hja HFF.out h1 h2 h3
        generalize (some_ ++ more).getD j 0 = q at *
        have k0 : (0 : Int) ≤ (j : Int) := by omega
        have k1 : (j : Int) < ((m + k : Nat) : Int) := by omega
        clear hja
        cases hq : freeB L0.flatten q with
        | false =>
          have HX := Lib.hid (HGo.out _ (HSk.out (.inl hq)))
          have HFq := Lib.hid (HFr.out _ _ _ _ _ _ hq HMv.out)
          clear hq HGo HSk HPt
          go_wp2_with (go_at_call 9; (with_reducible refine HFq.out.mono ?_); rintro e w' ⟨rfl, rfl⟩)
          go_roundw
          case rel => exact HX.out
          case measure => simp [intOf]; omega
        | true =>
          have HFq := Lib.hid (HFr.out _ _ _ _ _ _ hq HMv.out)
          by_cases hqf : q = (fr : Int)
          · have HX := Lib.hid (HGo.out _ (HSk.out (.inr hqf)))
            have e1 : (q != (fr : Int)) = false := by simp [hqf]
            clear hq HGo HSk HPt
            subst hqf
            go_wp2_with (go_at_call 9; (with_reducible refine HFq.out.mono ?_); rintro e w' ⟨rfl, rfl⟩)
            go_roundw
            case rel => exact HX.out
            case measure => simp [intOf]; omega
          · have hq2 := free_range hq
            obtain ⟨x9, rfl⟩ := Int.eq_ofNat_of_zero_le hq2.1
            obtain ⟨b1, ⟨u9, b2⟩, b3, b4⟩ := HPt.out x9 rfl hq (by omega)
            have hx9 : x9 < N := by have := hq2.2; have := HNN.out; omega
            rw [← HCC.out] at b1 b2 b3 b4
            have HX := Lib.hid (HGo.out _ b4)
            have e1 : ((x9 : Int) != (fr : Int)) = true := by simpa using hqf
            have hcol := HCo.out _ _ _ _ (HMv.out.below ((Below.refl _ V).drew))
            have hdq := div_int x9 C
            have hmq := mod_int x9 C
            have hc0 : ¬ C = 0 := by omega
            have hlq : x9 / C ≤ x9 := Nat.div_le_self _ _
            have hlr : x9 % C ≤ x9 := Nat.mod_le _ _
            clear hq HGo HSk HPt hq2 b4 hqf
            generalize x9 / C = qd at *
            generalize x9 % C = rm at *
            have hmul : qd * (C + 1) ≤ s.size := by omega
            have hw1 : IntKind.i64.wrap (qd : Int) = (qd : Int) := IntWalk.i64_in _ (by omega)
            have hw2 : IntKind.i64.wrap ((C : Int) + 1) = (C : Int) + 1 := IntWalk.i64_in _ (by omega)
            have hmi : (qd : Int) * ((C : Int) + 1) = ((qd * (C + 1) : Nat) : Int) := by push_cast; rfl
            generalize hpe : qd * (C + 1) = pr at *
            have hw3 : IntKind.i64.wrap (pr : Int) = (pr : Int) := IntWalk.i64_in _ (by omega)
            have hw4 : IntKind.i64.wrap (rm : Int) = (rm : Int) := IntWalk.i64_in _ (by omega)
            have hsum : (pr : Int) + (rm : Int) = ((pr + rm : Nat) : Int) := by push_cast; rfl
            obtain ⟨ix, hix⟩ : ∃ ix, ix = pr + rm := ⟨_, rfl⟩
            rw [← hix] at hsum b1 b2 b3 HX
            have hw5 : IntKind.i64.wrap (ix : Int) = (ix : Int) := IntWalk.i64_in _ (by omega)
            have hi0 : (0 : Int) ≤ (ix : Int) := by omega
            have hi1 : (ix : Int) < (s.size : Int) := by omega
            clear hpe hix hmul hlq hlr
            go_wp2_with (go_at_call 9; (with_reducible refine HFq.out.mono ?_); rintro e w' ⟨rfl, rfl⟩)
            refine wp_region_still_tail 21 (by kernel_rfl) (by kernel_rfl) ?_
            simp only [List.take_succ_cons, List.take_zero, List.drop_succ_cons, List.drop_zero]
            repeat (first | still_step | still_call hcol)
            try refine wpStill_nil ?_
            change wpList _ _ _ _ _ V.drew
            go_wp2
            go_roundw
            case rel => exact HX.out
            case measure => simp [intOf]; omega
      · obtain rfl : j = m + k := by omega
        obtain ⟨hb7, hp7, L, hW, hby, hbl⟩ := HR.out
        have HB7 := Lib.hid hb7
        have HW : Hid (Bn.Wal L0 L (some_ ++ more) fr) := by
          show Bn.Wal _ _ _ _
          rw [List.take_of_length_le (by rw [HLen.out]; exact Nat.le_refl _)] at hW
          exact hW
        have HLn := Lib.hid hbl
        have hcb := run_back (cap := grownCap w6 s.size 0 5) hby hbl.symm
        have HP3 := Lib.hid (HP2.out L V HW.out HMv.out.bl HLn.out)
        clear hb7 hp7 hW hby hbl HR HP2
        go_wp2_with (first
          | (go_at_call 7; (with_reducible refine HP3.out.mono ?_); rintro e w8 ⟨b8, g8, cap8, rfl, hm8⟩; have H8 := Lib.hid hm8; have HB8 := Lib.hid (HB7.out.trans (hm8.2.1.mono HB7.out.size)); clear hm8)
          | fail)
        obtain ⟨l1, n1, z1, hn1, hzz, hf1⟩ := HL.out
        have HF1 := Lib.hid (hf1 L b8 g8 cap8)
        have HC8 := Lib.hid (HCe.out b8 g8 cap8 w8 L.flatten (by rw [HW.out.size, HNN.out]) H8.out.1)
        have HC9 := Lib.hid (fun W h => HCe.out b g cap W L0.flatten HNN.out.symm h)
        clear hf1
        rcases hzz with ⟨rfl, rfl⟩ | ⟨hz, rfl, rfl, rfl⟩
        · go_wp2_with (first
            | (go_at_call 12; (with_reducible refine HC8.out.mono ?_); rintro e w' ⟨rfl, rfl⟩)
            | (go_at_call 11; (with_reducible refine (HF1.out w8 HW.out H8.out.1).mono ?_); rintro e w9 ⟨a9', c9, rfl, hm9⟩; have HB9 := Lib.hid (HB8.out.grown hm9.2.2 HB8.out.size (fun k e => by injection e with e; have h1 := H8.out.2.2; have h2 := HB7.out.size; omega)); have H9 := Lib.hid (H6.out.below HB9.out); have HI9 := Lib.hid (HI6.out.below HB9.out (Nat.le_refl _)); clear hm9)
            | (go_at_call 12; (with_reducible refine (HC9.out _ H9.out).mono ?_); rintro e w' ⟨rfl, rfl⟩)
            | (go_at_call 11; (with_reducible refine (HF2.out _ _ _ _ _ _ H9.out HI9.out).mono ?_); rintro e w10 ⟨a10, c10, rfl, hm10⟩; have H10 := Lib.hid hm10.1; clear hm10))
          go_ret
          exact ⟨rfl, H10.out.bl⟩
        · go_wp2_with (first
            | (go_at_call 12; (with_reducible refine HC8.out.mono ?_); rintro e w' ⟨rfl, rfl⟩)
            | (go_at_call 11; (with_reducible refine (HF1.out w8 HW.out H8.out.1).mono ?_); rintro e w9 ⟨a9', c9, rfl, hm9⟩; have HB9 := Lib.hid (HB8.out.grown hm9.2.2 HB8.out.size (fun k e => by injection e with e; have h1 := H8.out.2.2; have h2 := HB7.out.size; omega)); have H9 := Lib.hid (H6.out.below HB9.out); have HI9 := Lib.hid (HI6.out.below HB9.out (Nat.le_refl _)); have HL9 := Lib.hid (hm9.2.1 b (by have h1 := H6.out.lt; have h2 := HB8.out.size; omega)); clear hm9)
            | (go_at_call 12; (with_reducible refine (HC9.out _ H9.out).mono ?_); rintro e w' ⟨rfl, rfl⟩)
            | (go_at_call 11; (with_reducible refine (HF2.out _ _ _ _ _ _ H9.out HI9.out).mono ?_); rintro e w10 ⟨a10, c10, rfl, hm10⟩; have H10 := Lib.hid hm10.1; have HLa := Lib.hid (HL9.out.grown hm10.2.2).lst; have HLb := Lib.hid (hm10.2.1 b H9.out.lt).lst; clear hm10)
            | (go_at_call 13; (with_reducible refine (HSm.out _ _ _ _ _ HLa.out HLb.out).mono ?_); rintro e w11 ⟨rfl, hq⟩; have H11 := Lib.hid hq; clear hq))
          go_ret
          obtain ⟨q11, rfl⟩ := H11.out
          exact ⟨rfl, bel_drewN H10.out.bl q11⟩
  · have d1 : (gg == 0) = false := by simpa using hg0
    clear hg0 HXY
    go_wp2_with fail
    go_loopw [22] (fun u wr => ∃ j : Nat, j ≤ m + k ∧ u = .int .i64 (j : Int) ∧ BanR w6 L0 (some_ ++ more) fr s.size j wr) (fun u _ => (m + k) - (intOf u).toNat)
    case atStart => exact HSt.out
    case round =>
      obtain ⟨j, hj, rfl, hr⟩ := hrel
      rename World => V
      have HR := Lib.hid hr
      clear hr HSt
      have HMv := Lib.hid (H6.out.below HR.out.1)
      by_cases hjk : j < m + k
      · obtain ⟨a9, rfl, ha9, fx⟩ := (HI6.out.below HR.out.1 (Nat.le_refl _)) j (by rw [HLen.out]; exact hjk)
        have hja : j < (some_ ++ more).length := by rw [HLen.out]; exact hjk
        have HGo : Hid (∀ W, BanR w6 L0 (some_ ++ more) fr s.size (j + 1) W → ∃ j' : Nat, j' ≤ m + k ∧ Value.int .i64 ((j : Int) + 1) = .int .i64 (j' : Int) ∧ BanR w6 L0 (some_ ++ more) fr s.size j' W) := fun W hW => ⟨j + 1, by omega, by go_num, hW⟩
        have HSk : Hid (freeB L0.flatten ((some_ ++ more).getD j 0) = false ∨ (some_ ++ more).getD j 0 = (fr : Int) → BanR w6 L0 (some_ ++ more) fr s.size (j + 1) V) := fun h => HR.out.skip hja h
        have HPt : Hid (∀ x : Nat, (some_ ++ more).getD j 0 = (x : Int) → freeB L0.flatten (x : Int) = true → x ≠ fr → x / Pure.wid L0 * (Pure.wid L0 + 1) + x % Pure.wid L0 < s.size ∧ (∃ u, V.cell? ⟨w6.heap.size, x / Pure.wid L0 * (Pure.wid L0 + 1) + x % Pure.wid L0, none⟩ = some u) ∧ V.frozen? ⟨w6.heap.size, x / Pure.wid L0 * (Pure.wid L0 + 1) + x % Pure.wid L0, none⟩ = false ∧ BanR w6 L0 (some_ ++ more) fr s.size (j + 1) (V.drew.setCell ⟨w6.heap.size, x / Pure.wid L0 * (Pure.wid L0 + 1) + x % Pure.wid L0, none⟩ (.int .u8 35))) := fun x h1 h2 h3 => HR.out.put hja HFF.out h1 h2 h3
        generalize (some_ ++ more).getD j 0 = q at *
        have k0 : (0 : Int) ≤ (j : Int) := by omega
        have k1 : (j : Int) < ((m + k : Nat) : Int) := by omega
        clear hja
        cases hq : freeB L0.flatten q with
        | false =>
          have HX := Lib.hid (HGo.out _ (HSk.out (.inl hq)))
          have HFq := Lib.hid (HFr.out _ _ _ _ _ _ hq HMv.out)
          clear hq HGo HSk HPt
          go_wp2_with (go_at_call 9; (with_reducible refine HFq.out.mono ?_); rintro e w' ⟨rfl, rfl⟩)
          go_roundw
          case rel => exact HX.out
          case measure => simp [intOf]; omega
        | true =>
          have HFq := Lib.hid (HFr.out _ _ _ _ _ _ hq HMv.out)
          by_cases hqf : q = (fr : Int)
          · have HX := Lib.hid (HGo.out _ (HSk.out (.inr hqf)))
            have e1 : (q != (fr : Int)) = false := by simp [hqf]
            clear hq HGo HSk HPt
            subst hqf
            go_wp2_with (go_at_call 9; (with_reducible refine HFq.out.mono ?_); rintro e w' ⟨rfl, rfl⟩)
            go_roundw
            case rel => exact HX.out
            case measure => simp [intOf]; omega
          · have hq2 := free_range hq
            obtain ⟨x9, rfl⟩ := Int.eq_ofNat_of_zero_le hq2.1
            obtain ⟨b1, ⟨u9, b2⟩, b3, b4⟩ := HPt.out x9 rfl hq (by omega)
            have hx9 : x9 < N := by have := hq2.2; have := HNN.out; omega
            rw [← HCC.out] at b1 b2 b3 b4
            have HX := Lib.hid (HGo.out _ b4)
            have e1 : ((x9 : Int) != (fr : Int)) = true := by simpa using hqf
            have hcol := HCo.out _ _ _ _ (HMv.out.below ((Below.refl _ V).drew))
            have hdq := div_int x9 C
            have hmq := mod_int x9 C
            have hc0 : ¬ C = 0 := by omega
            have hlq : x9 / C ≤ x9 := Nat.div_le_self _ _
            have hlr : x9 % C ≤ x9 := Nat.mod_le _ _
            clear hq HGo HSk HPt hq2 b4 hqf
            generalize x9 / C = qd at *
            generalize x9 % C = rm at *
            have hmul : qd * (C + 1) ≤ s.size := by omega
            have hw1 : IntKind.i64.wrap (qd : Int) = (qd : Int) := IntWalk.i64_in _ (by omega)
            have hw2 : IntKind.i64.wrap ((C : Int) + 1) = (C : Int) + 1 := IntWalk.i64_in _ (by omega)
            have hmi : (qd : Int) * ((C : Int) + 1) = ((qd * (C + 1) : Nat) : Int) := by push_cast; rfl
            generalize hpe : qd * (C + 1) = pr at *
            have hw3 : IntKind.i64.wrap (pr : Int) = (pr : Int) := IntWalk.i64_in _ (by omega)
            have hw4 : IntKind.i64.wrap (rm : Int) = (rm : Int) := IntWalk.i64_in _ (by omega)
            have hsum : (pr : Int) + (rm : Int) = ((pr + rm : Nat) : Int) := by push_cast; rfl
            obtain ⟨ix, hix⟩ : ∃ ix, ix = pr + rm := ⟨_, rfl⟩
            rw [← hix] at hsum b1 b2 b3 HX
            have hw5 : IntKind.i64.wrap (ix : Int) = (ix : Int) := IntWalk.i64_in _ (by omega)
            have hi0 : (0 : Int) ≤ (ix : Int) := by omega
            have hi1 : (ix : Int) < (s.size : Int) := by omega
            clear hpe hix hmul hlq hlr
            go_wp2_with (go_at_call 9; (with_reducible refine HFq.out.mono ?_); rintro e w' ⟨rfl, rfl⟩)
            refine wp_region_still_tail 21 (by kernel_rfl) (by kernel_rfl) ?_
            simp only [List.take_succ_cons, List.take_zero, List.drop_succ_cons, List.drop_zero]
            repeat (first | still_step | still_call hcol)
            try refine wpStill_nil ?_
            change wpList _ _ _ _ _ V.drew
            go_wp2
            go_roundw
            case rel => exact HX.out
            case measure => simp [intOf]; omega
      · obtain rfl : j = m + k := by omega
        obtain ⟨hb7, hp7, L, hW, hby, hbl⟩ := HR.out
        have HB7 := Lib.hid hb7
        have HW : Hid (Bn.Wal L0 L (some_ ++ more) fr) := by
          show Bn.Wal _ _ _ _
          rw [List.take_of_length_le (by rw [HLen.out]; exact Nat.le_refl _)] at hW
          exact hW
        have HLn := Lib.hid hbl
        have hcb := run_back (cap := grownCap w6 s.size 0 5) hby hbl.symm
        have HP3 := Lib.hid (HP2.out L V HW.out HMv.out.bl HLn.out)
        clear hb7 hp7 hW hby hbl HR HP2
        go_wp2_with (first
          | (go_at_call 7; (with_reducible refine HP3.out.mono ?_); rintro e w8 ⟨b8, g8, cap8, rfl, hm8⟩; have H8 := Lib.hid hm8; have HB8 := Lib.hid (HB7.out.trans (hm8.2.1.mono HB7.out.size)); clear hm8)
          | fail)
        obtain ⟨l1, n1, z1, hn1, hzz, hf1⟩ := HL.out
        have HF1 := Lib.hid (hf1 L b8 g8 cap8)
        have HC8 := Lib.hid (HCe.out b8 g8 cap8 w8 L.flatten (by rw [HW.out.size, HNN.out]) H8.out.1)
        have HC9 := Lib.hid (fun W h => HCe.out b g cap W L0.flatten HNN.out.symm h)
        clear hf1
        rcases hzz with ⟨rfl, rfl⟩ | ⟨hz, rfl, rfl, rfl⟩
        · go_wp2_with (first
            | (go_at_call 12; (with_reducible refine HC8.out.mono ?_); rintro e w' ⟨rfl, rfl⟩)
            | (go_at_call 11; (with_reducible refine (HF1.out w8 HW.out H8.out.1).mono ?_); rintro e w9 ⟨a9', c9, rfl, hm9⟩; have HB9 := Lib.hid (HB8.out.grown hm9.2.2 HB8.out.size (fun k e => by injection e with e; have h1 := H8.out.2.2; have h2 := HB7.out.size; omega)); have H9 := Lib.hid (H6.out.below HB9.out); have HI9 := Lib.hid (HI6.out.below HB9.out (Nat.le_refl _)); clear hm9)
            | (go_at_call 12; (with_reducible refine (HC9.out _ H9.out).mono ?_); rintro e w' ⟨rfl, rfl⟩)
            | (go_at_call 11; (with_reducible refine (HF2.out _ _ _ _ _ _ H9.out HI9.out).mono ?_); rintro e w10 ⟨a10, c10, rfl, hm10⟩; have H10 := Lib.hid hm10.1; clear hm10))
          go_ret
          exact ⟨rfl, H10.out.bl⟩
        · go_wp2_with (first
            | (go_at_call 12; (with_reducible refine HC8.out.mono ?_); rintro e w' ⟨rfl, rfl⟩)
            | (go_at_call 11; (with_reducible refine (HF1.out w8 HW.out H8.out.1).mono ?_); rintro e w9 ⟨a9', c9, rfl, hm9⟩; have HB9 := Lib.hid (HB8.out.grown hm9.2.2 HB8.out.size (fun k e => by injection e with e; have h1 := H8.out.2.2; have h2 := HB7.out.size; omega)); have H9 := Lib.hid (H6.out.below HB9.out); have HI9 := Lib.hid (HI6.out.below HB9.out (Nat.le_refl _)); have HL9 := Lib.hid (hm9.2.1 b (by have h1 := H6.out.lt; have h2 := HB8.out.size; omega)); clear hm9)
            | (go_at_call 12; (with_reducible refine (HC9.out _ H9.out).mono ?_); rintro e w' ⟨rfl, rfl⟩)
            | (go_at_call 11; (with_reducible refine (HF2.out _ _ _ _ _ _ H9.out HI9.out).mono ?_); rintro e w10 ⟨a10, c10, rfl, hm10⟩; have H10 := Lib.hid hm10.1; have HLa := Lib.hid (HL9.out.grown hm10.2.2).lst; have HLb := Lib.hid (hm10.2.1 b H9.out.lt).lst; clear hm10)
            | (go_at_call 13; (with_reducible refine (HSm.out _ _ _ _ _ HLa.out HLb.out).mono ?_); rintro e w11 ⟨rfl, hq⟩; have H11 := Lib.hid hq; clear hq))
          go_ret
          obtain ⟨q11, rfl⟩ := H11.out
          exact ⟨rfl, bel_drewN H10.out.bl q11⟩

theorem bb_all (s : ByteArray) (fr to_ : Int) (B A : Option Addr) (some_ more : List Int) (cb ck : Nat) (w : World) (hw : Ways w) (hs : s.size ≤ maxLen) (hB : IntsAt w B some_) (hA : IntsAt w A more) (hcb : B = none → some_ = [] ∧ cb = 0) (hca : A = none → more = [] ∧ ck = 0) :
    Calls Tryd.prog 3 #[.string s, .int .i64 fr, .int .i64 to_, .slice B some_.length cb, .slice A more.length ck] w fun e w' => e = .returned (.bool true) ∧ Below w.heap.size w w' := by
  by_cases h : 400 < s.size ∨ 60 < some_.length ∨ 60 < more.length
  · exact bb_out s fr to_ B A _ cb _ ck w hw hs h
  · have h1 : s.size ≤ 400 := Nat.le_of_not_lt (fun h2 => h (.inl h2))
    have h2 : some_.length ≤ 60 := Nat.le_of_not_lt (fun h2 => h (.inr (.inl h2)))
    have h3 : more.length ≤ 60 := Nat.le_of_not_lt (fun h2 => h (.inr (.inr h2)))
    cases hv : Pure.verdict s.data.toList with
    | bad l c => exact bb_bad s fr to_ B A _ cb _ ck w hw h1 h2 h3 hv
    | good L =>
      cases hf : freeB L.flatten fr && freeB L.flatten to_ with
      | false => exact bb_err s fr to_ B A some_ more cb ck w hw h1 h2 h3 hB hA hcb hca (got_of hw hs hv) hf
      | true =>
        obtain ⟨h4, h5⟩ := Bool.and_eq_true_iff.1 hf
        obtain ⟨h6, h7⟩ := free_range h4
        obtain ⟨h8, h9⟩ := free_range h5
        obtain ⟨f, rfl⟩ := Int.eq_ofNat_of_zero_le h6
        obtain ⟨t, rfl⟩ := Int.eq_ofNat_of_zero_le h8
        exact bb_good s f t B A some_ more cb ck w hw h1 h2 h3 hB hA hcb hca hv h4 h5 (by omega) (by omega)
end Go.Proofs.YtkfijjjnidiejaaDoor
