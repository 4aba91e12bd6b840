/-
  A cell is claimed; a claim is dropped.
-/
import Derived.Test.YtijhkjegpcmjoaaCl2
namespace Go.Proofs.Ytijhkjegpcmjoaa
set_option maxRecDepth 100000
set_option linter.unusedSimpArgs false
open Go Go.RowKit Cl
attribute [local go_sem] Oper.semAt_some

theorem run_copy_set {P : Program} (w : World) (dT sT ty elem : TypeId) (sz : Nat) (dp sp : Option Addr) (dLen dCap sLen sCap n : Nat) (hu : P.underlying dT = some (.slice elem)) (hs : (P.info? elem).map (·.size) = some sz) (hn : n = Nat.min sLen dLen)
    (g off : Nat) (cs : List Value) (hcs : cs.length = n * sz)
    (hpos : 0 < n → dp = some ⟨g, off, none⟩ ∧ ∃ ad, sp = some ad ∧ ∀ j v, cs[j]? = some v → w.cell? (ad.add j) = some v)
    (hc : ∀ j, j < cs.length → (w.cell? ⟨g, off + j, none⟩).isSome = true ∧ w.frozen? ⟨g, off + j, none⟩ = false) (h1 : ∀ v ∈ cs, v.oneCell' = true) :
    (Builtin.copy_ #[dT, sT] ty #[.slice dp dLen dCap, .slice sp sLen sCap]).run P w = .ok (goInt n) (w.setCells g off cs) := by
  cases hq : P.info? elem with
  | none => simp [hq] at hs
  | some i =>
    have hi : i.size = sz := by simpa [hq] using hs
    by_cases h0 : n = 0
    · have hl : ∀ (x : Addr), (loadCells x 0).run P w = .ok #[] w := fun x => by simpa using run_loadCells_list (P := P) w x [] (by simp)
      subst h0
      obtain rfl : cs = [] := List.eq_nil_of_length_eq_zero (by simpa using hcs)
      cases dp <;> cases sp <;> simp [Builtin.copy_, run_underlying hu, Builtin.lenOf, Builtin.firstCells, sizeOf, typeInfo, hq, ← hn, storeCells, hl, World.setCells]
    · obtain ⟨rfl, ad, rfl, hsrc⟩ := hpos (by omega)
      have hl := run_loadCells_list (P := P) w ad cs hsrc
      rw [hcs] at hl
      have hst := run_storeCells_cells (P := P) g off cs 0 w (fun j hj => (hc j hj).1) (fun j hj => (hc j hj).2) h1
      simp [Builtin.copy_, run_underlying hu, Builtin.lenOf, Builtin.firstCells, sizeOf, typeInfo, hq, hi, ← hn, hl, hst]

theorem step_copy_set {P : Program} {ops : Array Oper} {o : Oper} {a : Act} {w : World} {K : Act → World → Prop} {Q : Exit → Act → World → Prop} {E : Prop} (hgd : o.guard = none) (d s : Operand) (dT sT : TypeId)
    (ho : o.op = .call { callee := .builtin .copy, args := #[d, s], argTypes := #[dT, sT] }) (elem : TypeId) (hu : P.underlying dT = some (.slice elem)) (sz : Nat) (hsz : (P.info? elem).map (·.size) = some sz)
    (dp sp : Option Addr) (dLen dCap sLen sCap n : Nat) (hd : a.eval d = .slice dp dLen dCap) (hs : a.eval s = .slice sp sLen sCap) (hn : n = Nat.min sLen dLen)
    (g off : Nat) (cs : List Value) (hcs : cs.length = n * sz)
    (hpos : 0 < n → dp = some ⟨g, off, none⟩ ∧ ∃ ad, sp = some ad ∧ ∀ j v, cs[j]? = some v → w.cell? (ad.add j) = some v)
    (hc : ∀ j, j < cs.length → (w.cell? ⟨g, off + j, none⟩).isSome = true ∧ w.frozen? ⟨g, off + j, none⟩ = false) (h1 : ∀ v ∈ cs, v.oneCell' = true)
    (h : K (a.put o.dst (goInt n)) (w.setCells g off cs)) :
    if Region.wanted o (yielded ops a.tmps) = true then Oper.wp P o a w K Q else E := by
  have hw : Region.wanted o (yielded ops a.tmps) = true := by simp [Region.wanted, hgd]
  rw [if_pos hw]
  have hrun := run_copy_set (P := P) w dT sT o.type elem sz dp sp dLen dCap sLen sCap n hu hsz hn g off cs hcs hpos hc h1
  unfold Oper.wp
  simp [execOp, ho, resolve, invoke, builtin, hd, hs, hrun, Result.andThen]
  exact h

/-- Values laid into a block from a place on. -/
def layC (cur : Array Value) : Nat → List Value → Array Value
  | _, [] => cur
  | o, v :: r => layC (cur.setIfInBounds o v) (o + 1) r
theorem layC_size (vs : List Value) : ∀ (cur : Array Value) (o : Nat), (layC cur o vs).size = cur.size := by
  induction vs with
  | nil => intro cur o; rfl
  | cons v r ih => intro cur o; rw [layC, ih]; simp
theorem layC_list (vs : List Value) : ∀ (cur : Array Value) (o : Nat), o + vs.length ≤ cur.size → (layC cur o vs).toList = cur.toList.take o ++ vs ++ cur.toList.drop (o + vs.length) := by
  induction vs with
  | nil => intro cur o _; simp [layC]
  | cons v r ih =>
    intro cur o h
    simp only [List.length_cons] at h
    rw [layC, ih _ _ (by simp; omega), Array.toList_setIfInBounds]
    have h1 : (cur.toList.set o v).take (o + 1) = cur.toList.take o ++ [v] := by
      rw [List.take_set, List.take_add_one, List.getElem?_eq_getElem (by simp; omega)]
      simp only [Option.toList_some]
      rw [List.set_append_right _ _ (by simp; omega)]
      have : o - (List.take o cur.toList).length = 0 := by simp; omega
      rw [this]
      simp
    rw [h1, List.drop_set_of_lt (by omega)]
    simp only [List.length_cons, List.append_assoc, List.singleton_append]
    rw [show o + 1 + r.length = o + (r.length + 1) by omega]
theorem setCells_blk (vs : List Value) : ∀ (w : World) (g o : Nat) (cur : Array Value) (e : TypeId) (m : Nat × Nat), w.heap[g]? = some (.cells cur e m) → (w.setCells g o vs).heap[g]? = some (.cells (layC cur o vs) e m) := by
  induction vs with
  | nil => intro w g o cur e m h; exact h
  | cons v r ih => intro w g o cur e m h; exact ih _ g (o + 1) _ e m (blk_set h o v)
theorem setCells_kept (vs : List Value) : ∀ (w : World) (g o : Nat), Kept (fun k => k = g) w (w.setCells g o vs) := by
  induction vs with
  | nil => intro w g o; exact Kept.refl _ _
  | cons v r ih => intro w g o; exact ((Kept.refl (fun k => k = g) w).setCell (p := ⟨g, o, none⟩) (.inl rfl) v).trans (ih _ g (o + 1)) (fun _ _ h => h)

/-- Places laid over others. -/
def over (A : List Cm) (i : Nat) (B : List Cm) : List Cm := A.take i ++ (B ++ A.drop (i + B.length))
theorem over_length {A B : List Cm} {i : Nat} (h : i + B.length ≤ A.length) : (over A i B).length = A.length := by simp [over]; omega
theorem CB.laid {w : World} {b : Nat} {A : List Cm} {n : Nat} (h : CB w b A n) {i : Nat} {B : List Cm} (hi : i + B.length ≤ 16) {m : Nat} (hm : m = i * 2) : CB (w.setCells b m (csM B)) b (over A i B) n := by
  subst hm
  have hA := h.1
  refine ⟨by rw [over_length (by omega), hA], ?_⟩
  rw [setCells_blk (csM B) w b (i * 2) _ _ _ h.2]
  have hl : (csM A).length = 32 := by rw [csM_length, hA]
  have hb : (csM B).length = B.length * 2 := csM_length B
  have hs : i * 2 + (csM B).length ≤ (csM A ++ [Value.int .i64 (n : Int)]).toArray.size := by simp [hl, hb]; omega
  congr 2
  apply Array.toList_inj.1
  rw [layC_list _ _ _ hs]
  simp only [List.append_assoc, List.toList_toArray]
  rw [List.take_append_of_le_length (by omega), List.drop_append_of_le_length (by omega), hb]
  simp only [over, csM_append, csM_take, csM_drop, List.append_assoc]
  rw [Nat.add_mul]
theorem CB.counted {w : World} {b : Nat} {A : List Cm} {n : Nat} (h : CB w b A n) (m : Nat) : CB (w.setCell ⟨b, 32, none⟩ (.int .i64 (m : Int))) b A m := by
  refine ⟨h.1, ?_⟩
  rw [blk_set h.2]
  have hl : (csM A).length = 32 := by rw [csM_length, h.1]
  congr 2
  apply Array.toList_inj.1
  rw [Array.toList_setIfInBounds]
  simp only [List.toList_toArray]
  rw [List.set_append_right _ _ (by omega), hl]
  rfl
theorem CB.put {w : World} {b : Nat} {A : List Cm} {n : Nat} (h : CB w b A n) {i : Nat} (hi : i < 16) (x : Cm) :
    CB ((w.setCell ⟨b, i * 2, none⟩ (.int .i64 x.c)).setCell ⟨b, i * 2 + 1, none⟩ (.int .u32 x.g)) b (over A i [x]) n :=
  h.laid (B := [x]) (by simp; omega) rfl
theorem over_set {A : List Cm} {i : Nat} (h : i < A.length) (x : Cm) : over A i [x] = A.set i x := by
  rw [over, List.set_eq_take_append_cons_drop, if_pos h]; rfl
/-- What a queue's places hold, cell by cell. -/
theorem CB.src {w : World} {b : Nat} {A : List Cm} {n : Nat} (h : CB w b A n) {i k : Nat} (hk : i + k ≤ 16) : ∀ j v, (csM ((A.drop i).take k))[j]? = some v → w.cell? ((⟨b, i * 2, none⟩ : Addr).add j) = some v := by
  intro j v hv
  have e : (⟨b, i * 2, none⟩ : Addr).add j = ⟨b, i * 2 + j, none⟩ := by unfold Addr.add; split <;> simp_all
  have hj := (List.getElem?_eq_some_iff.1 hv).1
  have hA := h.1
  have hl : (csM A).length = 32 := by rw [csM_length, hA]
  rw [csM_length, List.length_take, List.length_drop, hA, Nat.min_eq_left (by omega)] at hj
  rw [csM_take, csM_drop, List.getElem?_take, if_pos (by omega), List.getElem?_drop] at hv
  rw [e, blk_cell h.2]
  simp only [List.getElem?_toArray]
  rw [List.getElem?_append_left (by omega), hv]
theorem CB.some {w : World} {b : Nat} {A : List Cm} {n : Nat} (h : CB w b A n) {j : Nat} (hj : j < 33) : (w.cell? ⟨b, j, none⟩).isSome = true ∧ w.frozen? ⟨b, j, none⟩ = false := by
  refine ⟨?_, h.free j⟩
  have hl : (csM A).length = 32 := by rw [csM_length, h.1]
  rw [blk_cell h.2, Array.getElem?_eq_getElem (by simp [hl]; omega)]; rfl
/-- What is left where one was taken out. -/
def takA (A : List Cm) (n i : Nat) : List Cm := over (over A i ((A.drop (i + 1)).take (n - (i + 1)))) (n - 1) [c0]

theorem over_get {A B : List Cm} {i : Nat} (hi : i + B.length ≤ A.length) (j : Nat) : (over A i B)[j]? = if j < i then A[j]? else if j < i + B.length then B[j - i]? else A[j]? := by
  unfold over
  have h1 : (A.take i).length = i := by rw [List.length_take]; omega
  by_cases h : j < i
  · rw [if_pos h, List.getElem?_append_left (by omega), List.getElem?_take, if_pos h]
  · rw [if_neg h, List.getElem?_append_right (by omega), h1]
    by_cases h2 : j < i + B.length
    · rw [if_pos h2, List.getElem?_append_left (by omega)]
    · rw [if_neg h2, List.getElem?_append_right (by omega), List.getElem?_drop]
      congr 1; omega
theorem pad_get? {l : List Cm} (hl : l.length ≤ 16) (j : Nat) : (pad l)[j]? = if j < l.length then l[j]? else if j < 16 then some c0 else none := by
  unfold pad
  by_cases h : j < l.length
  · rw [if_pos h, List.getElem?_append_left h]
  · rw [if_neg h, List.getElem?_append_right (by omega), List.getElem?_replicate]
    by_cases h2 : j < 16
    · rw [if_pos h2, if_pos (by omega)]
    · rw [if_neg h2, if_neg (by omega)]
theorem takA_pad {l : List Cm} (hl : l.length ≤ 16) {i : Nat} (hi : i < l.length) : takA (pad l) l.length i = pad (l.eraseIdx i) := by
  have h16 := pad_length hl
  have hk : (((pad l).drop (i + 1)).take (l.length - (i + 1))).length = l.length - (i + 1) := by rw [List.length_take, List.length_drop, h16]; omega
  have he : (l.eraseIdx i).length = l.length - 1 := by rw [List.length_eraseIdx, if_pos hi]
  apply List.ext_getElem?
  intro j
  unfold takA
  rw [over_get (by rw [over_length (by rw [hk, h16]; omega), h16]; simp; omega), over_get (by rw [hk, h16]; omega), hk, pad_get? (l := l.eraseIdx i) (by omega), he, List.getElem?_take, List.getElem?_drop, pad_get? hl, pad_get? hl, List.getElem?_eraseIdx]
  by_cases c1 : j < i
  · rw [if_pos (by omega), if_pos c1, if_pos (by omega), if_pos (by omega), if_pos c1]
  · by_cases c2 : j < l.length - 1
    · rw [if_pos c2, if_neg c1, if_pos (by omega), if_pos (by omega), if_pos (by omega), if_pos c2, if_neg c1]
      congr 1; omega
    · by_cases c3 : j = l.length - 1
      · subst c3
        rw [if_neg (by omega), if_pos (by simp), if_neg (by omega), if_pos (by omega)]
        simp
      · have n2 : ¬ j < l.length - 1 + [c0].length := by simp; omega
        have n3 : ¬ j < i + (l.length - (i + 1)) := by omega
        have n4 : ¬ j < l.length := by omega
        simp only [if_neg c2, if_neg n2, if_neg c1, if_neg n3, if_neg n4]
theorem insA_pad {l : List Cm} (hl : l.length ≤ 15) (y : Cm) {i : Nat} (hi : i ≤ l.length) : over (over (pad l) (i + 1) (((pad l).drop i).take (l.length - i))) i [y] = pad (l.take i ++ y :: l.drop i) := by
  have h16 := pad_length (l := l) (by omega)
  have hk : (((pad l).drop i).take (l.length - i)).length = l.length - i := by rw [List.length_take, List.length_drop, h16]; omega
  have he : (l.take i ++ y :: l.drop i).length = l.length + 1 := by simp; omega
  have ht : (l.take i).length = i := by rw [List.length_take]; omega
  apply List.ext_getElem?
  intro j
  rw [over_get (by rw [over_length (by rw [hk, h16]; omega), h16]; simp; omega), over_get (by rw [hk, h16]; omega), hk, pad_get? (l := l.take i ++ y :: l.drop i) (by omega), he, List.getElem?_take, List.getElem?_drop, pad_get? (l := l) (by omega), pad_get? (l := l) (by omega)]
  by_cases c1 : j < i
  · rw [if_pos c1, if_pos (by omega), if_pos (by omega), if_pos (by omega), List.getElem?_append_left (by omega), List.getElem?_take, if_pos c1]
  · by_cases c2 : j = i
    · subst c2
      rw [if_neg c1, if_pos (by simp), if_pos (by omega), List.getElem?_append_right (by omega), ht, Nat.sub_self]
      rfl
    · by_cases c3 : j < l.length + 1
      · rw [if_neg c1, if_neg (by simp; omega), if_neg (by omega), if_pos (by omega), if_pos (by omega), if_pos (by omega), if_pos c3, List.getElem?_append_right (by omega), ht]
        obtain ⟨d, hd⟩ : ∃ d, j - i = d + 1 := ⟨j - i - 1, by omega⟩
        rw [hd, List.getElem?_cons_succ, List.getElem?_drop]
        congr 1; omega
      · rw [if_neg c1, if_neg (by simp; omega), if_neg (by omega), if_neg (by omega), if_neg (by omega), if_neg c3]

theorem Ok.len16 {l : List Cm} (h : Cl.Ok l) : l.length ≤ 16 := h.len
set_option maxHeartbeats 2000000 in
/-- A cell that is not claimed yet. -/
theorem take_new {w : World} {b : Nat} {l : List Cm} (h : CAt w b l) {x : Cm} (hg : 0 ≤ x.g ∧ x.g < 4294967296) (he : takeE l x.c = 0) :
    Calls Try.prog 9 #[.pointer (some ⟨b, 0, none⟩), .int .i64 x.c, .int .u32 x.g] w fun e w' => e = .returned (.int .i64 0) ∧ CAt w' b (takeL l x) ∧ Kept (fun k => k = b) w w' := by
  have hbl := h.lt
  obtain ⟨h1, h2, h3⟩ := takeE_zero.1 he
  have hok := h.1.take (x := x) hg
  have hl15 : l.length ≤ 15 := by have := h.1.len; omega
  have htl : takeL l x = l.take (idx l x.c) ++ x :: l.drop (idx l x.c) := by unfold takeL; rw [if_pos he]; rfl
  rw [htl] at hok
  have hil := idx_le l x.c
  have HC := Lib.hid (find_any (.inr ⟨b, rfl, h⟩) x.c)
  rw [h2] at HC
  obtain ⟨P, hP⟩ : ∃ P : Ending → World → Prop, P = fun e w' => e = .returned (.int .i64 0) ∧ CAt w' b (takeL l x) ∧ Kept (fun k => k = b) w w' := ⟨_, rfl⟩
  rw [← hP]
  obtain ⟨i, hi⟩ : ∃ i, i = idx l x.c := ⟨_, rfl⟩
  rw [← hi] at hil htl HC hok
  have HQ : Hid (∀ w', CB w' b (over (over (pad l) (i + 1) (((pad l).drop i).take (l.length - i))) i [x]) (l.length + 1) → Kept (fun k => k = b) w w' → P (.returned (.int .i64 0)) w') := by
    rw [hP]
    intro w' q1 q2
    rw [insA_pad hl15 x hil] at q1
    rw [htl]
    refine ⟨rfl, ⟨hok, ?_⟩, q2⟩
    rw [show (l.take i ++ x :: l.drop i).length = l.length + 1 by simp; omega]
    exact q1
  clear hP htl hok
  have H16 := Lib.hid (pad_length (l := l) (by omega))
  have HB0 := Lib.hid h.2
  have hne : ((l.length : Int) == 16) = false := by simp; omega
  have his : isC x.c = true := h1
  unfold isC at his
  simp only [Bool.and_eq_true, decide_eq_true_eq] at his
  obtain ⟨j0, j1⟩ := his
  clear h hi h1 h2 h3 he
  obtain ⟨c1, g1⟩ := x
  simp only at j0 j1 hg HC HQ ⊢
  generalize pad l = A at *
  generalize l.length = n at *
  go_enter Try.func9, Try.ntmps9
  go_wp2_with fail
  refine HC.out.mono ?_
  rintro e W1 ⟨rfl, hB⟩
  have Q1 : Hid (CB W1 b A n) := ⟨HB0.out.1, (hB.block b (blk_lt HB0.out.2)).trans HB0.out.2⟩
  have K1 : Hid (Kept (fun k => k = b) w W1) := Kept.of_below hB (Nat.le_refl _)
  have cn : W1.cell? ⟨b, 32, none⟩ = some (.int .i64 (n : Nat)) := Q1.out.count
  clear hB HC HB0
  have HI : Hid (∀ V, Calls Try.prog 29 #[.int .i64 c1] V fun e w' => e = .returned (.bool true) ∧ w' = V) := by
    intro V
    have d0 : decide (0 ≤ c1) = true := by simpa using j0
    have d1 : decide (c1 < 1024) = true := by simpa using j1
    go_enter Try.func29, Try.ntmps29
    go_wp2
    go_ret
    exact ⟨rfl, rfl⟩
  go_wp2_with (go_at_call 29; refine (HI.out _).mono ?_; rintro e w9 ⟨rfl, rfl⟩)
  rename World => W1
  obtain ⟨k, hk⟩ : ∃ k, k = n - i := ⟨_, rfl⟩
  have hw : IntKind.i64.wrap ((i : Int) + 1) = (i : Int) + 1 := IntWalk.i64_in _ (by omega)
  obtain ⟨S1, hS1, sl1⟩ := slice_lo b (i + 1) (by omega)
  rw [show ((i + 1 : Nat) : Int) = (i : Int) + 1 by push_cast; rfl] at sl1
  obtain ⟨S2, hS2, sl2⟩ := slice_lh b i n (by omega) (by omega)
  obtain rfl := hS2 (by omega)
  have hdst : Hid (0 < k → some S1 = some (⟨b, (i + 1) * 2, none⟩ : Addr)) := fun hk0 => by rw [hS1 (by omega)]
  have hsrc : Hid (∀ j v, (csM ((A.drop i).take k))[j]? = some v → W1.drew.cell? ((⟨b, i * 2, none⟩ : Addr).add j) = some v) := Q1.out.src (w := W1) (k := k) (by omega)
  have hsom : Hid (∀ j, j < (csM ((A.drop i).take k)).length → (W1.drew.cell? ⟨b, (i + 1) * 2 + j, none⟩).isSome = true ∧ W1.drew.frozen? ⟨b, (i + 1) * 2 + j, none⟩ = false) := by
    intro j hj
    rw [csM_length, List.length_take, List.length_drop, Q1.out.1] at hj
    exact Q1.out.some (by omega)
  have hlen : Hid ((csM ((A.drop i).take k)).length = k * 2) := by
    have := Q1.out.1
    show _ = _
    rw [csM_length, List.length_take, List.length_drop, this, Nat.min_eq_left (by omega)]
  have hmin : Hid (k = Nat.min (n - i) (16 - (i + 1))) := by
    show k = min _ _
    rw [Nat.min_eq_left (by omega), hk]
  have hone := Lib.hid (csM_one ((A.drop i).take k))
  have HB := Lib.hid (show CB (W1.drew.setCells b ((i + 1) * 2) (csM ((A.drop i).take k))) b (over A (i + 1) ((A.drop i).take k)) n from
    CB.laid (w := W1.drew) Q1.out (by have := Q1.out.1; simp; omega) rfl)
  have HK := Lib.hid ((K1.out.drew).trans (setCells_kept (csM ((A.drop i).take k)) W1.drew b ((i + 1) * 2)) (fun _ _ h => h))
  clear hS2 hS1
  obtain ⟨A1, hA1⟩ : ∃ A1, over A (i + 1) ((A.drop i).take k) = A1 := ⟨_, rfl⟩
  rw [hA1] at HB
  rw [← hk, hA1] at HQ
  clear hA1
  generalize csM ((A.drop i).take k) = cs at *
  go_region_law (refine step_copy_set rfl (.tmp 34) (.tmp 43) 42 42 rfl 26 Try.underlying42 2 Try.infoCm (some S1) (some ⟨b, i * 2, none⟩) (16 - (i + 1)) (16 - (i + 1)) (n - i) (16 - i) k (by simp [Act.eval, Act.put]) (by simp [Act.eval, Act.put]) hmin.out b ((i + 1) * 2) cs hlen.out (fun h0 => ⟨hdst.out h0, _, rfl, hsrc.out⟩) hsom.out hone.out ?_)
  generalize W1.drew.setCells b ((i + 1) * 2) cs = W2 at *
  clear cn K1 Q1 hsrc hsom hlen hone hmin hdst sl1 sl2 HI
  obtain ⟨d0, d1⟩ : (∃ v, W2.cell? ⟨b, i * 2, none⟩ = some v) ∧ (∃ v, W2.cell? ⟨b, i * 2 + 1, none⟩ = some v) := by
    obtain ⟨h1, h2⟩ := HB.out.cm (j := i) (by omega)
    exact ⟨⟨_, h1⟩, ⟨_, h2⟩⟩
  obtain ⟨v0, d0⟩ := d0
  obtain ⟨v1, d1⟩ := d1
  have f0 : W2.frozen? ⟨b, i * 2, none⟩ = false := HB.out.free (i * 2)
  have f1 : W2.frozen? ⟨b, i * 2 + 1, none⟩ = false := HB.out.free (i * 2 + 1)
  have i8 : (i : Int) < 16 := by omega
  have i0 : (0 : Int) ≤ (i : Int) := by omega
  have q3 := HB.out.put (i := i) (by omega) ⟨c1, g1⟩
  have k3 : Kept (fun k => k = b) w ((W2.setCell ⟨b, i * 2, none⟩ (.int .i64 c1)).setCell ⟨b, i * 2 + 1, none⟩ (.int .u32 g1)) :=
    (HK.out.setCell (p := ⟨b, i * 2, none⟩) (.inl rfl) _).setCell (p := ⟨b, i * 2 + 1, none⟩) (.inl rfl) _
  have cn := q3.count
  have fn := q3.free 32
  have hw2 : IntKind.i64.wrap ((n : Int) + 1) = (n : Int) + 1 := IntWalk.i64_in _ (by omega)
  have HF := Lib.hid (HQ.out _ (q3.counted (n + 1)) (k3.setCell (p := ⟨b, 32, none⟩) (.inl rfl) _))
  rw [show ((n + 1 : Nat) : Int) = (n : Int) + 1 by push_cast; rfl] at HF
  clear q3 k3 HQ HB HK
  go_wp2
  exact HF.out

theorem isC_any (V : World) (c : Int) : Calls Try.prog 29 #[.int .i64 c] V fun e w' => e = .returned (.bool (isC c)) ∧ w' = V := by
  by_cases h0 : 0 ≤ c
  · by_cases h1 : c < 1024
    · have e : isC c = true := by unfold isC; rw [decide_eq_true h0, decide_eq_true h1]; rfl
      rw [e]
      clear e
      go_enter Try.func29, Try.ntmps29
      go_wp2
      go_ret
      exact ⟨rfl, rfl⟩
    · have e : isC c = false := by unfold isC; rw [decide_eq_false h1, Bool.and_false]
      rw [e]
      clear e
      go_enter Try.func29, Try.ntmps29
      go_wp2
      go_ret
      exact ⟨rfl, rfl⟩
  · have e : isC c = false := by unfold isC; rw [decide_eq_false h0, Bool.false_and]
    rw [e]
    clear e
    go_enter Try.func29, Try.ntmps29
    go_wp2
    go_ret
    exact ⟨rfl, rfl⟩
set_option maxHeartbeats 1000000 in
/-- What is not claimed. -/
theorem take_not {w : World} {b : Nat} {l : List Cm} (h : CAt w b l) (x : Cm) (he : takeE l x.c ≠ 0) :
    Calls Try.prog 9 #[.pointer (some ⟨b, 0, none⟩), .int .i64 x.c, .int .u32 x.g] w fun e w' => e = .returned (.int .i64 (takeE l x.c)) ∧ Below w.heap.size w w' := by
  have HC := Lib.hid (find_any (.inr ⟨b, rfl, h⟩) x.c)
  have HI := Lib.hid (fun V => isC_any V x.c)
  have HN : Hid (∀ V, Below w.heap.size w V → V.cell? ⟨b, 32, none⟩ = some (.int .i64 (l.length : Int))) := fun V hV => (h.below hV).2.count
  obtain ⟨c1, g1⟩ := x
  simp only at he HC HI ⊢
  unfold takeE at he ⊢
  cases hi : isC c1 with
  | false =>
    rw [hi] at HI
    clear he h
    generalize idx l c1 = i at *
    generalize has l c1 = t at *
    go_enter Try.func9, Try.ntmps9
    go_wp2_with fail
    refine HC.out.mono ?_
    rintro e W1 ⟨rfl, hB⟩
    go_wp2_with (go_at_call 29; refine (HI.out _).mono ?_; rintro e w9 ⟨rfl, rfl⟩)
    go_ret
    exact ⟨rfl, hB⟩
  | true =>
    rw [hi] at HI he
    cases ht : has l c1 with
    | true =>
      rw [ht] at HC
      clear he h
      generalize idx l c1 = i at *
      go_enter Try.func9, Try.ntmps9
      go_wp2_with fail
      refine HC.out.mono ?_
      rintro e W1 ⟨rfl, hB⟩
      go_wp2_with (go_at_call 29; refine (HI.out _).mono ?_; rintro e w9 ⟨rfl, rfl⟩)
      go_ret
      exact ⟨rfl, hB⟩
    | false =>
      rw [ht] at HC he
      by_cases hl : l.length = 16
      · rw [if_pos hl]
        rw [hl] at HN
        clear he h
        generalize idx l c1 = i at *
        go_enter Try.func9, Try.ntmps9
        go_wp2_with fail
        refine HC.out.mono ?_
        rintro e W1 ⟨rfl, hB⟩
        have cn : W1.cell? ⟨b, 32, none⟩ = some (.int .i64 16) := HN.out W1 hB
        go_wp2_with (go_at_call 29; refine (HI.out _).mono ?_; rintro e w9 ⟨rfl, rfl⟩)
        go_ret
        exact ⟨rfl, hB⟩
      · simp [hl] at he
theorem take_any {w : World} {b : Nat} {l : List Cm} (h : CAt w b l) {x : Cm} (hg : 0 ≤ x.g ∧ x.g < 4294967296) :
    Calls Try.prog 9 #[.pointer (some ⟨b, 0, none⟩), .int .i64 x.c, .int .u32 x.g] w fun e w' => e = .returned (.int .i64 (takeE l x.c)) ∧ CAt w' b (takeL l x) ∧ Kept (fun k => k = b) w w' := by
  by_cases he : takeE l x.c = 0
  · rw [he]; exact take_new h hg he
  · refine (take_not h x he).mono ?_
    rintro e w' ⟨rfl, hB⟩
    refine ⟨rfl, ?_, Kept.of_below hB (Nat.le_refl _)⟩
    unfold takeL
    rw [if_neg he]
    exact h.below hB
theorem take_nil {w : World} (c g : Int) :
    Calls Try.prog 9 #[.pointer none, .int .i64 c, .int .u32 g] w fun e w' => e = .returned (.int .i64 1) ∧ w' = w := by
  go_enter Try.func9, Try.ntmps9
  go_wp2
  go_ret
  exact ⟨rfl, rfl⟩

set_option maxHeartbeats 2000000 in
/-- A claim that is dropped. -/
theorem drop_yes {w : World} {b : Nat} {l : List Cm} (h : CAt w b l) (c1 : Int) (hh : has l c1 = true) :
    Calls Try.prog 11 #[.pointer (some ⟨b, 0, none⟩), .int .i64 c1] w fun e w' => e = .returned (.tuple #[.int .u32 (genG l c1), .bool true]) ∧ CAt w' b (dropL l c1) ∧ Kept (fun k => k = b) w w' := by
  have hbl := h.lt
  have hok := h.1.drop c1
  have hl16 := h.1.len
  have hil := (has_lt hh).1
  have HC := Lib.hid (find_any (.inr ⟨b, rfl, h⟩) c1)
  rw [hh] at HC
  have hG : genG l c1 = (l.getD (idx l c1) c0).g := by unfold genG; rw [if_pos hh]; rfl
  have hD : dropL l c1 = l.eraseIdx (idx l c1) := by unfold dropL; rw [if_pos hh]
  have he : (l.eraseIdx (idx l c1)).length = l.length - 1 := by rw [List.length_eraseIdx, if_pos hil]
  rw [hG]
  obtain ⟨P, hP⟩ : ∃ P : Ending → World → Prop, P = fun e w' => e = .returned (.tuple #[.int .u32 (l.getD (idx l c1) c0).g, .bool true]) ∧ CAt w' b (dropL l c1) ∧ Kept (fun k => k = b) w w' := ⟨_, rfl⟩
  rw [← hP]
  have HQ : Hid (∀ w', CB w' b (takA (pad l) l.length (idx l c1)) (l.length - 1) → Kept (fun k => k = b) w w' → P (.returned (.tuple #[.int .u32 (l.getD (idx l c1) c0).g, .bool true])) w') := by
    rw [hP]
    intro w' q1 q2
    rw [takA_pad hl16 hil, ← hD] at q1
    exact ⟨rfl, ⟨hok, by rw [hD, he, ← hD]; exact q1⟩, q2⟩
  have HL : Hid (∀ V, Below w.heap.size w V → V.cell? ⟨b, idx l c1 * 2 + 1, none⟩ = some (.int .u32 (l.getD (idx l c1) c0).g)) := fun V hV => ((h.below hV).cm hil).2
  have HB0 := Lib.hid h.2
  clear hP hok h hh hG hD he
  generalize (l.getD (idx l c1) c0).g = g1 at *
  generalize idx l c1 = i at *
  generalize pad l = A at *
  generalize l.length = n at *
  have i0 : (0 : Int) ≤ (i : Int) := by omega
  have i1 : (i : Int) < 16 := by omega
  go_enter Try.func11, Try.ntmps11
  go_wp2_with fail
  refine HC.out.mono ?_
  rintro e W1 ⟨rfl, hB⟩
  have Q1 : Hid (CB W1 b A n) := ⟨HB0.out.1, (hB.block b (blk_lt HB0.out.2)).trans HB0.out.2⟩
  have K1 : Hid (Kept (fun k => k = b) w W1) := Kept.of_below hB (Nat.le_refl _)
  have cn : W1.cell? ⟨b, 32, none⟩ = some (.int .i64 (n : Nat)) := Q1.out.count
  have z := HL.out W1 hB
  clear hB HC HB0 HL
  go_wp2_with fail
  clear z
  obtain ⟨k, hk⟩ : ∃ k, k = n - (i + 1) := ⟨_, rfl⟩
  have hw : IntKind.i64.wrap ((i : Int) + 1) = (i : Int) + 1 := IntWalk.i64_in _ (by omega)
  obtain ⟨S1, hS1, sl1⟩ := slice_lo b i (by omega)
  obtain rfl := hS1 (by omega)
  obtain ⟨S2, hS2, sl2⟩ := slice_lh b (i + 1) n (by omega) hl16
  rw [show ((i + 1 : Nat) : Int) = (i : Int) + 1 by push_cast; rfl] at sl2
  have hsrc : Hid (0 < k → ∀ j v, (csM ((A.drop (i + 1)).take k))[j]? = some v → W1.drew.cell? (S2.add j) = some v) := by
    intro hk0
    rw [hS2 (by omega)]
    exact Q1.out.src (w := W1) (k := k) (by omega)
  have hsom : Hid (∀ j, j < (csM ((A.drop (i + 1)).take k)).length → (W1.drew.cell? ⟨b, i * 2 + j, none⟩).isSome = true ∧ W1.drew.frozen? ⟨b, i * 2 + j, none⟩ = false) := by
    intro j hj
    rw [csM_length, List.length_take, List.length_drop, Q1.out.1] at hj
    exact Q1.out.some (by omega)
  have hlen : Hid ((csM ((A.drop (i + 1)).take k)).length = k * 2) := by
    have := Q1.out.1
    show _ = _
    rw [csM_length, List.length_take, List.length_drop, this, Nat.min_eq_left (by omega)]
  have hmin : Hid (k = Nat.min (n - (i + 1)) (16 - i)) := by
    show k = min _ _
    rw [Nat.min_eq_left (by omega), hk]
  have hone := Lib.hid (csM_one ((A.drop (i + 1)).take k))
  have HB := Lib.hid (show CB (W1.drew.setCells b (i * 2) (csM ((A.drop (i + 1)).take k))) b (over A i ((A.drop (i + 1)).take k)) n from
    CB.laid (w := W1.drew) Q1.out (by have := Q1.out.1; simp; omega) rfl)
  have HK := Lib.hid ((K1.out.drew).trans (setCells_kept (csM ((A.drop (i + 1)).take k)) W1.drew b (i * 2)) (fun _ _ h => h))
  unfold takA at HQ
  rw [← hk] at HQ
  clear hS2 hS1
  obtain ⟨A1, hA1⟩ : ∃ A1, over A i ((A.drop (i + 1)).take k) = A1 := ⟨_, rfl⟩
  rw [hA1] at HB HQ
  clear hA1
  generalize csM ((A.drop (i + 1)).take k) = cs at *
  go_region_law (refine step_copy_set rfl (.tmp 28) (.tmp 38) 42 42 rfl 26 Try.underlying42 2 Try.infoCm (some ⟨b, i * 2, none⟩) (some S2) (16 - i) (16 - i) (n - (i + 1)) (16 - (i + 1)) k (by simp [Act.eval, Act.put]) (by simp [Act.eval, Act.put]) hmin.out b (i * 2) cs hlen.out (fun h0 => ⟨rfl, S2, rfl, hsrc.out h0⟩) hsom.out hone.out ?_)
  generalize W1.drew.setCells b (i * 2) cs = W2 at *
  clear cn K1 Q1 hsrc hsom hlen hone hmin sl1 sl2
  obtain ⟨m, rfl⟩ : ∃ m, n = m + 1 := ⟨n - 1, by omega⟩
  have cn : W2.cell? ⟨b, 32, none⟩ = some (.int .i64 ((m + 1 : Nat) : Int)) := HB.out.count
  have fn := HB.out.free 32
  have hw2 : IntKind.i64.wrap (((m + 1 : Nat) : Int) - 1) = (m : Int) := by rw [IntWalk.i64_in _ (by omega)]; omega
  have HB3 := Lib.hid (HB.out.counted m)
  have HK3 := Lib.hid (HK.out.setCell (p := ⟨b, 32, none⟩) (.inl rfl) (.int .i64 (m : Int)))
  rw [Nat.add_sub_cancel] at HQ
  clear HB HK
  go_wp2_with fail
  generalize W2.setCell ⟨b, 32, none⟩ (.int .i64 (m : Int)) = W3 at *
  clear cn fn hw2
  have cn : W3.drew.cell? ⟨b, 32, none⟩ = some (.int .i64 (m : Int)) := HB3.out.count
  obtain ⟨d0, d1⟩ : (∃ v, W3.drew.cell? ⟨b, m * 2, none⟩ = some v) ∧ (∃ v, W3.drew.cell? ⟨b, m * 2 + 1, none⟩ = some v) := by
    obtain ⟨h1, h2⟩ := HB3.out.cm (j := m) (by omega)
    exact ⟨⟨_, h1⟩, ⟨_, h2⟩⟩
  obtain ⟨v0, d0⟩ := d0
  obtain ⟨v1, d1⟩ := d1
  have f0 : W3.drew.frozen? ⟨b, m * 2, none⟩ = false := HB3.out.free (m * 2)
  have f1 : W3.drew.frozen? ⟨b, m * 2 + 1, none⟩ = false := HB3.out.free (m * 2 + 1)
  have m8 : (m : Int) < 16 := by omega
  have m0 : (0 : Int) ≤ (m : Int) := by omega
  have d0' : W3.cell? ⟨b, m * 2, none⟩ = some v0 := d0
  have d1' : W3.cell? ⟨b, m * 2 + 1, none⟩ = some v1 := d1
  have f0' : W3.frozen? ⟨b, m * 2, none⟩ = false := f0
  have f1' : W3.frozen? ⟨b, m * 2 + 1, none⟩ = false := f1
  go_region
  have q4 : CB ((W3.setCell ⟨b, m * 2, none⟩ (.int .i64 0)).setCell ⟨b, m * 2 + 1, none⟩ (.int .u32 0)) b (over A1 m [c0]) m := HB3.out.put (i := m) (by omega) c0
  have k4 : Kept (fun k => k = b) w ((W3.setCell ⟨b, m * 2, none⟩ (.int .i64 0)).setCell ⟨b, m * 2 + 1, none⟩ (.int .u32 0)) :=
    (HK3.out.setCell (p := ⟨b, m * 2, none⟩) (.inl rfl) _).setCell (p := ⟨b, m * 2 + 1, none⟩) (.inl rfl) _
  have q5 : CB ((W3.setCell ⟨b, m * 2, none⟩ (.int .i64 0)).setCell ⟨b, m * 2 + 1, none⟩ (.int .u32 0)).drew b (over A1 m [c0]) m := q4
  have HF := Lib.hid (HQ.out _ q5 k4.drew)
  clear q4 q5 k4 HQ HB3 HK3 cn d0 d1 f0 f1 d0' d1' f0' f1'
  go_wp2
  exact HF.out
theorem drop_no {w : World} {p : Option Addr} {l : List Cm} (h : CP w p l) (c1 : Int) (hh : has l c1 = false) :
    Calls Try.prog 11 #[.pointer p, .int .i64 c1] w fun e w' => e = .returned (.tuple #[.int .u32 0, .bool false]) ∧ Below w.heap.size w w' := by
  have HC := Lib.hid (find_any h c1)
  rw [hh] at HC
  clear h hh
  generalize idx l c1 = i at *
  go_enter Try.func11, Try.ntmps11
  go_wp2_with fail
  refine HC.out.mono ?_
  rintro e W1 ⟨rfl, hB⟩
  go_wp2
  first | exact ⟨rfl, hB⟩ | (go_ret2; exact ⟨rfl, hB⟩)
theorem drop_any {w : World} {b : Nat} {l : List Cm} (h : CAt w b l) (c : Int) :
    Calls Try.prog 11 #[.pointer (some ⟨b, 0, none⟩), .int .i64 c] w fun e w' => e = .returned (.tuple #[.int .u32 (genG l c), .bool (has l c)]) ∧ CAt w' b (dropL l c) ∧ Kept (fun k => k = b) w w' := by
  cases hh : has l c with
  | true => exact drop_yes h c hh
  | false =>
    refine (drop_no (.inr ⟨b, rfl, h⟩) c hh).mono ?_
    rintro e w' ⟨rfl, hB⟩
    refine ⟨by unfold genG; rw [if_neg (by rw [hh]; decide)], ?_, Kept.of_below hB (Nat.le_refl _)⟩
    unfold dropL
    rw [if_neg (by rw [hh]; decide)]
    exact h.below hB
end Go.Proofs.Ytijhkjegpcmjoaa
