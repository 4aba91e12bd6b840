/-
  A waiter is taken out of a queue, and one comes into it.
-/
import Derived.Test.YtlmbbnkdiokabaaDoorSp2
import Derived.Shelf.RegionOpenPlain
import Derived.Deep.LoopGhost
import Derived.Deep.RegionLaw
import Derived.Lib.Walk
import Derived.Sort.WalkB12
import Derived.IntWalk
namespace Go.Proofs.YtlmbbnkdiokabaaDoor
set_option maxRecDepth 100000
set_option linter.unusedSimpArgs false
open Go Go.RowKit Sp
attribute [local go_sem] Oper.semAt_some

theorem run_copy_set {P : Program} (w : World) (dT sT ty elem : TypeId) (sz : Nat) (dp sp : Option Addr) (dLen dCap sLen sCap n : Nat) (hu : P.underlying dT = some (.slice elem)) (hs : (P.info? elem).map (·.size) = some sz) (hn : n = Nat.min sLen dLen)
    (g off : Nat) (cs : List Value) (hcs : cs.length = n * sz)
    (hpos : 0 < n → dp = some ⟨g, off, none⟩ ∧ ∃ ad, sp = some ad ∧ ∀ j v, cs[j]? = some v → w.cell? (ad.add j) = some v)
    (hc : ∀ j, j < cs.length → (w.cell? ⟨g, off + j, none⟩).isSome = true ∧ w.frozen? ⟨g, off + j, none⟩ = false) (h1 : ∀ v ∈ cs, v.oneCell' = true) :
    (Builtin.copy_ #[dT, sT] ty #[.slice dp dLen dCap, .slice sp sLen sCap]).run P w = .ok (goInt n) (w.setCells g off cs) := by
  cases hq : P.info? elem with
  | none => simp [hq] at hs
  | some i =>
    have hi : i.size = sz := by simpa [hq] using hs
    by_cases h0 : n = 0
    · have hl : ∀ (x : Addr), (loadCells x 0).run P w = .ok #[] w := fun x => by simpa using run_loadCells_list (P := P) w x [] (by simp)
      subst h0
      obtain rfl : cs = [] := List.eq_nil_of_length_eq_zero (by simpa using hcs)
      cases dp <;> cases sp <;> simp [Builtin.copy_, run_underlying hu, Builtin.lenOf, Builtin.firstCells, sizeOf, typeInfo, hq, ← hn, storeCells, hl, World.setCells]
    · obtain ⟨rfl, ad, rfl, hsrc⟩ := hpos (by omega)
      have hl := run_loadCells_list (P := P) w ad cs hsrc
      rw [hcs] at hl
      have hst := run_storeCells_cells (P := P) g off cs 0 w (fun j hj => (hc j hj).1) (fun j hj => (hc j hj).2) h1
      simp [Builtin.copy_, run_underlying hu, Builtin.lenOf, Builtin.firstCells, sizeOf, typeInfo, hq, hi, ← hn, hl, hst]

theorem step_copy_set {P : Program} {ops : Array Oper} {o : Oper} {a : Act} {w : World} {K : Act → World → Prop} {Q : Exit → Act → World → Prop} {E : Prop} (hgd : o.guard = none) (d s : Operand) (dT sT : TypeId)
    (ho : o.op = .call { callee := .builtin .copy, args := #[d, s], argTypes := #[dT, sT] }) (elem : TypeId) (hu : P.underlying dT = some (.slice elem)) (sz : Nat) (hsz : (P.info? elem).map (·.size) = some sz)
    (dp sp : Option Addr) (dLen dCap sLen sCap n : Nat) (hd : a.eval d = .slice dp dLen dCap) (hs : a.eval s = .slice sp sLen sCap) (hn : n = Nat.min sLen dLen)
    (g off : Nat) (cs : List Value) (hcs : cs.length = n * sz)
    (hpos : 0 < n → dp = some ⟨g, off, none⟩ ∧ ∃ ad, sp = some ad ∧ ∀ j v, cs[j]? = some v → w.cell? (ad.add j) = some v)
    (hc : ∀ j, j < cs.length → (w.cell? ⟨g, off + j, none⟩).isSome = true ∧ w.frozen? ⟨g, off + j, none⟩ = false) (h1 : ∀ v ∈ cs, v.oneCell' = true)
    (h : K (a.put o.dst (goInt n)) (w.setCells g off cs)) :
    if Region.wanted o (yielded ops a.tmps) = true then Oper.wp P o a w K Q else E := by
  have hw : Region.wanted o (yielded ops a.tmps) = true := by simp [Region.wanted, hgd]
  rw [if_pos hw]
  have hrun := run_copy_set (P := P) w dT sT o.type elem sz dp sp dLen dCap sLen sCap n hu hsz hn g off cs hcs hpos hc h1
  unfold Oper.wp
  simp [execOp, ho, resolve, invoke, builtin, hd, hs, hrun, Result.andThen]
  exact h

/-- Values laid into a block from a place on. -/
def layC (cur : Array Value) : Nat → List Value → Array Value
  | _, [] => cur
  | o, v :: r => layC (cur.setIfInBounds o v) (o + 1) r
theorem layC_size (vs : List Value) : ∀ (cur : Array Value) (o : Nat), (layC cur o vs).size = cur.size := by
  induction vs with
  | nil => intro cur o; rfl
  | cons v r ih => intro cur o; rw [layC, ih]; simp
theorem layC_list (vs : List Value) : ∀ (cur : Array Value) (o : Nat), o + vs.length ≤ cur.size → (layC cur o vs).toList = cur.toList.take o ++ vs ++ cur.toList.drop (o + vs.length) := by
  induction vs with
  | nil => intro cur o _; simp [layC]
  | cons v r ih =>
    intro cur o h
    simp only [List.length_cons] at h
    rw [layC, ih _ _ (by simp; omega), Array.toList_setIfInBounds]
    have h1 : (cur.toList.set o v).take (o + 1) = cur.toList.take o ++ [v] := by
      rw [List.take_set, List.take_add_one, List.getElem?_eq_getElem (by simp; omega)]
      simp only [Option.toList_some]
      rw [List.set_append_right _ _ (by simp; omega)]
      have : o - (List.take o cur.toList).length = 0 := by simp; omega
      rw [this]
      simp
    rw [h1, List.drop_set_of_lt (by omega)]
    simp only [List.length_cons, List.append_assoc, List.singleton_append]
    rw [show o + 1 + r.length = o + (r.length + 1) by omega]
theorem setCells_blk (vs : List Value) : ∀ (w : World) (g o : Nat) (cur : Array Value) (e : TypeId) (m : Nat × Nat), w.heap[g]? = some (.cells cur e m) → (w.setCells g o vs).heap[g]? = some (.cells (layC cur o vs) e m) := by
  induction vs with
  | nil => intro w g o cur e m h; exact h
  | cons v r ih => intro w g o cur e m h; exact ih _ g (o + 1) _ e m (blk_set h o v)
theorem setCells_kept (vs : List Value) : ∀ (w : World) (g o : Nat), Kept (fun k => k = g) w (w.setCells g o vs) := by
  induction vs with
  | nil => intro w g o; exact Kept.refl _ _
  | cons v r ih => intro w g o; exact ((Kept.refl (fun k => k = g) w).setCell (p := ⟨g, o, none⟩) (.inl rfl) v).trans (ih _ g (o + 1)) (fun _ _ h => h)

/-- Places laid over others. -/
def over (A : List Wt) (i : Nat) (B : List Wt) : List Wt := A.take i ++ (B ++ A.drop (i + B.length))
theorem over_length {A B : List Wt} {i : Nat} (h : i + B.length ≤ A.length) : (over A i B).length = A.length := by simp [over]; omega
theorem QB.laid {w : World} {b : Nat} {A : List Wt} {n : Nat} (h : QB w b A n) {i : Nat} {B : List Wt} (hi : i + B.length ≤ 8) {m : Nat} (hm : m = i * 3) : QB (w.setCells b m (csA B)) b (over A i B) n := by
  subst hm
  have hA := h.1
  refine ⟨by rw [over_length (by omega), hA], ?_⟩
  rw [setCells_blk (csA B) w b (i * 3) _ _ _ h.2]
  have hl : (csA A).length = 24 := by rw [csA_length, hA]
  have hb : (csA B).length = B.length * 3 := csA_length B
  have hs : i * 3 + (csA B).length ≤ (csA A ++ [Value.int .i64 (n : Int)]).toArray.size := by simp [hl, hb]; omega
  congr 2
  apply Array.toList_inj.1
  rw [layC_list _ _ _ hs]
  simp only [List.append_assoc, List.toList_toArray]
  rw [List.take_append_of_le_length (by omega), List.drop_append_of_le_length (by omega), hb]
  simp only [over, csA_append, csA_take, csA_drop, List.append_assoc]
  rw [Nat.add_mul]
theorem QB.counted {w : World} {b : Nat} {A : List Wt} {n : Nat} (h : QB w b A n) (m : Nat) : QB (w.setCell ⟨b, 24, none⟩ (.int .i64 (m : Int))) b A m := by
  refine ⟨h.1, ?_⟩
  rw [blk_set h.2]
  have hl : (csA A).length = 24 := by rw [csA_length, h.1]
  congr 2
  apply Array.toList_inj.1
  rw [Array.toList_setIfInBounds]
  simp only [List.toList_toArray]
  rw [List.set_append_right _ _ (by omega), hl]
  rfl
theorem QB.put {w : World} {b : Nat} {A : List Wt} {n : Nat} (h : QB w b A n) {i : Nat} (hi : i < 8) (x : Wt) :
    QB (((w.setCell ⟨b, i * 3, none⟩ (.int .i64 x.r)).setCell ⟨b, i * 3 + 1, none⟩ (.int .u64 x.s)).setCell ⟨b, i * 3 + 2, none⟩ (.int .i64 x.p)) b (over A i [x]) n :=
  h.laid (B := [x]) (by simp; omega) rfl
theorem over_set {A : List Wt} {i : Nat} (h : i < A.length) (x : Wt) : over A i [x] = A.set i x := by
  rw [over, List.set_eq_take_append_cons_drop, if_pos h]; rfl
/-- What a queue's places hold, cell by cell. -/
theorem QB.src {w : World} {b : Nat} {A : List Wt} {n : Nat} (h : QB w b A n) {i k : Nat} (hk : i + k ≤ 8) : ∀ j v, (csA ((A.drop i).take k))[j]? = some v → w.cell? ((⟨b, i * 3, none⟩ : Addr).add j) = some v := by
  intro j v hv
  have e : (⟨b, i * 3, none⟩ : Addr).add j = ⟨b, i * 3 + j, none⟩ := by unfold Addr.add; split <;> simp_all
  have hj := (List.getElem?_eq_some_iff.1 hv).1
  have hA := h.1
  have hl : (csA A).length = 24 := by rw [csA_length, hA]
  rw [csA_length, List.length_take, List.length_drop, hA, Nat.min_eq_left (by omega)] at hj
  rw [csA_take, csA_drop, List.getElem?_take, if_pos (by omega), List.getElem?_drop] at hv
  rw [e, blk_cell h.2]
  simp only [List.getElem?_toArray]
  rw [List.getElem?_append_left (by omega), hv]
theorem QB.some {w : World} {b : Nat} {A : List Wt} {n : Nat} (h : QB w b A n) {j : Nat} (hj : j < 25) : (w.cell? ⟨b, j, none⟩).isSome = true ∧ w.frozen? ⟨b, j, none⟩ = false := by
  refine ⟨?_, h.free j⟩
  have hl : (csA A).length = 24 := by rw [csA_length, h.1]
  rw [blk_cell h.2, Array.getElem?_eq_getElem (by simp [hl]; omega)]; rfl
theorem csA_sub_one (A : List Wt) : ∀ v ∈ csA A, v.oneCell' = true := csA_one A
theorem Tryd.infoWt : (Tryd.prog.info? 71).map (·.size) = some 3 := by kernel_rfl
theorem Tryd.arr8 : Tryd.prog.underlying 132 = some (.array (Tryd.prog.arrayLen 132) (Tryd.prog.elem 132)) := by kernel_rfl
theorem Tryd.arr8n : Tryd.prog.arrayLen 132 = 8 := by kernel_rfl
theorem Tryd.arr8s (W : World) : (sizeOf (Tryd.prog.elem 132)).run Tryd.prog W = .ok 3 W := by kernel_rfl
/-- A queue's places from one on; those from one to another one. -/
theorem slice_lo (b l : Nat) (hl : l ≤ 8) : ∃ S : Addr, (l < 8 → S = ⟨b, l * 3, none⟩) ∧ ∀ W, (Instr.sliceAt 132 (.pointer (some ⟨b, 0, none⟩)) (some (.int .i64 (l : Int))) none none).run Tryd.prog W = .ok (.slice (some S) (8 - l) (8 - l)) W := by
  refine ⟨if 8 = l then ⟨b, 0, none⟩ else ⟨b, l * 3, none⟩, fun h => by rw [if_neg (by omega)], fun W => ?_⟩
  rw [run_sliceAt_array_l W _ _ Tryd.arr8 .i64 (l : Int) (by omega) (by rw [Tryd.arr8n]; omega), Tryd.arr8n, Tryd.arr8s]
  simp only [Result.andThen, slicedAt, Int.toNat_natCast]
  by_cases h : 8 = l
  · rw [if_pos h, if_pos h]
  · rw [if_neg h, if_neg h, Addr.add_lit, Nat.zero_add]
theorem slice_lh (b l h : Nat) (hl : l ≤ h) (hh : h ≤ 8) : ∃ S : Addr, (l < 8 → S = ⟨b, l * 3, none⟩) ∧ ∀ W, (Instr.sliceAt 132 (.pointer (some ⟨b, 0, none⟩)) (some (.int .i64 (l : Int))) (some (.int .i64 (h : Int))) none).run Tryd.prog W = .ok (.slice (some S) (h - l) (8 - l)) W := by
  refine ⟨if 8 = l then ⟨b, 0, none⟩ else ⟨b, l * 3, none⟩, fun h => by rw [if_neg (by omega)], fun W => ?_⟩
  rw [run_sliceAt_array_lh W _ _ Tryd.arr8 .i64 .i64 (l : Int) (h : Int) (by omega) (by omega) (by rw [Tryd.arr8n]; omega), Tryd.arr8n, Tryd.arr8s]
  simp only [Result.andThen, slicedAt, Int.toNat_natCast]
  by_cases h : 8 = l
  · rw [if_pos h, if_pos h]
  · rw [if_neg h, if_neg h, Addr.add_lit, Nat.zero_add]
/-- What is left where one was taken out. -/
def takA (A : List Wt) (n i : Nat) : List Wt := over (over A i ((A.drop (i + 1)).take (n - (i + 1)))) (n - 1) [w0]

set_option maxHeartbeats 2000000 in
theorem take_q {w : World} {b : Nat} {A : List Wt} {n i : Nat} (h : QB w b A n) (hi : i < n) (hn : n ≤ 8) :
    Calls Tryd.prog 75 #[.pointer (some ⟨b, 0, none⟩), .int .i64 (i : Nat)] w fun e w' => e = .returned (wv (A.getD i w0)) ∧ QB w' b (takA A n i) (n - 1) ∧ Kept (fun k => k = b) w w' := by
  have hbl := blk_lt h.2
  have hc : ∀ t c, (w.alloc (.cells c t)).cell? ⟨b, i * 3, none⟩ = some (.int .i64 (A.getD i w0).r) ∧ (w.alloc (.cells c t)).cell? ⟨b, i * 3 + 1, none⟩ = some (.int .u64 (A.getD i w0).s) ∧ (w.alloc (.cells c t)).cell? ⟨b, i * 3 + 2, none⟩ = some (.int .i64 (A.getD i w0).p) := by
    intro t c
    obtain ⟨h1, h2, h3⟩ := h.wt (j := i) (by omega)
    exact ⟨Lib.cell?_alloc_some _ h1, Lib.cell?_alloc_some _ h2, Lib.cell?_alloc_some _ h3⟩
  have c0 := fun t c => (hc t c).1
  have c1 := fun t c => (hc t c).2.1
  have c2 := fun t c => (hc t c).2.2
  clear hc
  have HH := Lib.hid h
  clear h
  obtain ⟨x, hx⟩ : ∃ x, x = A.getD i w0 := ⟨_, rfl⟩
  rw [← hx] at c0 c1 c2 ⊢
  clear hx
  obtain ⟨r1, s1, p1⟩ := x
  simp only [wv] at c0 c1 c2 ⊢
  have i8 : (i : Int) < 8 := by omega
  have i0 : (0 : Int) ≤ (i : Int) := by omega
  go_enter Tryd.func75, Tryd.ntmps75
  go_wp2_with fail
  obtain ⟨W1, hW1⟩ : ∃ W1, (w.alloc (.cells #[.int .i64 0, .int .u64 0, .int .i64 0] 71)).alloc (.cells #[.int .i64 r1, .int .u64 s1, .int .i64 p1] 71) = W1 := ⟨_, rfl⟩
  have k1 : Kept (fun k => k = b) w W1 := by rw [← hW1]; exact ((Kept.refl _ w).alloc _).alloc _
  have q1 : QB W1 b A n := HH.out.kept (X := fun _ => False) (by rw [← hW1]; exact ((Kept.refl _ w).alloc _).alloc _) id
  have b4 : W1.heap[w.heap.size]? = some (.cells #[.int .i64 0, .int .u64 0, .int .i64 0] 71 (0, 0)) := by
    rw [← hW1, Below.heap_alloc _ _ _ (by simp)]; exact World.alloc_heap_new _ _
  have b5 : W1.heap[w.heap.size + 1]? = some (.cells #[.int .i64 r1, .int .u64 s1, .int .i64 p1] 71 (0, 0)) := by
    have := World.alloc_heap_new (w.alloc (.cells #[.int .i64 0, .int .u64 0, .int .i64 0] 71)) (.cells #[.int .i64 r1, .int .u64 s1, .int .i64 p1] 71)
    rw [World.size_alloc] at this
    rw [← hW1]; exact this
  rw [hW1]
  clear hW1 c0 c1 c2
  have cn := q1.count
  have K1 := Lib.hid k1
  have Q1 := Lib.hid q1
  have B4 := Lib.hid b4
  have B5 := Lib.hid b5
  clear k1 q1 b4 b5
  obtain ⟨k, hk⟩ : ∃ k, k = n - (i + 1) := ⟨_, rfl⟩
  have hw : IntKind.i64.wrap ((i : Int) + 1) = (i : Int) + 1 := IntWalk.i64_in _ (by omega)
  obtain ⟨S1, hS1, sl1⟩ := slice_lo b i (by omega)
  obtain rfl := hS1 (by omega)
  obtain ⟨S2, hS2, sl2⟩ := slice_lh b (i + 1) n (by omega) hn
  rw [show ((i + 1 : Nat) : Int) = (i : Int) + 1 by push_cast; rfl] at sl2
  have hsrc : Hid (0 < k → ∀ j v, (csA ((A.drop (i + 1)).take k))[j]? = some v → W1.drew.cell? (S2.add j) = some v) := by
    intro hk0
    rw [hS2 (by omega)]
    exact Q1.out.src (w := W1) (k := k) (by omega)
  have hsom : Hid (∀ j, j < (csA ((A.drop (i + 1)).take k)).length → (W1.drew.cell? ⟨b, i * 3 + j, none⟩).isSome = true ∧ W1.drew.frozen? ⟨b, i * 3 + j, none⟩ = false) := by
    intro j hj
    rw [csA_length, List.length_take, List.length_drop, Q1.out.1] at hj
    exact Q1.out.some (by omega)
  have hlen : Hid ((csA ((A.drop (i + 1)).take k)).length = k * 3) := by
    have := Q1.out.1
    show _ = _
    rw [csA_length, List.length_take, List.length_drop, this, Nat.min_eq_left (by omega)]
  have hmin : Hid (k = Nat.min (n - (i + 1)) (8 - i)) := by
    show k = min _ _
    rw [Nat.min_eq_left (by omega), hk]
  have hone := Lib.hid (csA_one ((A.drop (i + 1)).take k))
  have HB := Lib.hid (show QB (W1.drew.setCells b (i * 3) (csA ((A.drop (i + 1)).take k))) b (over A i ((A.drop (i + 1)).take k)) n from
    QB.laid (w := W1.drew) Q1.out (by have := Q1.out.1; simp; omega) rfl)
  have HK := Lib.hid ((K1.out.drew).trans (setCells_kept (csA ((A.drop (i + 1)).take k)) W1.drew b (i * 3)) (fun _ _ h => h))
  clear hS2 hS1
  obtain ⟨A1, hA1⟩ : ∃ A1, over A i ((A.drop (i + 1)).take k) = A1 := ⟨_, rfl⟩
  rw [hA1] at HB
  have HA1 := Lib.hid hA1
  clear hA1
  generalize csA ((A.drop (i + 1)).take k) = cs at *
  go_region_law (refine step_copy_set rfl (.tmp 16) (.tmp 26) 68 68 rfl 71 Tryd.underlying68 3 Tryd.infoWt (some ⟨b, i * 3, none⟩) (some S2) (8 - i) (8 - i) (n - (i + 1)) (8 - (i + 1)) k (by simp [Act.eval, Act.put]) (by simp [Act.eval, Act.put]) hmin.out b (i * 3) cs hlen.out (fun h0 => ⟨rfl, S2, rfl, hsrc.out h0⟩) hsom.out hone.out ?_)
  have HB4 : Hid ((W1.drew.setCells b (i * 3) cs).heap[w.heap.size]? = some (.cells #[.int .i64 0, .int .u64 0, .int .i64 0] 71 (0, 0))) := by
    have := (setCells_kept cs W1.drew b (i * 3)).block w.heap.size (blk_lt (w := W1) B4.out) (by omega)
    exact this.trans B4.out
  have HB5 : Hid ((W1.drew.setCells b (i * 3) cs).heap[w.heap.size + 1]? = some (.cells #[.int .i64 r1, .int .u64 s1, .int .i64 p1] 71 (0, 0))) := by
    have := (setCells_kept cs W1.drew b (i * 3)).block (w.heap.size + 1) (blk_lt (w := W1) B5.out) (by omega)
    exact this.trans B5.out
  generalize W1.drew.setCells b (i * 3) cs = W2 at *
  clear cn K1 Q1 B4 B5 hsrc hsom hlen hone sl1 sl2
  obtain ⟨m, rfl⟩ : ∃ m, n = m + 1 := ⟨n - 1, by omega⟩
  have cn : W2.cell? ⟨b, 24, none⟩ = some (.int .i64 ((m + 1 : Nat) : Int)) := HB.out.count
  have fn := HB.out.free 24
  have hw2 : IntKind.i64.wrap (((m + 1 : Nat) : Int) - 1) = (m : Int) := by rw [IntWalk.i64_in _ (by omega)]; omega
  have HB3 := Lib.hid (HB.out.counted m)
  have HK3 := Lib.hid (HK.out.setCell (p := ⟨b, 24, none⟩) (.inl rfl) (.int .i64 (m : Int)))
  have HB34 := Lib.hid ((Below.heap_setCell W2 ⟨b, 24, none⟩ (.int .i64 (m : Int)) w.heap.size (by simp; omega)).trans HB4.out)
  have HB35 := Lib.hid ((Below.heap_setCell W2 ⟨b, 24, none⟩ (.int .i64 (m : Int)) (w.heap.size + 1) (by simp; omega)).trans HB5.out)
  clear HB HK HB4 HB5
  go_wp2_with fail
  generalize W2.setCell ⟨b, 24, none⟩ (.int .i64 (m : Int)) = W3 at *
  clear cn fn hw2 hmin
  have cn : W3.drew.cell? ⟨b, 24, none⟩ = some (.int .i64 (m : Int)) := HB3.out.count
  obtain ⟨d0, d1, d2⟩ : (∃ v, W3.drew.cell? ⟨b, m * 3, none⟩ = some v) ∧ (∃ v, W3.drew.cell? ⟨b, m * 3 + 1, none⟩ = some v) ∧ (∃ v, W3.drew.cell? ⟨b, m * 3 + 2, none⟩ = some v) := by
    obtain ⟨h1, h2, h3⟩ := HB3.out.wt (j := m) (by omega)
    exact ⟨⟨_, h1⟩, ⟨_, h2⟩, ⟨_, h3⟩⟩
  obtain ⟨v0, d0⟩ := d0
  obtain ⟨v1, d1⟩ := d1
  obtain ⟨v2, d2⟩ := d2
  have f0 : W3.drew.frozen? ⟨b, m * 3, none⟩ = false := HB3.out.free (m * 3)
  have f1 : W3.drew.frozen? ⟨b, m * 3 + 1, none⟩ = false := HB3.out.free (m * 3 + 1)
  have f2 : W3.drew.frozen? ⟨b, m * 3 + 2, none⟩ = false := HB3.out.free (m * 3 + 2)
  have m8 : (m : Int) < 8 := by omega
  have m0 : (0 : Int) ≤ (m : Int) := by omega
  have d0' : W3.cell? ⟨b, m * 3, none⟩ = some v0 := d0
  have d1' : W3.cell? ⟨b, m * 3 + 1, none⟩ = some v1 := d1
  have d2' : W3.cell? ⟨b, m * 3 + 2, none⟩ = some v2 := d2
  have f0' : W3.frozen? ⟨b, m * 3, none⟩ = false := f0
  have f1' : W3.frozen? ⟨b, m * 3 + 1, none⟩ = false := f1
  have f2' : W3.frozen? ⟨b, m * 3 + 2, none⟩ = false := f2
  go_region
  obtain ⟨W4, hW4⟩ : ∃ W4, (((W3.setCell ⟨b, m * 3, none⟩ (.int .i64 0)).setCell ⟨b, m * 3 + 1, none⟩ (.int .u64 0)).setCell ⟨b, m * 3 + 2, none⟩ (.int .i64 0)).drew = W4 := ⟨_, rfl⟩
  have q4 : QB W4 b (over A1 m [w0]) m := by rw [← hW4]; exact HB3.out.put (i := m) (by omega) w0
  have k4 : Kept (fun k => k = b) w W4 := by
    rw [← hW4]
    exact (((HK3.out.setCell (p := ⟨b, m * 3, none⟩) (.inl rfl) _).setCell (p := ⟨b, m * 3 + 1, none⟩) (.inl rfl) _).setCell (p := ⟨b, m * 3 + 2, none⟩) (.inl rfl) _).drew
  have b4 : W4.heap[w.heap.size]? = some (.cells #[.int .i64 0, .int .u64 0, .int .i64 0] 71 (0, 0)) := by
    rw [← hW4]
    show ((((W3.setCell _ _).setCell _ _).setCell _ _) : World).heap[_]? = _
    rw [Below.heap_setCell _ _ _ _ (by simp; omega), Below.heap_setCell _ _ _ _ (by simp; omega), Below.heap_setCell _ _ _ _ (by simp; omega)]; exact HB34.out
  have b5 : W4.heap[w.heap.size + 1]? = some (.cells #[.int .i64 r1, .int .u64 s1, .int .i64 p1] 71 (0, 0)) := by
    rw [← hW4]
    show ((((W3.setCell _ _).setCell _ _).setCell _ _) : World).heap[_]? = _
    rw [Below.heap_setCell _ _ _ _ (by simp; omega), Below.heap_setCell _ _ _ _ (by simp; omega), Below.heap_setCell _ _ _ _ (by simp; omega)]; exact HB35.out
  rw [hW4]
  clear hW4 cn d0 d1 d2 f0 f1 f2 d0' d1' d2' f0' f1' f2' HB3 HK3 HB34 HB35
  have e0 : W4.cell? ⟨w.heap.size + 1, 0, none⟩ = some (.int .i64 r1) := by rw [blk_cell b5]; rfl
  have e1 : W4.cell? ⟨w.heap.size + 1, 1, none⟩ = some (.int .u64 s1) := by rw [blk_cell b5]; rfl
  have e2 : W4.cell? ⟨w.heap.size + 1, 2, none⟩ = some (.int .i64 p1) := by rw [blk_cell b5]; rfl
  have g0 : W4.cell? ⟨w.heap.size, 0, none⟩ = some (.int .i64 0) := by rw [blk_cell b4]; rfl
  have g1 : W4.cell? ⟨w.heap.size, 1, none⟩ = some (.int .u64 0) := by rw [blk_cell b4]; rfl
  have g2 : W4.cell? ⟨w.heap.size, 2, none⟩ = some (.int .i64 0) := by rw [blk_cell b4]; rfl
  have f0 := blk_free b4 0
  have f1 := blk_free b4 1
  have f2 := blk_free b4 2
  have HF : Hid (QB (((W4.setCell ⟨w.heap.size, 0, none⟩ (.int .i64 r1)).setCell ⟨w.heap.size, 1, none⟩ (.int .u64 s1)).setCell ⟨w.heap.size, 2, none⟩ (.int .i64 p1)) b (takA A (m + 1) i) m ∧ Kept (fun k => k = b) w (((W4.setCell ⟨w.heap.size, 0, none⟩ (.int .i64 r1)).setCell ⟨w.heap.size, 1, none⟩ (.int .u64 s1)).setCell ⟨w.heap.size, 2, none⟩ (.int .i64 p1))) := by
    refine ⟨?_, ((k4.setCell (p := ⟨w.heap.size, 0, none⟩) (.inr (Nat.le_refl _)) _).setCell (p := ⟨w.heap.size, 1, none⟩) (.inr (Nat.le_refl _)) _).setCell (p := ⟨w.heap.size, 2, none⟩) (.inr (Nat.le_refl _)) _⟩
    unfold takA
    rw [← hk, HA1.out]
    exact q4.kept (X := fun k => k = w.heap.size) ((((Kept.refl (fun k => k = w.heap.size) W4).setCell (p := ⟨w.heap.size, 0, none⟩) (.inl rfl) _).setCell (p := ⟨w.heap.size, 1, none⟩) (.inl rfl) _).setCell (p := ⟨w.heap.size, 2, none⟩) (.inl rfl) _) (by omega)
  clear q4 k4 b4 b5 HA1
  go_wp2
  refine bodyPost_ret (v := .agg #[.int .i64 r1, .int .u64 s1, .int .i64 p1]) (by simp [results, Tryd.results75, go_sem, g0, g1, g2]) rfl ⟨rfl, HF.out⟩

theorem over_get {A B : List Wt} {i : Nat} (hi : i + B.length ≤ A.length) (j : Nat) : (over A i B)[j]? = if j < i then A[j]? else if j < i + B.length then B[j - i]? else A[j]? := by
  unfold over
  have h1 : (A.take i).length = i := by rw [List.length_take]; omega
  by_cases h : j < i
  · rw [if_pos h, List.getElem?_append_left (by omega), List.getElem?_take, if_pos h]
  · rw [if_neg h, List.getElem?_append_right (by omega), h1]
    by_cases h2 : j < i + B.length
    · rw [if_pos h2, List.getElem?_append_left (by omega)]
    · rw [if_neg h2, List.getElem?_append_right (by omega), List.getElem?_drop]
      congr 1; omega
theorem pad_get? {l : List Wt} (hl : l.length ≤ 8) (j : Nat) : (pad l)[j]? = if j < l.length then l[j]? else if j < 8 then some w0 else none := by
  unfold pad
  by_cases h : j < l.length
  · rw [if_pos h, List.getElem?_append_left h]
  · rw [if_neg h, List.getElem?_append_right (by omega), List.getElem?_replicate]
    by_cases h2 : j < 8
    · rw [if_pos h2, if_pos (by omega)]
    · rw [if_neg h2, if_neg (by omega)]
theorem takA_pad {l : List Wt} (hl : l.length ≤ 8) {i : Nat} (hi : i < l.length) : takA (pad l) l.length i = pad (l.eraseIdx i) := by
  have h8 := pad_length hl
  have hk : (((pad l).drop (i + 1)).take (l.length - (i + 1))).length = l.length - (i + 1) := by rw [List.length_take, List.length_drop, h8]; omega
  have he : (l.eraseIdx i).length = l.length - 1 := by rw [List.length_eraseIdx, if_pos hi]
  apply List.ext_getElem?
  intro j
  unfold takA
  rw [over_get (by rw [over_length (by rw [hk, h8]; omega), h8]; simp; omega), over_get (by rw [hk, h8]; omega), hk, pad_get? (l := l.eraseIdx i) (by omega), he, List.getElem?_take, List.getElem?_drop, pad_get? hl, pad_get? hl, List.getElem?_eraseIdx]
  by_cases c1 : j < i
  · rw [if_pos (by omega), if_pos c1, if_pos (by omega), if_pos (by omega), if_pos c1]
  · by_cases c2 : j < l.length - 1
    · rw [if_pos c2, if_neg c1, if_pos (by omega), if_pos (by omega), if_pos (by omega), if_pos c2, if_neg c1]
      congr 1; omega
    · by_cases c3 : j = l.length - 1
      · subst c3
        rw [if_neg (by omega), if_pos (by simp), if_neg (by omega), if_pos (by omega)]
        simp
      · have n2 : ¬ j < l.length - 1 + [w0].length := by simp; omega
        have n3 : ¬ j < i + (l.length - (i + 1)) := by omega
        have n4 : ¬ j < l.length := by omega
        simp only [if_neg c2, if_neg n2, if_neg c1, if_neg n3, if_neg n4]
theorem insA_pad {l : List Wt} (hl : l.length ≤ 7) (y : Wt) {i : Nat} (hi : i ≤ l.length) : over (over (pad l) (i + 1) (((pad l).drop i).take (l.length - i))) i [y] = pad (l.take i ++ y :: l.drop i) := by
  have h8 := pad_length (l := l) (by omega)
  have hk : (((pad l).drop i).take (l.length - i)).length = l.length - i := by rw [List.length_take, List.length_drop, h8]; omega
  have he : (l.take i ++ y :: l.drop i).length = l.length + 1 := by simp; omega
  have ht : (l.take i).length = i := by rw [List.length_take]; omega
  apply List.ext_getElem?
  intro j
  rw [over_get (by rw [over_length (by rw [hk, h8]; omega), h8]; simp; omega), over_get (by rw [hk, h8]; omega), hk, pad_get? (l := l.take i ++ y :: l.drop i) (by omega), he, List.getElem?_take, List.getElem?_drop, pad_get? (l := l) (by omega), pad_get? (l := l) (by omega)]
  by_cases c1 : j < i
  · rw [if_pos c1, if_pos (by omega), if_pos (by omega), if_pos (by omega), List.getElem?_append_left (by omega), List.getElem?_take, if_pos c1]
  · by_cases c2 : j = i
    · subst c2
      rw [if_neg c1, if_pos (by simp), if_pos (by omega), List.getElem?_append_right (by omega), ht, Nat.sub_self]
      rfl
    · by_cases c3 : j < l.length + 1
      · rw [if_neg c1, if_neg (by simp; omega), if_neg (by omega), if_pos (by omega), if_pos (by omega), if_pos (by omega), if_pos c3, List.getElem?_append_right (by omega), ht]
        obtain ⟨d, hd⟩ : ∃ d, j - i = d + 1 := ⟨j - i - 1, by omega⟩
        rw [hd, List.getElem?_cons_succ, List.getElem?_drop]
        congr 1; omega
      · rw [if_neg c1, if_neg (by simp; omega), if_neg (by omega), if_neg (by omega), if_neg (by omega), if_neg c3]
theorem take_any {w : World} {b : Nat} {l : List Wt} {i : Nat} (h : QAt w b l) (hi : i < l.length) :
    Calls Tryd.prog 75 #[.pointer (some ⟨b, 0, none⟩), .int .i64 (i : Nat)] w fun e w' => e = .returned (wv (l.getD i w0)) ∧ QAt w' b (l.eraseIdx i) ∧ Kept (fun k => k = b) w w' := by
  refine (take_q h.2 hi h.1).mono ?_
  rintro e w' ⟨rfl, h1, h2⟩
  have he : (l.eraseIdx i).length = l.length - 1 := by rw [List.length_eraseIdx, if_pos hi]
  rw [takA_pad h.1 hi] at h1
  exact ⟨by rw [pad_get hi], ⟨by have := h.1; omega, by rw [he]; exact h1⟩, h2⟩

set_option maxHeartbeats 2000000 in
theorem ins_any {w : World} {b : Nat} {l : List Wt} (h : QAt w b l) (hl : l.length ≤ 7) (y : Wt) :
    Calls Tryd.prog 76 #[.pointer (some ⟨b, 0, none⟩), wv y] w fun e w' => e = .returned (.tuple #[]) ∧ QAt w' b (ins y l) ∧ Kept (fun k => k = b) w w' := by
  have hbl := h.lt
  obtain ⟨i, hi⟩ : ∃ i, i = plI (fore y) l := ⟨_, rfl⟩
  have hil : i ≤ l.length := by rw [hi]; exact List.findIdx_le_length
  obtain ⟨t0, ht0⟩ : ∃ t0, t0 = plB (fore y) l := ⟨_, rfl⟩
  have hins : ins y l = l.take i ++ y :: l.drop i := by rw [hi]; rfl
  have HC : Hid (Calls Tryd.prog 73 #[.pointer (some ⟨b, 0, none⟩), .func (.func 82) #[] #[.pointer (some ⟨w.heap.size, 0, none⟩)]] (w.alloc (.cells #[.int .i64 y.r, .int .u64 y.s, .int .i64 y.p] 71)) fun e w' => e = .returned (.tuple #[.int .i64 (i : Nat), .bool t0]) ∧ w'.heap[w.heap.size]? = some (.cells #[.int .i64 y.r, .int .u64 y.s, .int .i64 y.p] 71 (0, 0)) ∧ QB w' b (pad l) l.length ∧ Kept (fun k => k = b) w w') := by
    have h1 := World.alloc_heap_new w (.cells #[.int .i64 y.r, .int .u64 y.s, .int .i64 y.p] 71)
    have h2 : QAt (w.alloc (.cells #[.int .i64 y.r, .int .u64 y.s, .int .i64 y.p] 71)) b l := h.kept (X := fun _ => False) ((Kept.refl _ w).alloc _) id
    refine (place_ins (.inr ⟨b, rfl, h2⟩) h1).mono ?_
    rintro e w' ⟨rfl, h3⟩
    have k1 : Kept (fun _ => False) w w' := ((Kept.refl _ w).alloc _).trans (Kept.of_below h3 (Nat.le_refl _)) (fun _ _ h => h)
    exact ⟨by rw [hi, ht0], (h3.block _ (blk_lt h1)).trans h1, h.2.kept k1 id, k1.mono (fun _ _ h => h.elim)⟩
  obtain ⟨P, hP⟩ : ∃ P : Ending → World → Prop, P = fun e w' => e = .returned (.tuple #[]) ∧ QAt w' b (ins y l) ∧ Kept (fun k => k = b) w w' := ⟨_, rfl⟩
  have HQ : Hid (∀ w', QB w' b (over (over (pad l) (i + 1) (((pad l).drop i).take (l.length - i))) i [y]) (l.length + 1) → Kept (fun k => k = b) w w' → P (.returned (.tuple #[])) w') := by
    rw [hP]
    intro w' h1 h2
    rw [insA_pad hl y hil, ← hins] at h1
    exact ⟨rfl, ⟨by rw [ins_length]; omega, by rw [ins_length]; exact h1⟩, h2⟩
  rw [← hP]
  clear hP h hi ht0 hins
  have H8 := Lib.hid (pad_length (l := l) (by omega))
  obtain ⟨r1, s1, p1⟩ := y
  simp only [wv] at HC ⊢
  generalize pad l = A at *
  generalize l.length = n at *
  go_enter Tryd.func76, Tryd.ntmps76
  go_wp2_with fail
  refine HC.out.mono ?_
  rintro e W1 ⟨rfl, b3, q1, k1⟩
  have Q1 := Lib.hid q1
  have K1 := Lib.hid k1
  have B3 := Lib.hid b3
  have cn : W1.cell? ⟨b, 24, none⟩ = some (.int .i64 (n : Nat)) := q1.count
  clear q1 k1 b3 HC
  go_wp2_with fail
  obtain ⟨k, hk⟩ : ∃ k, k = n - i := ⟨_, rfl⟩
  have hw : IntKind.i64.wrap ((i : Int) + 1) = (i : Int) + 1 := IntWalk.i64_in _ (by omega)
  obtain ⟨S1, hS1, sl1⟩ := slice_lo b (i + 1) (by omega)
  rw [show ((i + 1 : Nat) : Int) = (i : Int) + 1 by push_cast; rfl] at sl1
  obtain ⟨S2, hS2, sl2⟩ := slice_lh b i n (by omega) (by omega)
  obtain rfl := hS2 (by omega)
  have hdst : Hid (0 < k → some S1 = some (⟨b, (i + 1) * 3, none⟩ : Addr)) := fun hk0 => by rw [hS1 (by omega)]
  have hsrc : Hid (∀ j v, (csA ((A.drop i).take k))[j]? = some v → W1.drew.cell? ((⟨b, i * 3, none⟩ : Addr).add j) = some v) := Q1.out.src (w := W1) (k := k) (by omega)
  have hsom : Hid (∀ j, j < (csA ((A.drop i).take k)).length → (W1.drew.cell? ⟨b, (i + 1) * 3 + j, none⟩).isSome = true ∧ W1.drew.frozen? ⟨b, (i + 1) * 3 + j, none⟩ = false) := by
    intro j hj
    rw [csA_length, List.length_take, List.length_drop, Q1.out.1] at hj
    exact Q1.out.some (by omega)
  have hlen : Hid ((csA ((A.drop i).take k)).length = k * 3) := by
    have := Q1.out.1
    show _ = _
    rw [csA_length, List.length_take, List.length_drop, this, Nat.min_eq_left (by omega)]
  have hmin : Hid (k = Nat.min (n - i) (8 - (i + 1))) := by
    show k = min _ _
    rw [Nat.min_eq_left (by omega), hk]
  have hone := Lib.hid (csA_one ((A.drop i).take k))
  have HB := Lib.hid (show QB (W1.drew.setCells b ((i + 1) * 3) (csA ((A.drop i).take k))) b (over A (i + 1) ((A.drop i).take k)) n from
    QB.laid (w := W1.drew) Q1.out (by have := Q1.out.1; simp; omega) rfl)
  have HK := Lib.hid ((K1.out.drew).trans (setCells_kept (csA ((A.drop i).take k)) W1.drew b ((i + 1) * 3)) (fun _ _ h => h))
  clear hS2 hS1
  obtain ⟨A1, hA1⟩ : ∃ A1, over A (i + 1) ((A.drop i).take k) = A1 := ⟨_, rfl⟩
  rw [hA1] at HB
  rw [← hk, hA1] at HQ
  clear hA1
  generalize csA ((A.drop i).take k) = cs at *
  go_region_law (refine step_copy_set rfl (.tmp 17) (.tmp 26) 68 68 rfl 71 Tryd.underlying68 3 Tryd.infoWt (some S1) (some ⟨b, i * 3, none⟩) (8 - (i + 1)) (8 - (i + 1)) (n - i) (8 - i) k (by simp [Act.eval, Act.put]) (by simp [Act.eval, Act.put]) hmin.out b ((i + 1) * 3) cs hlen.out (fun h0 => ⟨hdst.out h0, _, rfl, hsrc.out⟩) hsom.out hone.out ?_)
  have HB3 : Hid ((W1.drew.setCells b ((i + 1) * 3) cs).heap[w.heap.size]? = some (.cells #[.int .i64 r1, .int .u64 s1, .int .i64 p1] 71 (0, 0))) := by
    have := (setCells_kept cs W1.drew b ((i + 1) * 3)).block w.heap.size (blk_lt (w := W1) B3.out) (by omega)
    exact this.trans B3.out
  generalize W1.drew.setCells b ((i + 1) * 3) cs = W2 at *
  clear cn K1 Q1 B3 hsrc hsom hlen hone hmin hdst sl1 sl2
  go_wp2_with fail
  have hQ2 : QB W2.drew b A1 n := HB.out
  obtain ⟨d0, d1, d2⟩ : (∃ v, W2.cell? ⟨b, i * 3, none⟩ = some v) ∧ (∃ v, W2.cell? ⟨b, i * 3 + 1, none⟩ = some v) ∧ (∃ v, W2.cell? ⟨b, i * 3 + 2, none⟩ = some v) := by
    obtain ⟨h1, h2, h3⟩ := HB.out.wt (j := i) (by omega)
    exact ⟨⟨_, h1⟩, ⟨_, h2⟩, ⟨_, h3⟩⟩
  obtain ⟨v0, d0⟩ := d0
  obtain ⟨v1, d1⟩ := d1
  obtain ⟨v2, d2⟩ := d2
  have f0 : W2.frozen? ⟨b, i * 3, none⟩ = false := HB.out.free (i * 3)
  have f1 : W2.frozen? ⟨b, i * 3 + 1, none⟩ = false := HB.out.free (i * 3 + 1)
  have f2 : W2.frozen? ⟨b, i * 3 + 2, none⟩ = false := HB.out.free (i * 3 + 2)
  have g0 : W2.cell? ⟨w.heap.size, 0, none⟩ = some (.int .i64 r1) := by rw [blk_cell HB3.out]; rfl
  have g1 : W2.cell? ⟨w.heap.size, 1, none⟩ = some (.int .u64 s1) := by rw [blk_cell HB3.out]; rfl
  have g2 : W2.cell? ⟨w.heap.size, 2, none⟩ = some (.int .i64 p1) := by rw [blk_cell HB3.out]; rfl
  have d0' : W2.drew.cell? ⟨b, i * 3, none⟩ = some v0 := d0
  have d1' : W2.drew.cell? ⟨b, i * 3 + 1, none⟩ = some v1 := d1
  have d2' : W2.drew.cell? ⟨b, i * 3 + 2, none⟩ = some v2 := d2
  have f0' : W2.drew.frozen? ⟨b, i * 3, none⟩ = false := f0
  have f1' : W2.drew.frozen? ⟨b, i * 3 + 1, none⟩ = false := f1
  have f2' : W2.drew.frozen? ⟨b, i * 3 + 2, none⟩ = false := f2
  have g0' : W2.drew.cell? ⟨w.heap.size, 0, none⟩ = some (.int .i64 r1) := g0
  have g1' : W2.drew.cell? ⟨w.heap.size, 1, none⟩ = some (.int .u64 s1) := g1
  have g2' : W2.drew.cell? ⟨w.heap.size, 2, none⟩ = some (.int .i64 p1) := g2
  have i8 : (i : Int) < 8 := by omega
  have i0 : (0 : Int) ≤ (i : Int) := by omega
  clear hQ2
  go_region
  obtain ⟨W3, hW3⟩ : ∃ W3, (((W2.setCell ⟨b, i * 3, none⟩ (.int .i64 r1)).setCell ⟨b, i * 3 + 1, none⟩ (.int .u64 s1)).setCell ⟨b, i * 3 + 2, none⟩ (.int .i64 p1)).drew = W3 := ⟨_, rfl⟩
  have q3 : QB W3 b (over A1 i [⟨r1, s1, p1⟩]) n := by rw [← hW3]; exact HB.out.put (i := i) (by omega) ⟨r1, s1, p1⟩
  have k3 : Kept (fun k => k = b) w W3 := by
    rw [← hW3]
    exact (((HK.out.setCell (p := ⟨b, i * 3, none⟩) (.inl rfl) _).setCell (p := ⟨b, i * 3 + 1, none⟩) (.inl rfl) _).setCell (p := ⟨b, i * 3 + 2, none⟩) (.inl rfl) _).drew
  rw [hW3]
  clear hW3 d0 d1 d2 f0 f1 f2 d0' d1' d2' f0' f1' f2' g0 g1 g2 g0' g1' g2' HB HK HB3
  have cn : W3.cell? ⟨b, 24, none⟩ = some (.int .i64 (n : Int)) := q3.count
  have fn := q3.free 24
  have hw2 : IntKind.i64.wrap ((n : Int) + 1) = (n : Int) + 1 := IntWalk.i64_in _ (by omega)
  have HF := Lib.hid (HQ.out _ (q3.counted (n + 1)) (k3.setCell (p := ⟨b, 24, none⟩) (.inl rfl) _))
  rw [show ((n + 1 : Nat) : Int) = (n : Int) + 1 by push_cast; rfl] at HF
  clear q3 k3 HQ
  go_wp2
  exact bodyPost_end (results_none rfl _ _ _) rfl HF.out
end Go.Proofs.YtlmbbnkdiokabaaDoor
