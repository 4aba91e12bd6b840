/-
  One waits for a cell that another one holds.
-/
import Derived.Test.YtlmbbnkdiokabaaDoorLg9
namespace Go.Proofs.YtlmbbnkdiokabaaDoor
set_option maxRecDepth 100000
set_option linter.unusedSimpArgs false
open Go Go.RowKit Sp Lg

namespace Lg
def awS (s : S) (c : Int) (y : Wt) : S := s.setQ c (putL y (s.Q c))
def awO (s : S) (c : Int) (y : Wt) (q : Dn) : Dn :=
  if putB y (s.Q c) then ((q.post ⟨y.r, ⟨5, c, 0, y.s, 0, (s.E c).r⟩⟩).post ⟨(s.E c).r, ⟨8, c, 0, 0, ((putL y (s.Q c)).getD 0 w0).p, 0⟩⟩).post ⟨(s.E c).r, ⟨10, c, (s.E c).g, 0, 0, 0⟩⟩
  else q.post ⟨y.r, ⟨5, c, 0, y.s, 0, -1⟩⟩
theorem ins_ne (y : Wt) (l : List Wt) : ins y l ≠ [] := fun e => by have := ins_length y l; rw [e] at this; simp at this
theorem putL_ne (y : Wt) (l : List Wt) : putL y l ≠ [] ∨ (l = [] ∧ putL y l = []) := by
  unfold putL
  split
  · rename_i h
    have : l ≠ [] := by intro e; subst e; simp [Sp.has, idx] at h
    split
    · exact .inl this
    · exact .inl (ins_ne _ _)
  · split
    · rename_i h; left; intro e; rw [e] at h; simp at h
    · exact .inl (ins_ne _ _)
theorem putL_nil (y : Wt) : putL y [] = [y] ∧ putB y [] = true := by
  refine ⟨?_, ?_⟩ <;> simp [putL, putB, Sp.has, idx, ins]
theorem putL_ne' (y : Wt) (l : List Wt) : putL y l ≠ [] := by
  rcases putL_ne y l with h | ⟨rfl, h⟩
  · exact h
  · rw [(putL_nil y).1] at h; cases h
theorem mem_putL {y x : Wt} {l : List Wt} (h : x ∈ putL y l) : x = y ∨ x ∈ l := by
  unfold putL at h
  split at h
  · split at h
    · exact .inr h
    · rcases mem_ins.1 h with e | e
      · exact .inl e
      · exact .inr (List.mem_of_mem_eraseIdx e)
  · split at h
    · exact .inr h
    · rcases mem_ins.1 h with e | e
      · exact .inl e
      · exact .inr e
/-- One that may wait. -/
structure MayW (s : S) (c : Int) (y : Wt) : Prop where
  r : s.has y.r = true
  ne : y.r ≠ (s.E c).r
  s0 : 0 ≤ y.s
  s1 : y.s ≤ 18446744073709551615
  p0 : 0 ≤ y.p
  p1 : y.p ≤ 15
theorem MayW.may {s : S} {c : Int} {y : Wt} (h : MayW s c y) (hok : Ok s) : Sp.may y = true := by
  have h1 := h.r
  have h2 := hok.R1
  have h3 := h.p0
  have h4 := h.p1
  unfold S.has at h1
  simp only [Bool.and_eq_true, decide_eq_true_eq] at h1
  unfold Sp.may
  simp only [Bool.and_eq_true, decide_eq_true_eq]
  omega
theorem Ok.put {s : S} (h : Ok s) {c : Int} (hc : s.is c = true) {y : Wt} (hy : MayW s c y) : Ok (s.setQ c (putL y (s.Q c))) := by
  refine h.setQ (.inl hc) ((h.q c).put y) (fun x hx => ?_)
  rcases mem_putL hx with rfl | hx
  · exact ⟨hy.r, hy.ne, hy.s0, hy.s1, hy.p0, hy.p1⟩
  · exact h.qr c x hx
end Lg

theorem zeroQ (w : World) : QAt (w.alloc (.cells #[.int .i64 0, .int .u64 0, .int .i64 0, .int .i64 0, .int .u64 0, .int .i64 0, .int .i64 0, .int .u64 0, .int .i64 0, .int .i64 0, .int .u64 0, .int .i64 0, .int .i64 0, .int .u64 0, .int .i64 0, .int .i64 0, .int .u64 0, .int .i64 0, .int .i64 0, .int .u64 0, .int .i64 0, .int .i64 0, .int .u64 0, .int .i64 0, .int .i64 0] 134)) w.heap.size [] := ⟨by simp, by simp [pad], by
  have := World.alloc_heap_new w (.cells #[.int .i64 0, .int .u64 0, .int .i64 0, .int .i64 0, .int .u64 0, .int .i64 0, .int .i64 0, .int .u64 0, .int .i64 0, .int .i64 0, .int .u64 0, .int .i64 0, .int .i64 0, .int .u64 0, .int .i64 0, .int .i64 0, .int .u64 0, .int .i64 0, .int .i64 0, .int .u64 0, .int .i64 0, .int .i64 0, .int .u64 0, .int .i64 0, .int .i64 0] 134)
  rw [this]; rfl⟩
section
variable {w : World} {b me mq N B o : Nat} {P : Int → Option Nat} {s : S} {v : OV} {q : Dn}
theorem OutP.keptN (h : OutP w B o v q) {w' : World} {X : Nat → Prop} (hk : Kept X w w') (hX : ∀ k t, X k → k < w.heap.size → Typ w k t → t = 134) : OutP w' B o v q := by
  obtain ⟨h1, h2, ws, h3, h4⟩ := h
  refine ⟨h1, Nat.le_trans h2 hk.size, ws, h3, h4.kept hk (fun k hk e => ?_) (fun k hk e => ?_)⟩
  · obtain ⟨⟨t, ht⟩, _, hlt⟩ := h4.some_typ hk
    have e1 := hX k t e hlt ht
    subst e1
    rcases h4.typ hk ht with e | e | e | e <;> exact absurd e (by decide)
  · obtain ⟨cur, f, hc⟩ := hk
    exact absurd (hX k _ e (blk_lt hc) ⟨cur, f, hc⟩) (by decide)
set_option maxHeartbeats 4000000 in
theorem await_any (h : LO w b me mq P N s B o v q) {c : Int} (hc : s.is c = true) (y : Wt) (hy : MayW s c y) (hN : N < 99999990) {n : Nat} (hq : q.le n) (hn : n < 999990) :
    Calls Tryd.prog 44 #[.pointer (some ⟨b, 0, none⟩), .pointer (some ⟨o, 0, none⟩), .int .i64 c, wv y] w fun e w' => e = .returned (.tuple #[]) ∧ StepLO w w' b me mq P (N + 1) (awS s c y) B o v (awO s c y q) := by
  obtain ⟨R, hR⟩ : ∃ R : Ending → World → Prop, R = fun e w' => e = .returned (.tuple #[]) ∧ StepLO w w' b me mq P (N + 1) (awS s c y) B o v (awO s c y q) := ⟨_, rfl⟩
  have HR : Hid (∀ w', StepLO w w' b me mq P (N + 1) (awS s c y) B o v (awO s c y q) → R (.returned (.tuple #[])) w') := by rw [hR]; exact fun w' h1 => ⟨rfl, h1⟩
  rw [← hR]
  clear hR
  have hci := h.led.ok.i64 hc
  have hmay := hy.may h.led.ok
  have hok' := h.led.ok.put hc hy
  obtain ⟨o1, ho1⟩ : ∃ o1 : Obj, o1 = .cells #[.int .i64 y.r, .int .u64 y.s, .int .i64 y.p] 71 := ⟨_, rfl⟩
  have k1 : (w.alloc o1).heap[w.heap.size]? = some o1 := World.alloc_heap_new w o1
  have hb1 := alloc_below w o1
  have h1 := h.below hb1
  have hnA := box_ne h (k := w.heap.size) (Nat.le_refl _)
  -- behind Put
  have HD : Hid (∀ (W3 : World) (P3 : Int → Option Nat) (oq : Nat), LedAt W3 b me mq P3 (N + 1) (awS s c y) → OutP W3 B o v q → P3 c = some oq → (∀ d k, P3 d = some k → P d = some k ∨ w.heap.size ≤ k) → Kept (fun k => LX b me mq P k ∨ OfO o v k) w W3 → W3.heap[w.heap.size]? = some o1 →
      (W3.cell? ⟨w.heap.size, 0, none⟩ = some (.int .i64 y.r) ∧ W3.cell? ⟨w.heap.size, 1, none⟩ = some (.int .u64 y.s) ∧ W3.cell? ⟨w.heap.size, 2, none⟩ = some (.int .i64 y.p)) ∧
      (putB y (s.Q c) = false → Calls Tryd.prog 61 #[.pointer (some ⟨o, 0, none⟩), .int .i64 c, .agg #[.int .i64 y.r, .int .u64 y.s, .int .i64 y.p], .int .i64 (-1)] W3 fun e w' => e = .returned (.tuple #[]) ∧ R (.returned (.tuple #[])) w') ∧
      (putB y (s.Q c) = true → Calls Tryd.prog 41 #[.pointer (some ⟨b, 0, none⟩), .int .i64 c] W3 fun e W4 => e = .returned (.agg #[.int .i64 (s.E c).r, .int .u32 (s.E c).g]) ∧
        ∀ oe : Obj, oe = .cells #[.int .i64 (s.E c).r, .int .u32 (s.E c).g] 81 → Calls Tryd.prog 64 #[.pointer (some ⟨oq, 0, none⟩)] (W4.alloc oe) fun e W5 => (∃ f0 f1, e = .returned (.tuple #[.agg #[.int .i64 f0, .int .u64 f1, .int .i64 ((putL y (s.Q c)).getD 0 w0).p], .bool true]) ∧
          ∀ ow : Obj, ow = .cells #[.int .i64 f0, .int .u64 f1, .int .i64 ((putL y (s.Q c)).getD 0 w0).p] 71 → ((W5.alloc ow).cell? ⟨w.heap.size, 0, none⟩ = some (.int .i64 y.r) ∧ (W5.alloc ow).cell? ⟨w.heap.size, 1, none⟩ = some (.int .u64 y.s) ∧ (W5.alloc ow).cell? ⟨w.heap.size, 2, none⟩ = some (.int .i64 y.p)) ∧ (W5.alloc ow).cell? ⟨W4.heap.size, 0, none⟩ = some (.int .i64 (s.E c).r) ∧
            Calls Tryd.prog 61 #[.pointer (some ⟨o, 0, none⟩), .int .i64 c, .agg #[.int .i64 y.r, .int .u64 y.s, .int .i64 y.p], .int .i64 (s.E c).r] (W5.alloc ow) fun e W7 => e = .returned (.tuple #[]) ∧ W7.cell? ⟨W4.heap.size, 0, none⟩ = some (.int .i64 (s.E c).r) ∧ W7.cell? ⟨W5.heap.size, 2, none⟩ = some (.int .i64 ((putL y (s.Q c)).getD 0 w0).p) ∧
              Calls Tryd.prog 60 #[.pointer (some ⟨o, 0, none⟩), .int .i64 (s.E c).r, mgv 8 c 0 0 ((putL y (s.Q c)).getD 0 w0).p 0] W7 fun e W8 => e = .returned (.tuple #[]) ∧ W8.cell? ⟨W4.heap.size, 0, none⟩ = some (.int .i64 (s.E c).r) ∧ W8.cell? ⟨W4.heap.size, 1, none⟩ = some (.int .u32 (s.E c).g) ∧
                Calls Tryd.prog 60 #[.pointer (some ⟨o, 0, none⟩), .int .i64 (s.E c).r, mgv 10 c (s.E c).g 0 0 0] W8 fun e W9 => e = .returned (.tuple #[]) ∧ R (.returned (.tuple #[])) W9))) := by
    intro W3 P3 oq hL hO hP3 hown hK hbx
    have hbx' := hbx
    rw [ho1] at hbx'
    have hLO : LO W3 b me mq P3 (N + 1) (awS s c y) B o v q := ⟨hL, hO⟩
    have hst : StepLO w W3 b me mq P (N + 1) (awS s c y) B o v q := ⟨P3, N + 1, v, hLO, Nat.le_refl _, hown, fun _ e => .inl e, hK⟩
    refine ⟨⟨by rw [blk_cell hbx']; rfl, by rw [blk_cell hbx']; rfl, by rw [blk_cell hbx']; rfl⟩, fun hf => ?_, fun ht => ?_⟩
    · refine (deny_p hO hq (by omega) c y (-1)).mono ?_
      rintro e w' ⟨rfl, hz⟩
      refine ⟨rfl, HR.out w' ?_⟩
      have : awO s c y q = q.post ⟨y.r, ⟨5, c, 0, y.s, 0, -1⟩⟩ := by unfold awO; rw [hf]; rfl
      rw [this]
      exact StepLO.trans hown (fun _ e => .inl e) hK (hLO.out_step hz (Nat.le_refl _))
    · have hE : (awS s c y).E c = s.E c := rfl
      have hQ : (awS s c y).Q c = putL y (s.Q c) := by show (if c = c then _ else _) = _; rw [if_pos rfl]
      refine (entry_any hL hci).mono ?_
      rintro e W4 ⟨rfl, hb4⟩
      rw [hE]
      refine ⟨rfl, fun oe hoe => ?_⟩
      have hb5 : Below W3.heap.size W3 (W4.alloc oe) := hb4.trans ((alloc_below W4 oe).mono hb4.size)
      have hqp : QP (W4.alloc oe) (some ⟨oq, 0, none⟩) (putL y (s.Q c)) := by
        have := (hL.below hb5).qp c
        rw [hP3, hQ] at this
        exact this
      refine (first_any hqp).mono ?_
      rintro e W5 ⟨rfl, hb6⟩
      have hpos : 0 < (putL y (s.Q c)).length := List.length_pos_iff.2 (putL_ne' _ _)
      refine ⟨((putL y (s.Q c)).getD 0 w0).r, ((putL y (s.Q c)).getD 0 w0).s, by rw [decide_eq_true hpos]; rfl, fun ow how => ?_⟩
      have hb7 : Below W3.heap.size W3 (W5.alloc ow) := (hb5.trans (hb6.mono hb5.size)).trans ((alloc_below W5 ow).mono (Nat.le_trans hb5.size hb6.size))
      have s34 : W3.heap.size ≤ W4.heap.size := hb4.size
      have s45 : W4.heap.size + 1 ≤ W5.heap.size := by have := hb6.size; simpa using this
      have jy : (W5.alloc ow).heap[w.heap.size]? = some o1 := (hb7.block _ (blk_lt hbx)).trans hbx
      have je : (W5.alloc ow).heap[W4.heap.size]? = some oe := heap_up ((hb6.block W4.heap.size (by simp)).trans (World.alloc_heap_new W4 oe))
      have jw : (W5.alloc ow).heap[W5.heap.size]? = some ow := World.alloc_heap_new W5 ow
      have jy' := jy
      have je' := je
      rw [ho1] at jy'
      rw [hoe] at je'
      refine ⟨⟨by rw [blk_cell jy']; rfl, by rw [blk_cell jy']; rfl, by rw [blk_cell jy']; rfl⟩, by rw [blk_cell je']; rfl, ?_⟩
      have hL7 := hLO.below hb7
      have ne_e := box_ne hLO (k := W4.heap.size) s34
      have ne_w := box_ne hLO (k := W5.heap.size) (by omega)
      refine (deny_p hL7.out hq (by omega) c y (s.E c).r).mono ?_
      rintro e W7 ⟨rfl, hz7⟩
      obtain ⟨v7, ho7, hk7, hv7⟩ := hz7
      have s57 : W5.heap.size + 1 ≤ W7.heap.size := by have := hk7.size; simpa using this
      have je7 : W7.heap[W4.heap.size]? = some oe := (hk7.block _ (blk_lt je) (fun e => ne_e (.inr e))).trans je
      have jw7 : W7.heap[W5.heap.size]? = some ow := (hk7.block _ (blk_lt jw) (fun e => ne_w (.inr e))).trans jw
      have je7' := je7
      have jw7' := jw7
      rw [hoe] at je7'
      rw [how] at jw7'
      refine ⟨rfl, by rw [blk_cell je7']; rfl, by rw [blk_cell jw7']; rfl, ?_⟩
      obtain ⟨P7, N7, v7', hL7', hN7, hP7, hv7', hK7⟩ : StepLO w W7 b me mq P (N + 1) (awS s c y) B o v (q.post ⟨y.r, ⟨5, c, 0, y.s, 0, (s.E c).r⟩⟩) := StepLO.trans hown (fun _ e => .inl e) hK (StepLO.of_below hb7 (hL7.out_step ⟨v7, ho7, hk7, hv7⟩ (Nat.le_refl _)))
      refine (post_p ho7 (hq.post _) (by omega) (s.E c).r 8 c 0 0 ((putL y (s.Q c)).getD 0 w0).p 0).mono ?_
      rintro e W8 ⟨rfl, hz8⟩
      obtain ⟨v8, ho8, hk8, hv8⟩ := hz8
      have nv7 : ∀ k, W3.heap.size ≤ k → k < W5.heap.size + 1 → ¬ OfO o v7 k := by
        intro k e1 e2 e3
        rcases hv7 k e3 with e | e
        · have := (hO.lt e).2; omega
        · simp only [World.size_alloc] at e; omega
      have je8 : W8.heap[W4.heap.size]? = some oe := (hk8.block _ (blk_lt je7) (nv7 _ s34 (by omega))).trans je7
      have je8' := je8
      rw [hoe] at je8'
      refine ⟨rfl, by rw [blk_cell je8']; rfl, by rw [blk_cell je8']; rfl, ?_⟩
      refine (post_p ho8 ((hq.post _).post _) (by omega) (s.E c).r 10 c (s.E c).g 0 0 0).mono ?_
      rintro e W9 ⟨rfl, hz9⟩
      refine ⟨rfl, HR.out W9 ?_⟩
      have : awO s c y q = ((q.post ⟨y.r, ⟨5, c, 0, y.s, 0, (s.E c).r⟩⟩).post ⟨(s.E c).r, ⟨8, c, 0, 0, ((putL y (s.Q c)).getD 0 w0).p, 0⟩⟩).post ⟨(s.E c).r, ⟨10, c, (s.E c).g, 0, 0, 0⟩⟩ := by unfold awO; rw [ht]; rfl
      rw [this]
      -- the three steps of what is done
      have hLa : LO W7 b me mq P3 (N + 1) (awS s c y) B o v7 (q.post ⟨y.r, ⟨5, c, 0, y.s, 0, (s.E c).r⟩⟩) := ⟨hL7.led.kept hk7 (fun k hk e => hL7.apart hk e) hL7.out.ng, ho7⟩
      have hLb : LO W8 b me mq P3 (N + 1) (awS s c y) B o v8 _ := ⟨hLa.led.kept hk8 (fun k hk e => hLa.apart hk e) hLa.out.ng, ho8⟩
      have t2 := hLb.out_step hz9 (Nat.le_refl (N + 1))
      have t1 : StepLO W7 W9 b me mq P3 (N + 1) (awS s c y) B o v7 _ := StepLO.trans (fun _ _ e => .inl e) hv8 (hk8.mono (fun _ _ e => .inr e)) t2
      have t0 : StepLO (W5.alloc ow) W9 b me mq P3 (N + 1) (awS s c y) B o v _ := StepLO.trans (fun _ _ e => .inl e) hv7 (hk7.mono (fun _ _ e => .inr e)) t1
      exact StepLO.trans hown (fun _ e => .inl e) hK (StepLO.of_below hb7 t0)
  have hcell4 := fun o => (h.led.below (alloc_below w o)).five.2.2.2.2
  obtain ⟨l, hl⟩ : ∃ l, l = s.Q c := ⟨_, rfl⟩
  cases hP : P c with
  | none =>
    have hQ0 : s.Q c = [] := (h.led.none_ c).1 hP
    obtain ⟨hpl, hpb⟩ := putL_nil y
    obtain ⟨zq, hzq⟩ : ∃ zq : Obj, zq = .cells #[.int .i64 0, .int .u64 0, .int .i64 0, .int .i64 0, .int .u64 0, .int .i64 0, .int .i64 0, .int .u64 0, .int .i64 0, .int .i64 0, .int .u64 0, .int .i64 0, .int .i64 0, .int .u64 0, .int .i64 0, .int .i64 0, .int .u64 0, .int .i64 0, .int .i64 0, .int .u64 0, .int .i64 0, .int .i64 0, .int .u64 0, .int .i64 0, .int .i64 0] 134 := ⟨_, rfl⟩
    have hb2 : Below w.heap.size w ((w.alloc o1).alloc zq) := hb1.trans ((alloc_below _ zq).mono (by simp))
    have h2 := h.below hb2
    have hq2 : QAt ((w.alloc o1).alloc zq) (w.heap.size + 1) [] := by
      have := zeroQ (w.alloc o1)
      rw [← hzq, World.size_alloc] at this
      exact this
    have hl := (h1.led).lookQ hci
    rw [hP] at hl
    obtain ⟨P', hP'⟩ : ∃ P' : Int → Option Nat, P' = fun d => if d = c then some (w.heap.size + 1) else P d := ⟨_, rfl⟩
    obtain ⟨W2, hrun, hm2, hk2⟩ := h2.led.ques.put (g := queF P') keyI_keyed Tryd.underlying85 (by omega) (keyI_of hci) (keyI_lit c) (.pointer (some ⟨w.heap.size + 1, 0, none⟩))
      (by rw [hP']; simp [queF]) (fun d hd => by have : d ≠ c := fun e => hd (by rw [e]); rw [hP']; simp [queF, this]) (fun d => keyI_inj)
    have hmq := h.led.ques.lt
    have hq3 : QAt W2 (w.heap.size + 1) [] := hq2.kept hk2 (by omega)
    have HPut : Hid (Calls Tryd.prog 63 #[.pointer (some ⟨w.heap.size + 1, 0, none⟩), .agg #[.int .i64 y.r, .int .u64 y.s, .int .i64 y.p]] W2 fun e W3 => e = .returned (.tuple #[.bool (putB y (s.Q c)), .int .i64 0]) ∧
        ∃ P3, LedAt W3 b me mq P3 (N + 1) (awS s c y) ∧ OutP W3 B o v q ∧ P3 c = some (w.heap.size + 1) ∧ (∀ d k, P3 d = some k → P d = some k ∨ w.heap.size ≤ k) ∧ Kept (fun k => LX b me mq P k ∨ OfO o v k) w W3 ∧ W3.heap[w.heap.size]? = some o1) := by
      refine (put_any hq3 y).mono ?_
      rintro e W3 ⟨rfl, hq4, hk4⟩
      rw [if_pos hmay] at hq4
      have hk5 : Kept (fun k => k = mq ∨ k = w.heap.size + 1) ((w.alloc o1).alloc zq) W3 := (hk2.mono (fun _ _ e => .inl e)).trans hk4 (fun _ _ e => .inr e)
      have hk0 : Kept (fun k => k = mq) w W3 := ((keptB hb2).mono (fun _ _ e => e.elim)).trans hk5 (fun i hi e => by rcases e with e | e; exact e; omega)
      have hy4 : W3.heap[w.heap.size]? = some o1 := (hk5.block _ (by simp; omega) (by omega)).trans (heap_up k1)
      refine ⟨by rw [hmay, hQ0]; rfl, P', ?_, ?_, by rw [hP']; simp, ?_, hk0.mono (fun k _ e => .inl (.inr (.inr (.inl e)))), hy4⟩
      · refine h.led.withQ hk0 (fun k e => .inl e) (hm2.kept hk4 (by omega)) (fun d => ?_) (fun d k e => ?_) (fun d d' k e e' => ?_) (fun d k e => ?_) ⟨rfl, rfl, rfl, rfl, rfl⟩ (by omega) hok'
        · show P' d = none ↔ (if d = c then putL y (s.Q c) else s.Q d) = []
          rw [hP']
          by_cases e : d = c
          · simp [e, putL_ne']
          · simp only [if_neg e]; exact h.led.none_ d
        · show QAt W3 k (if d = c then putL y (s.Q c) else s.Q d)
          rw [hP'] at e
          dsimp only at e
          by_cases e2 : d = c
          · rw [if_pos e2] at e ⊢
            injection e with e
            rw [← e, hQ0]; exact hq4
          · rw [if_neg e2] at e ⊢
            exact (h.led.some_ d k e).kept hk0 (h.led.p_ne e).2.2
        · rw [hP'] at e e'
          dsimp only at e e'
          by_cases e2 : d = c
          · by_cases e3 : d' = c
            · rw [e2, e3]
            · rw [if_pos e2] at e; rw [if_neg e3] at e'
              injection e with e
              have := (h.led.some_ d' k e').lt
              omega
          · by_cases e3 : d' = c
            · rw [if_neg e2] at e; rw [if_pos e3] at e'
              injection e' with e'
              have := (h.led.some_ d k e).lt
              omega
            · rw [if_neg e2] at e; rw [if_neg e3] at e'
              exact h.led.inj d d' k e e'
        · rw [hP'] at e
          dsimp only at e
          by_cases e2 : d = c
          · rw [if_pos e2] at e; injection e with e; right; omega
          · rw [if_neg e2] at e; exact .inl e
      · exact h.out.kept hk0 (fun k hk e => h.apart (.inr (.inr (.inl e))) hk) (fun k hk e => led_no8 h.led k hk (.inr (.inr (.inl e))))
      · intro d k e
        rw [hP'] at e
        dsimp only at e
        by_cases e2 : d = c
        · rw [if_pos e2] at e; injection e with e; right; omega
        · rw [if_neg e2] at e; exact .inl e
    have c4a := hcell4 o1
    have c4b : ((w.alloc o1).alloc zq).cell? ⟨b, 4, none⟩ = some (.map (some mq)) := h2.led.five.2.2.2.2
    have y0 : W2.cell? ⟨w.heap.size, 0, none⟩ = some (.int .i64 y.r) ∧ W2.cell? ⟨w.heap.size, 1, none⟩ = some (.int .u64 y.s) ∧ W2.cell? ⟨w.heap.size, 2, none⟩ = some (.int .i64 y.p) := by
      have hy2 : W2.heap[w.heap.size]? = some o1 := (hk2.block _ (by simp; omega) (by omega)).trans (heap_up k1)
      rw [ho1] at hy2
      exact ⟨by rw [blk_cell hy2]; rfl, by rw [blk_cell hy2]; rfl, by rw [blk_cell hy2]; rfl⟩
    obtain ⟨y0, y1, y2⟩ := y0
    rw [hQ0, hpb] at HPut
    have HDD : Hid (putB y (s.Q c) = true) := by rw [hQ0]; exact hpb
    clear h h1 h2 hb1 hb2 hq2 hq3 hm2 hk2 hcell4 HR hc hy hq hok' hmay hnA k1 hpl hpb hmq hP hP' hQ0
    obtain ⟨yr, ys, yp⟩ := y
    rw [ho1, hzq] at hrun c4b
    rw [ho1] at hl c4a
    simp only [wv] at *
    generalize hgg : (s.E c).g = g at HD
    generalize hrr : (s.E c).r = r at HD
    clear hgg hrr
    go_enter Tryd.func44, Tryd.ntmps44
    go_wp2_with fail
    refine HPut.out.mono ?_
    rintro e W3 ⟨rfl, P3, a1, a2, a3, a4, a5, a6⟩
    obtain ⟨⟨z0, z1, z2⟩, _, hT⟩ := HD.out W3 P3 (w.heap.size + 1) a1 a2 a3 a4 a5 a6
    have HT := Lib.hid (hT HDD.out)
    clear hT HD a1 a2 a3 a4 a5 a6 HPut
    go_wp2_with fail
    refine HT.out.mono ?_
    rintro e W4 ⟨rfl, hA⟩
    have HA := Lib.hid (hA _ rfl)
    clear hA HT
    go_wp2_with fail
    refine HA.out.mono ?_
    rintro e W5 ⟨f0, f1, rfl, hB⟩
    obtain ⟨⟨z0, z1, z2⟩, ze, hB⟩ := hB _ rfl
    have HB := Lib.hid hB
    clear hB HA
    go_wp2_with fail
    refine HB.out.mono ?_
    rintro e W7 ⟨rfl, x0, x1, hC⟩
    have HC := Lib.hid hC
    clear hC HB z0 z1 z2 ze
    go_wp2_with fail
    refine HC.out.mono ?_
    rintro e W8 ⟨rfl, x2, x3, hE⟩
    have HE := Lib.hid hE
    clear hE HC x0 x1
    go_wp2_with fail
    refine HE.out.mono ?_
    rintro e W9 ⟨rfl, hF⟩
    have HF := Lib.hid hF
    clear hF HE
    go_wp2
    go_end0
    exact HF.out
  | some oq =>
    have hl := (h1.led).lookQ hci
    rw [hP] at hl
    have hqo : QAt (w.alloc o1) oq (s.Q c) := h1.led.some_ c oq hP
    have hoq := (h.led.some_ c oq hP).lt
    have HPut : Hid (Calls Tryd.prog 63 #[.pointer (some ⟨oq, 0, none⟩), .agg #[.int .i64 y.r, .int .u64 y.s, .int .i64 y.p]] (w.alloc o1) fun e W3 => e = .returned (.tuple #[.bool (putB y (s.Q c)), .int .i64 0]) ∧
        ∃ P3, LedAt W3 b me mq P3 (N + 1) (awS s c y) ∧ OutP W3 B o v q ∧ P3 c = some oq ∧ (∀ d k, P3 d = some k → P d = some k ∨ w.heap.size ≤ k) ∧ Kept (fun k => LX b me mq P k ∨ OfO o v k) w W3 ∧ W3.heap[w.heap.size]? = some o1) := by
      refine (put_any hqo y).mono ?_
      rintro e W3 ⟨rfl, hq4, hk4⟩
      rw [if_pos hmay] at hq4
      have hk0 : Kept (fun k => k = oq) w W3 := ((keptB hb1).mono (fun _ _ e => e.elim)).trans hk4 (fun i hi e => e)
      have hy4 : W3.heap[w.heap.size]? = some o1 := (hk4.block _ (by simp) (by omega)).trans k1
      have hmqo := (h.led.p_ne hP).2.2
      refine ⟨by rw [hmay]; rfl, P, ?_, ?_, hP, fun d k e => .inl e, hk0.mono (fun k _ e => .inl (.inr (.inr (.inr ⟨c, by rw [e]; exact hP⟩)))), hy4⟩
      · refine h.led.withQ hk0 (fun k e => .inr (.inl ⟨c, by rw [e]; exact hP⟩)) ((h.led.ques.kept hk0 (fun e => hmqo e.symm)).mono (by omega)) (fun d => ?_) (fun d k e => ?_) h.led.inj (fun d k e => .inl e) ⟨rfl, rfl, rfl, rfl, rfl⟩ (by omega) hok'
        · show P d = none ↔ (if d = c then putL y (s.Q c) else s.Q d) = []
          by_cases e : d = c
          · subst e; simp [hP, putL_ne']
          · rw [if_neg e]; exact h.led.none_ d
        · show QAt W3 k (if d = c then putL y (s.Q c) else s.Q d)
          by_cases e2 : d = c
          · rw [if_pos e2]
            rw [e2, hP] at e
            injection e with e
            rw [← e]; exact hq4
          · rw [if_neg e2]
            exact (h.led.some_ d k e).kept hk0 (fun e3 => e2 (h.led.inj d c k e (by rw [e3]; exact hP)))
      · exact h.out.kept hk0 (fun k hk e => h.apart (.inr (.inr (.inr ⟨c, by rw [e]; exact hP⟩))) hk) (fun k hk e => led_no8 h.led k hk (.inr (.inr (.inr ⟨c, by rw [e]; exact hP⟩))))
    have c4a := hcell4 o1
    obtain ⟨y0, y1, y2⟩ : (w.alloc o1).cell? ⟨w.heap.size, 0, none⟩ = some (.int .i64 y.r) ∧ (w.alloc o1).cell? ⟨w.heap.size, 1, none⟩ = some (.int .u64 y.s) ∧ (w.alloc o1).cell? ⟨w.heap.size, 2, none⟩ = some (.int .i64 y.p) := by
      rw [ho1] at k1 ⊢
      exact ⟨by rw [blk_cell k1]; rfl, by rw [blk_cell k1]; rfl, by rw [blk_cell k1]; rfl⟩
    have hpb : putB y (s.Q c) = true ∨ putB y (s.Q c) = false := by cases putB y (s.Q c) <;> simp
    clear h h1 hb1 hqo hcell4 HR hc hy hq hok' hmay hnA k1 hP hoq
    generalize hgg : (s.E c).g = g at HD
    generalize hrr : (s.E c).r = r at HD
    clear hgg hrr
    rcases hpb with hpb | hpb
    · have HDD := Lib.hid hpb
      rw [hpb] at HPut
      obtain ⟨yr, ys, yp⟩ := y
      rw [ho1] at hl c4a y0 y1 y2 HPut
      simp only [wv] at *
      clear hpb
      go_enter Tryd.func44, Tryd.ntmps44
      go_wp2_with fail
      refine HPut.out.mono ?_
      rintro e W3 ⟨rfl, P3, a1, a2, a3, a4, a5, a6⟩
      rw [← ho1] at a6
      obtain ⟨⟨z0, z1, z2⟩, _, hT⟩ := HD.out W3 P3 oq a1 a2 a3 a4 a5 a6
      have HT := Lib.hid (hT HDD.out)
      clear hT HD a1 a2 a3 a4 a5 a6 HPut
      go_wp2_with fail
      refine HT.out.mono ?_
      rintro e W4 ⟨rfl, hA⟩
      have HA := Lib.hid (hA _ rfl)
      clear hA HT
      go_wp2_with fail
      refine HA.out.mono ?_
      rintro e W5 ⟨f0, f1, rfl, hB⟩
      obtain ⟨⟨z0, z1, z2⟩, ze, hB⟩ := hB _ rfl
      have HB := Lib.hid hB
      clear hB HA
      go_wp2_with fail
      refine HB.out.mono ?_
      rintro e W7 ⟨rfl, x0, x1, hC⟩
      have HC := Lib.hid hC
      clear hC HB z0 z1 z2 ze
      go_wp2_with fail
      refine HC.out.mono ?_
      rintro e W8 ⟨rfl, x2, x3, hE⟩
      have HE := Lib.hid hE
      clear hE HC x0 x1
      go_wp2_with fail
      refine HE.out.mono ?_
      rintro e W9 ⟨rfl, hF⟩
      have HF := Lib.hid hF
      clear hF HE
      go_wp2
      go_end0
      exact HF.out
    · have HDD := Lib.hid hpb
      rw [hpb] at HPut
      obtain ⟨yr, ys, yp⟩ := y
      rw [ho1] at hl c4a y0 y1 y2 HPut
      simp only [wv] at *
      clear hpb
      go_enter Tryd.func44, Tryd.ntmps44
      go_wp2_with fail
      refine HPut.out.mono ?_
      rintro e W3 ⟨rfl, P3, a1, a2, a3, a4, a5, a6⟩
      rw [← ho1] at a6
      obtain ⟨⟨z0, z1, z2⟩, hT, _⟩ := HD.out W3 P3 oq a1 a2 a3 a4 a5 a6
      have HT := Lib.hid (hT HDD.out)
      clear hT HD a1 a2 a3 a4 a5 a6 HPut
      go_wp2_with fail
      refine HT.out.mono ?_
      rintro e W4 ⟨rfl, hF⟩
      have HF := Lib.hid hF
      clear hF HT
      go_wp2
      go_end0
      exact HF.out
end
end Go.Proofs.YtlmbbnkdiokabaaDoor
