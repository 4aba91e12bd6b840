/-
  Send, Deliver, Drop, Double.
-/
import Derived.Test.YtinihggcibghaaaB5
namespace Go.Proofs.Ytinihggcibghaaa
set_option maxRecDepth 100000
set_option linter.unusedSimpArgs false
open Go Go.RowKit Bg
attribute [local go_sem] Oper.semAt_some

theorem StepTo.from {t : TypeId} {w w1 w2 : World} {S : Nat → Prop} {o : Nat} {b : St} (hk : Kept S w w1) (h : StepTo t w1 S o b w2) : StepTo t w S o b w2 := by
  obtain ⟨h1, S1, h2, h3, h4⟩ := h
  exact ⟨hk.trans h1 (fun _ _ h => h), S1, h2, h3, fun k hk' => (h4 k hk').imp id (fun h => Nat.le_trans hk.size h)⟩
theorem setS {w : World} {S : Nat → Prop} {o : Nat} (hs : S o) (j : Nat) (u : Value) : Kept S w (w.setCell ⟨o, j, none⟩ u) := (setO w o j u).mono (fun _ _ e => by rw [e]; exact hs)

set_option maxHeartbeats 1000000 in
theorem send_none (w : World) (f t : Int) (A : Option Addr) (n cap : Nat) : Calls Try.prog 33 #[.pointer none, .int .i64 f, .int .i64 t, .slice A n cap] w fun e w' => e = .returned (.int .i64 0) ∧ w = w' := by
  go_enter Try.func33, Try.ntmps33
  go_wp2
  go_ret
  exact ⟨rfl, rfl⟩

set_option maxHeartbeats 1000000 in
theorem send_any {w : World} {S : Nat → Prop} {o k : Nat} {b : St} (h : BagAt 29 w S o b) (hb : Bd k b) (hk : k ≤ 900000) (f t : Int) {d : List Nat} {A : Option Addr} {cap : Nat} (hA : BytesAt w A d) (hX : ∀ a, A = some a → 0 < d.length → a.block ≠ o) (hn : A = none → d = [] ∧ cap = 0) (hd : d.length ≤ 100000) :
    Calls Try.prog 33 #[.pointer (some ⟨o, 0, none⟩), .int .i64 f, .int .i64 t, .slice A d.length cap] w fun e w' => e = .returned (.int .i64 (comeV b)) ∧ StepTo 29 w S o (sendS b f t d) w' := by
  have hs := hb.sent
  have HC : Hid (∀ u : Int, u = (b.c.sent : Int) + 1 → Calls Try.prog 43 #[.pointer (some ⟨o, 0, none⟩), .agg #[.int .i64 0, .int .i64 f, .int .i64 t, .slice A d.length cap, .bool false]] (w.setCell ⟨o, 2, none⟩ (.int .i64 u)) fun e w' => e = .returned (.int .i64 (comeV b)) ∧ StepTo 29 w S o (sendS b f t d) w') := fun u hu => by
    refine (come_any (x := ⟨0, f, t, d, false⟩) (BagAt.set (b' := { b with c := { b.c with sent := b.c.sent + 1 } }) h 2 (.int .i64 u) rfl (fun v => by rw [hu]; simp)) hb.send1 (by omega) (hA.kept2 (setO w o 2 _) hX) hX hn hd).mono ?_
    rintro e w' ⟨rfl, h2⟩
    exact ⟨rfl, h2.from (setS h.so 2 _)⟩
  obtain ⟨A0, cap0, _, ⟨_, _, c2, _⟩, c3⟩ := h.cells
  have c4 := c3 2
  clear c3 h hb hA hX hn hd
  generalize b.c.sent = L at *
  generalize d.length = N at *
  go_enter Try.func33, Try.ntmps33
  go_wp2_with fail
  refine (HC.out _ rfl).mono ?_
  rintro e w' ⟨rfl, hw'⟩
  have HW := Lib.hid hw'
  clear hw'
  go_wp2
  go_ret
  exact ⟨rfl, HW.out⟩

/-- What Deliver answers. -/
def delX (b : St) (n : Int) : Fl × Int := match idx b.l n with | none => (noFl, 80) | some i => (b.l.getD i noFl, 0)
def DelP (x : Fl × Int) (e : Ending) (w' : World) : Prop := ∃ A cap, e = .returned (.tuple #[flA x.1 (.slice A x.1.d.length cap), .int .i64 x.2]) ∧ BytesAt w' A x.1.d ∧ (A = none → x.1.d = [] ∧ cap = 0)

/-- The same, and what is handed out is the bag's no more. -/
def DelQ (w : World) (S : Nat → Prop) (o : Nat) (b' : St) (x : Fl × Int) (e : Ending) (w' : World) : Prop := ∃ A cap, e = .returned (.tuple #[flA x.1 (.slice A x.1.d.length cap), .int .i64 x.2]) ∧ BytesAt w' A x.1.d ∧ (A = none → x.1.d = [] ∧ cap = 0) ∧ (∀ a, A = some a → S a.block) ∧ Kept S w w' ∧ BagAt 29 w' (SM S A) o b'

set_option maxHeartbeats 1000000 in
theorem deliver_none (w : World) (n : Int) : Calls Try.prog 20 #[.pointer none, .int .i64 n] w fun e w' => e = .returned (.tuple #[flA noFl (.slice none 0 0), .int .i64 1]) ∧ Below w.heap.size w w' := by
  have HT : Hid (∀ x, Calls Try.prog 42 #[.pointer none, .int .i64 n] (w.alloc x) fun e w' => (∃ v, e = .returned (.tuple #[v, .int .i64 1])) ∧ Below (w.heap.size + 1) (w.alloc x) w') := fun x => (taker_none _ n).mono (by
    rintro e w' ⟨h1, h⟩
    exact ⟨h1, h.mono (by simp)⟩)
  go_enter Try.func20, Try.ntmps20
  go_wp2_with fail
  refine (HT.out _).mono ?_
  rintro e w1 ⟨⟨v, rfl⟩, hb⟩
  have hr1 : w1.heap[w.heap.size]? = _ := (hb.block _ (by omega)).trans (World.alloc_heap_new w _)
  obtain ⟨⟨b0, b1, b2, b3, b4⟩, f0, f1', f2, f3, f4⟩ := five hr1
  have hB : Below w.heap.size w w1 := ((Below.refl _ w).alloc (Nat.le_refl _) _).trans (hb.mono (by omega))
  clear hr1 hb
  go_wp2
  refine bodyPost_ret (v := .tuple #[.agg #[.int .i64 0, .int .i64 0, .int .i64 0, .slice none 0 0, .bool false], .int .i64 1]) (by simp [results, Try.results20, go_sem, b0, b1, b2, b3, b4]) rfl ⟨rfl, ?_⟩
  iterate 5 refine Below.setCell ?_ (by simp) _
  exact hB

set_option maxHeartbeats 1000000 in
theorem deliver_q {w : World} {S : Nat → Prop} {o k : Nat} {b : St} (h : BagAt 29 w S o b) (hb : Bd k b) (hk : k ≤ 900000) (n : Int) :
    Calls Try.prog 20 #[.pointer (some ⟨o, 0, none⟩), .int .i64 n] w (DelQ w S o (delS b n) (delX b n)) := by
  have hl := hb.len
  have hd := hb.del
  have how := h.lt o h.so
  have HLT : Hid (∀ k, S k → k < w.heap.size) := h.lt
  cases hn : idx b.l n with
  | none =>
    have e1 : delX b n = (noFl, 80) := by rw [delX, hn]
    have e2 : delS b n = b := by rw [delS, hn]
    rw [e1, e2]
    have HF : Hid (∀ w', Below w.heap.size w w' → Kept S w w' ∧ BagAt 29 w' (SM S none) o b) := fun w' hw' => ⟨Kept.of_below hw' (Nat.le_refl _), (h.below hw').more (fun k hk => ⟨hk, fun a ha => by cases ha⟩) (fun k hk => Nat.lt_of_lt_of_le (h.lt k hk.1) hw'.size)⟩
    have HT : Hid (∀ x, Calls Try.prog 42 #[.pointer (some ⟨o, 0, none⟩), .int .i64 n] (w.alloc x) fun e w' => (∃ v, e = .returned (.tuple #[v, .int .i64 80])) ∧ Below (w.heap.size + 1) (w.alloc x) w') := fun x => (taker_miss (h.alloc x) hl hn).mono (by
      rintro e w' ⟨h1, h⟩
      exact ⟨h1, h.mono (by simp)⟩)
    clear h hb
    go_enter Try.func20, Try.ntmps20
    go_wp2_with fail
    refine (HT.out _).mono ?_
    rintro e w1 ⟨⟨v, rfl⟩, hb⟩
    have hr1 : w1.heap[w.heap.size]? = _ := (hb.block _ (by omega)).trans (World.alloc_heap_new w _)
    obtain ⟨⟨b0, b1, b2, b3, b4⟩, f0, f1', f2, f3, f4⟩ := five hr1
    have hB : Below w.heap.size w w1 := ((Below.refl _ w).alloc (Nat.le_refl _) _).trans (hb.mono (by omega))
    clear hr1 hb
    go_wp2
    refine bodyPost_ret (v := .tuple #[.agg #[.int .i64 0, .int .i64 0, .int .i64 0, .slice none 0 0, .bool false], .int .i64 80]) (by simp [results, Try.results20, go_sem, b0, b1, b2, b3, b4]) rfl ⟨none, 0, rfl, fun j hj => (by simp [noFl] at hj), fun _ => ⟨rfl, rfl⟩, fun a ha => (by cases ha), HF.out _ ?_⟩
    iterate 5 refine Below.setCell ?_ (by simp) _
    exact hB
  | some i =>
    have hi := (idx_some hn).1
    have e1 : delX b n = (b.l.getD i noFl, 0) := by rw [delX, hn]
    have e2 : delS b n = { b with l := b.l.eraseIdx i, c := { b.c with del := b.c.del + 1 } } := by rw [delS, hn]
    rw [e1, e2]
    have HT : Hid (∀ x, Calls Try.prog 42 #[.pointer (some ⟨o, 0, none⟩), .int .i64 n] (w.alloc x) fun e w' => ∃ p q, e = .returned (.tuple #[.func (.func 50) #[] #[.pointer (some ⟨p, 0, none⟩), .pointer (some ⟨q, 0, none⟩)], .int .i64 0]) ∧ Below (w.heap.size + 1) (w.alloc x) w' ∧ w.heap.size + 1 ≤ p ∧ w.heap.size + 1 ≤ q ∧ w'.cell? ⟨p, 0, none⟩ = some (.pointer (some ⟨o, 0, none⟩)) ∧ w'.cell? ⟨q, 0, none⟩ = some (.int .i64 (i : Nat))) := fun x => (taker_hit (h.alloc x) hl hn).mono (by
      rintro e w' ⟨p, q, h1, h2, h3, h4, h5, h6⟩
      simp only [World.size_alloc] at h2 h3 h4
      exact ⟨p, q, h1, h2, h3, h4, h5, h6⟩)
    have HO : Hid (∀ (w1 : World) (p q : Nat) (u : Int), u = (b.c.del : Int) + 1 → Below w.heap.size w w1 → w.heap.size + 1 ≤ p → w.heap.size + 1 ≤ q → w1.cell? ⟨p, 0, none⟩ = some (.pointer (some ⟨o, 0, none⟩)) → w1.cell? ⟨q, 0, none⟩ = some (.int .i64 (i : Nat)) →
        Calls Try.prog 50 #[.pointer (some ⟨p, 0, none⟩), .pointer (some ⟨q, 0, none⟩)] (w1.setCell ⟨o, 3, none⟩ (.int .i64 u)) fun e w' => ∃ A cap, e = .returned (flA (b.l.getD i noFl) (.slice A (b.l.getD i noFl).d.length cap)) ∧ BytesAt w' A (b.l.getD i noFl).d ∧ (A = none → (b.l.getD i noFl).d = [] ∧ cap = 0) ∧ (∀ a, A = some a → S a.block) ∧ (Kept S w w' ∧ BagAt 29 w' (SM S A) o { b with l := b.l.eraseIdx i, c := { b.c with del := b.c.del + 1 } }) ∧ w'.heap[w.heap.size]? = w1.heap[w.heap.size]?) := by
      intro w1 p q u hu hB hp hq hcp hcq
      have h1 := h.below hB
      have h2 := BagAt.set (b' := { b with c := { b.c with del := b.c.del + 1 } }) h1 3 (.int .i64 u) rfl (fun v => by rw [hu]; simp)
      have hks := setO w1 o 3 (.int .i64 u)
      refine (out_any h2 hl hi (hks.cell hcp (show p ≠ o by omega)) (hks.cell hcq (show q ≠ o by omega)) (fun hs => by have := h.lt _ hs; omega) (fun hs => by have := h.lt _ hs; omega)).mono ?_
      rintro e w' ⟨⟨A, cap, rfl, h3, h4, h6, h7⟩, h5⟩
      have hz := hB.size
      have hpz := World.block_lt_of_cell? w1 _ hcp
      simp only at hpz
      exact ⟨A, cap, rfl, h3, h4, h6, ⟨((Kept.of_below (X := S) hB (Nat.le_refl _)).trans ((setS h.so 3 _).trans h5.1 (fun _ _ h => h)) (fun _ _ h => h)), h7⟩, ((h5.1.block w.heap.size (by simp; omega) (fun hs => by have := h.lt _ hs; omega)).trans (hks.block _ (by omega) (by omega)))⟩
    have HCC : Hid (∀ w1, Below w.heap.size w w1 → w1.cell? ⟨o, 3, none⟩ = some (.int .i64 (b.c.del : Nat)) ∧ w1.frozen? ⟨o, 3, none⟩ = false) := fun w1 hB => by
      obtain ⟨A0, cap0, _, ⟨_, _, _, c2, _⟩, c3⟩ := (h.below hB).cells
      exact ⟨c2, c3 3⟩
    clear h hb hn
    generalize b.l.getD i noFl = x at *
    obtain ⟨n1, f1, t1, d1, s1⟩ := x
    generalize b.c.del = L at *
    go_enter Try.func20, Try.ntmps20
    go_wp2_with fail
    refine (HT.out _).mono ?_
    rintro e w1 ⟨p, q, rfl, hb1, hp, hq, hcp, hcq⟩
    have hB : Below w.heap.size w w1 := ((Below.refl _ w).alloc (Nat.le_refl _) _).trans (hb1.mono (by omega))
    obtain ⟨c1, c2⟩ := HCC.out w1 hB
    have hr1 : w1.heap[w.heap.size]? = _ := (hb1.block _ (by omega)).trans (World.alloc_heap_new w _)
    have HO2 := Lib.hid (HO.out w1 p q _ rfl hB hp hq hcp hcq)
    clear HO HT HCC hcp hcq hp hq hb1
    go_wp2_with fail
    refine HO2.out.mono ?_
    rintro e w2 ⟨A, cap, rfl, hby, hnn, hab, hst, hbk⟩
    obtain ⟨⟨b0, b1, b2, b3, b4⟩, f0, f1', f2, f3, f4⟩ := five (hbk.trans hr1)
    have HST := Lib.hid hst
    have HBY := Lib.hid hby
    have HAB := Lib.hid hab
    have hz2 : w.heap.size < w2.heap.size := blk_lt (hbk.trans hr1)
    have HR2 := Lib.hid (hbk.trans hr1)
    clear hst hby hbk hr1 hab
    go_wp2
    obtain ⟨W', hW'⟩ : ∃ W', W' = (((((w2.setCell ⟨w.heap.size, 0, none⟩ (.int .i64 n1)).setCell ⟨w.heap.size, 1, none⟩ (.int .i64 f1)).setCell ⟨w.heap.size, 2, none⟩ (.int .i64 t1)).setCell ⟨w.heap.size, 3, none⟩ (.slice A d1.length cap)).setCell ⟨w.heap.size, 4, none⟩ (.bool s1)) := ⟨_, rfl⟩
    rw [← hW']
    have hkz : Kept (fun k => k = w.heap.size) w2 W' := by
      rw [hW']
      exact (((((Kept.refl (fun k => k = w.heap.size) _).setCell (p := ⟨w.heap.size, 0, none⟩) (.inl rfl) _).setCell (p := ⟨w.heap.size, 1, none⟩) (.inl rfl) _).setCell (p := ⟨w.heap.size, 2, none⟩) (.inl rfl) _).setCell (p := ⟨w.heap.size, 3, none⟩) (.inl rfl) _).setCell (p := ⟨w.heap.size, 4, none⟩) (.inl rfl) _
    have hWb : W'.heap[w.heap.size]? = some (.cells #[.int .i64 n1, .int .i64 f1, .int .i64 t1, .slice A d1.length cap, .bool s1] 38 (0, 0)) := by
      rw [hW', blk_set (blk_set (blk_set (blk_set (blk_set HR2.out 0 _) 1 _) 2 _) 3 _) 4 _]
      rfl
    obtain ⟨⟨z0, z1, z2, z3, z4⟩, _⟩ := five hWb
    have hfin : DelQ w S o { b with l := b.l.eraseIdx i, c := { b.c with del := L + 1 } } (⟨n1, f1, t1, d1, s1⟩, 0) (.returned (.tuple #[.agg #[.int .i64 n1, .int .i64 f1, .int .i64 t1, .slice A d1.length cap, .bool s1], .int .i64 0])) W' := by
      refine ⟨A, cap, rfl, HBY.out.kept hkz ?_, hnn, HAB.out, HST.out.1.trans hkz (fun k hk e => absurd e (by omega)), HST.out.2.kept hkz ?_⟩
      · intro a ha e
        have := HLT.out _ (HAB.out a ha)
        omega
      · intro k hk e
        have := HLT.out k hk.1
        omega
    clear hW' hWb hkz
    refine bodyPost_ret (v := .tuple #[.agg #[.int .i64 n1, .int .i64 f1, .int .i64 t1, .slice A d1.length cap, .bool s1], .int .i64 0]) (by simp [results, Try.results20, go_sem, z0, z1, z2, z3, z4]) rfl hfin

theorem deliver_any {w : World} {S : Nat → Prop} {o k : Nat} {b : St} (h : BagAt 29 w S o b) (hb : Bd k b) (hk : k ≤ 900000) (n : Int) :
    Calls Try.prog 20 #[.pointer (some ⟨o, 0, none⟩), .int .i64 n] w fun e w' => DelP (delX b n) e w' ∧ StepTo 29 w S o (delS b n) w' := by
  refine (deliver_q h hb hk n).mono ?_
  rintro e w' ⟨A, cap, h1, h2, h3, _, h4, h5⟩
  exact ⟨⟨A, cap, h1, h2, h3⟩, StepS.to ⟨h4, h5.more (fun k hk => hk.1) (fun k hk => Nat.lt_of_lt_of_le (h.lt k hk) h4.size)⟩⟩

set_option maxHeartbeats 1000000 in
theorem drop_none (w : World) (n : Int) : Calls Try.prog 21 #[.pointer none, .int .i64 n] w fun e w' => e = .returned (.int .i64 1) ∧ Below w.heap.size w w' := by
  have HT := Lib.hid (taker_none w n)
  go_enter Try.func21, Try.ntmps21
  go_wp2_with fail
  refine HT.out.mono ?_
  rintro e w1 ⟨⟨v, rfl⟩, hb⟩
  have HB := Lib.hid hb
  clear hb
  go_wp2
  go_ret
  exact ⟨rfl, HB.out⟩

/-- What Drop and Spoil answer. -/
def errV (b : St) (n : Int) : Int := match idx b.l n with | none => 80 | some _ => 0
set_option maxHeartbeats 1000000 in
theorem drop_any {w : World} {S : Nat → Prop} {o k : Nat} {b : St} (h : BagAt 29 w S o b) (hb : Bd k b) (hk : k ≤ 900000) (n : Int) :
    Calls Try.prog 21 #[.pointer (some ⟨o, 0, none⟩), .int .i64 n] w fun e w' => e = .returned (.int .i64 (errV b n)) ∧ StepTo 29 w S o (dropS b n) w' := by
  have hl := hb.len
  have hd := hb.drp
  have how := h.lt o h.so
  cases hn : idx b.l n with
  | none =>
    have e1 : errV b n = 80 := by rw [errV, hn]
    have e2 : dropS b n = b := by rw [dropS, hn]
    rw [e1, e2]
    have HF : Hid (∀ w', Below w.heap.size w w' → StepTo 29 w S o b w') := fun w' hw' => StepTo.still h hw'
    have HT := Lib.hid (taker_miss h hl hn)
    clear h hb
    go_enter Try.func21, Try.ntmps21
    go_wp2_with fail
    refine HT.out.mono ?_
    rintro e w1 ⟨⟨v, rfl⟩, hb⟩
    have HB := Lib.hid (HF.out _ hb)
    clear hb
    go_wp2
    go_ret
    exact ⟨rfl, HB.out⟩
  | some i =>
    have hi := (idx_some hn).1
    have e1 : errV b n = 0 := by rw [errV, hn]
    have e2 : dropS b n = { b with l := b.l.eraseIdx i, c := { b.c with drp := b.c.drp + 1 } } := by rw [dropS, hn]
    rw [e1, e2]
    have HT := Lib.hid (taker_hit h hl hn)
    have HO : Hid (∀ (w1 : World) (p q : Nat) (u : Int), u = (b.c.drp : Int) + 1 → Below w.heap.size w w1 → w.heap.size ≤ p → w.heap.size ≤ q → w1.cell? ⟨p, 0, none⟩ = some (.pointer (some ⟨o, 0, none⟩)) → w1.cell? ⟨q, 0, none⟩ = some (.int .i64 (i : Nat)) →
        Calls Try.prog 50 #[.pointer (some ⟨p, 0, none⟩), .pointer (some ⟨q, 0, none⟩)] (w1.setCell ⟨o, 4, none⟩ (.int .i64 u)) fun e w' => (∃ v, e = .returned v) ∧ StepTo 29 w S o { b with l := b.l.eraseIdx i, c := { b.c with drp := b.c.drp + 1 } } w') := by
      intro w1 p q u hu hB hp hq hcp hcq
      have h1 := h.below hB
      have h2 := BagAt.set (b' := { b with c := { b.c with drp := b.c.drp + 1 } }) h1 4 (.int .i64 u) rfl (fun v => by rw [hu]; simp)
      have hks := setO w1 o 4 (.int .i64 u)
      refine (out_any h2 hl hi (hks.cell hcp (show p ≠ o by omega)) (hks.cell hcq (show q ≠ o by omega)) (fun hs => by have := h.lt _ hs; omega) (fun hs => by have := h.lt _ hs; omega)).mono ?_
      rintro e w' ⟨⟨A, cap, rfl, _⟩, h5⟩
      exact ⟨⟨_, rfl⟩, StepTo.pre hB (h5.to.from (setS h.so 4 _))⟩
    have HCC : Hid (∀ w1, Below w.heap.size w w1 → w1.cell? ⟨o, 4, none⟩ = some (.int .i64 (b.c.drp : Nat)) ∧ w1.frozen? ⟨o, 4, none⟩ = false) := fun w1 hB => by
      obtain ⟨A0, cap0, _, ⟨_, _, _, _, c2, _⟩, c3⟩ := (h.below hB).cells
      exact ⟨c2, c3 4⟩
    clear h hb hn
    generalize b.c.drp = L at *
    go_enter Try.func21, Try.ntmps21
    go_wp2_with fail
    refine HT.out.mono ?_
    rintro e w1 ⟨p, q, rfl, hB, hp, hq, hcp, hcq⟩
    obtain ⟨c1, c2⟩ := HCC.out w1 hB
    have HO2 := Lib.hid (HO.out w1 p q _ rfl hB hp hq hcp hcq)
    clear HO HT HCC hcp hcq hp hq hB
    go_wp2_with fail
    refine HO2.out.mono ?_
    rintro e w2 ⟨⟨v, rfl⟩, hst⟩
    have HST := Lib.hid hst
    clear hst
    go_wp2
    go_ret
    exact ⟨rfl, HST.out⟩

/-- What Double answers. -/
def dblX (b : St) (n : Int) : Int × Int := match idx b.l n with | none => (0, 80) | some _ => (comeV b, 0)
set_option maxHeartbeats 1000000 in
theorem dbl_none (w : World) (n : Int) : Calls Try.prog 22 #[.pointer none, .int .i64 n] w fun e w' => e = .returned (.tuple #[.int .i64 0, .int .i64 1]) ∧ Below w.heap.size w w' := by
  have HT := Lib.hid (place_none w n)
  go_enter Try.func22, Try.ntmps22
  go_wp2_with fail
  refine HT.out.mono ?_
  rintro e w1 ⟨rfl, hb⟩
  have HB := Lib.hid hb
  clear hb
  go_wp2
  refine bodyPost_ret (results_tmp2 (t := 4) (u := 5) rfl _ _ _) rfl ⟨rfl, HB.out⟩
set_option maxHeartbeats 1000000 in
theorem dbl_any {w : World} {S : Nat → Prop} {o k : Nat} {b : St} (h : BagAt 29 w S o b) (hb : Bd k b) (hk : k ≤ 900000) (n : Int) :
    Calls Try.prog 22 #[.pointer (some ⟨o, 0, none⟩), .int .i64 n] w fun e w' => e = .returned (.tuple #[.int .i64 (dblX b n).1, .int .i64 (dblX b n).2]) ∧ StepTo 29 w S o (dblS b n) w' := by
  have hl := hb.len
  have hd := hb.dbl
  have how := h.lt o h.so
  have HP := Lib.hid (place_any h hl n)
  cases hn : idx b.l n with
  | none =>
    have e1 : dblX b n = (0, 80) := by rw [dblX, hn]
    have e2 : dblS b n = b := by rw [dblS, hn]
    have e3 : plV b.l n = (0, 80) := by rw [plV, hn]
    rw [e1, e2]
    rw [e3] at HP
    have HF : Hid (∀ w', Below w.heap.size w w' → StepTo 29 w S o b w') := fun w' hw' => StepTo.still h hw'
    clear h hb
    go_enter Try.func22, Try.ntmps22
    go_wp2_with fail
    refine HP.out.mono ?_
    rintro e w1 ⟨rfl, hb⟩
    have HB := Lib.hid (HF.out _ hb)
    clear hb
    go_wp2
    refine bodyPost_ret (results_tmp2 (t := 4) (u := 5) rfl _ _ _) rfl ⟨rfl, HB.out⟩
  | some i =>
    have hi := (idx_some hn).1
    have e1 : dblX b n = (comeV b, 0) := by rw [dblX, hn]
    have e2 : dblS b n = comeS { b with c := { b.c with dbl := b.c.dbl + 1 } } (b.l.getD i noFl).f (b.l.getD i noFl).t (b.l.getD i noFl).d (b.l.getD i noFl).s := by rw [dblS, hn]
    have e3 : plV b.l n = (((i : Nat) : Int), 0) := by rw [plV, hn]
    rw [e1]
    rw [e3] at HP
    have HO : Hid (∀ (w1 : World) (u : Int), u = (b.c.dbl : Int) + 1 → Below w.heap.size w w1 → ∃ g cap A cap1, (w1.cell? ⟨o, 5, none⟩ = some (.int .i64 (b.c.dbl : Nat)) ∧ w1.frozen? ⟨o, 5, none⟩ = false) ∧ (b.l.length ≤ cap ∧ (w1.setCell ⟨o, 5, none⟩ (.int .i64 u)).cell? ⟨o, 0, none⟩ = some (.slice (some ⟨g, 0, none⟩) b.l.length cap)) ∧
        ((w1.setCell ⟨o, 5, none⟩ (.int .i64 u)).cell? ⟨g, i * 5, none⟩ = some (.int .i64 (b.l.getD i noFl).n) ∧ (w1.setCell ⟨o, 5, none⟩ (.int .i64 u)).cell? ⟨g, i * 5 + 1, none⟩ = some (.int .i64 (b.l.getD i noFl).f) ∧ (w1.setCell ⟨o, 5, none⟩ (.int .i64 u)).cell? ⟨g, i * 5 + 2, none⟩ = some (.int .i64 (b.l.getD i noFl).t) ∧ (w1.setCell ⟨o, 5, none⟩ (.int .i64 u)).cell? ⟨g, i * 5 + 3, none⟩ = some (.slice A (b.l.getD i noFl).d.length cap1) ∧ (w1.setCell ⟨o, 5, none⟩ (.int .i64 u)).cell? ⟨g, i * 5 + 4, none⟩ = some (.bool (b.l.getD i noFl).s)) ∧
        Calls Try.prog 43 #[.pointer (some ⟨o, 0, none⟩), .agg #[.int .i64 (b.l.getD i noFl).n, .int .i64 (b.l.getD i noFl).f, .int .i64 (b.l.getD i noFl).t, .slice A (b.l.getD i noFl).d.length cap1, .bool (b.l.getD i noFl).s]] (w1.setCell ⟨o, 5, none⟩ (.int .i64 u)) fun e w' => e = .returned (.int .i64 (comeV b)) ∧ StepTo 29 w S o (dblS b n) w') := by
      intro w1 u hu hB
      have h1 := h.below hB
      obtain ⟨A0, cap0, _, ⟨_, _, _, _, _, c2, _⟩, c3⟩ := h1.cells
      have h2 := BagAt.set (b' := { b with c := { b.c with dbl := b.c.dbl + 1 } }) h1 5 (.int .i64 u) rfl (fun v => by rw [hu]; simp)
      have h20 := h2
      obtain ⟨⟨v, E, hE, ho, hw⟩, _, _⟩ := h2
      have hlen : E.length = b.l.length := by rw [← hE]; simp
      obtain ⟨A3, cap3, rfl, hc1, hc2, hA0⟩ := hw.form
      obtain ⟨g, rfl⟩ := hA0 (by omega)
      have hx := entD hE i
      obtain ⟨a1, a2, a3, a4⟩ := hw.ent (k := i) (by omega)
      obtain ⟨x0, x1, x2, x3, x4⟩ := hw.cells (k := i) (by omega)
      have hbe := hw.eo _ (entM (E := E) (k := i) (by omega))
      obtain ⟨⟨o0, _⟩, _⟩ := eight ho
      have hat := hb.at_ hi
      simp only at hx
      unfold Ent.v at x3 hbe
      rw [hx] at x0 x1 x2 x3 x4 a1 a4
      rw [hlen] at o0 hc1
      refine ⟨g, cap3, _, _, ⟨c2, c3 5⟩, ⟨hc1, o0⟩, ⟨x0, x1, x2, x3, x4⟩, ?_⟩
      refine (come_any (x := b.l.getD i noFl) h20 hb.dbl1 (by omega) a1 (fun a ha _ e => ?_) a4 (by omega)).mono ?_
      · rw [ha] at hbe
        exact (hbe a.block rfl).2.1 e
      · rintro e w' ⟨rfl, h5⟩
        rw [e2]
        exact ⟨rfl, StepTo.pre hB (h5.from (setS h.so 5 _))⟩
    clear h hb hn e2
    generalize b.l.getD i noFl = x at *
    generalize b.c.dbl = L at *
    generalize b.l.length = N at *
    go_enter Try.func22, Try.ntmps22
    go_wp2_with fail
    refine HP.out.mono ?_
    rintro e w1 ⟨rfl, hB⟩
    obtain ⟨g, cap, A, cap1, ⟨c1, c2⟩, ⟨hc, o0⟩, ⟨x0, x1, x2, x3, x4⟩, hcall⟩ := HO.out w1 _ rfl hB
    have HCL := Lib.hid hcall
    clear hcall HO HP hB
    generalize x.n = xn at *
    generalize x.f = xf at *
    generalize x.t = xt at *
    generalize x.s = xs at *
    generalize x.d.length = xl at *
    go_wp2_with fail
    refine HCL.out.mono ?_
    rintro e w2 ⟨rfl, hst⟩
    have HST := Lib.hid hst
    clear hst
    go_wp2
    refine bodyPost_ret (results_tmp2 (t := 4) (u := 5) rfl _ _ _) rfl ⟨rfl, HST.out⟩
end Go.Proofs.Ytinihggcibghaaa
