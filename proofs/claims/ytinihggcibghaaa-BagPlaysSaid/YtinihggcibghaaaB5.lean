/-
  A packet is taken out of a bag.
-/
import Derived.Test.YtinihggcibghaaaB4
import Derived.Deep.RegionHeld3
import Derived.Test.YtinihggcibghaaaTk
namespace Go.Proofs.Ytinihggcibghaaa
set_option maxRecDepth 100000
set_option linter.unusedSimpArgs false
open Go Go.RowKit Bg
attribute [local go_sem] Oper.semAt_some

set_option maxHeartbeats 1000000 in
theorem taker_none (w : World) (n : Int) : Calls Try.prog 42 #[.pointer none, .int .i64 n] w fun e w' => (∃ v, e = .returned (.tuple #[v, .int .i64 1])) ∧ Below w.heap.size w w' := by
  have HP : Hid (∀ x, Calls Try.prog 39 #[.pointer none, .int .i64 n] (w.alloc x) fun e w' => e = .returned (.tuple #[.int .i64 0, .int .i64 1]) ∧ Below w.heap.size w w') := fun x => (place_none _ n).mono (by
    rintro e w' ⟨rfl, h⟩
    exact ⟨rfl, ((Below.refl _ w).alloc (Nat.le_refl _) x).trans (h.mono (by simp))⟩)
  go_enter Try.func42, Try.ntmps42
  go_wp2_with fail
  refine (HP.out _).mono ?_
  rintro e w1 ⟨rfl, hb⟩
  have HB := Lib.hid hb
  clear hb
  go_wp2
  refine bodyPost_ret (results_tmp2 (t := 4) (u := 5) rfl _ _ _) rfl ⟨⟨_, rfl⟩, HB.out.alloc HB.out.size _⟩

set_option maxHeartbeats 1000000 in
theorem taker_miss {w : World} {S : Nat → Prop} {o : Nat} {b : St} (h : BagAt 29 w S o b) (hl : b.l.length ≤ 256) {n : Int} (hn : idx b.l n = none) :
    Calls Try.prog 42 #[.pointer (some ⟨o, 0, none⟩), .int .i64 n] w fun e w' => (∃ v, e = .returned (.tuple #[v, .int .i64 80])) ∧ Below w.heap.size w w' := by
  have HP : Hid (∀ x, Calls Try.prog 39 #[.pointer (some ⟨o, 0, none⟩), .int .i64 n] (w.alloc x) fun e w' => e = .returned (.tuple #[.int .i64 0, .int .i64 80]) ∧ Below w.heap.size w w') := fun x => (place_any (h.alloc x) hl n).mono (by
    rintro e w' ⟨rfl, h⟩
    exact ⟨by simp only [plV, hn], ((Below.refl _ w).alloc (Nat.le_refl _) x).trans (h.mono (by simp))⟩)
  clear h
  go_enter Try.func42, Try.ntmps42
  go_wp2_with fail
  refine (HP.out _).mono ?_
  rintro e w1 ⟨rfl, hb⟩
  have HB := Lib.hid hb
  clear hb
  go_wp2
  refine bodyPost_ret (results_tmp2 (t := 4) (u := 5) rfl _ _ _) rfl ⟨⟨_, rfl⟩, HB.out.alloc HB.out.size _⟩

set_option maxHeartbeats 1000000 in
theorem taker_hit {w : World} {S : Nat → Prop} {o : Nat} {b : St} (h : BagAt 29 w S o b) (hl : b.l.length ≤ 256) {n : Int} {i : Nat} (hn : idx b.l n = some i) :
    Calls Try.prog 42 #[.pointer (some ⟨o, 0, none⟩), .int .i64 n] w fun e w' => ∃ p q, e = .returned (.tuple #[.func (.func 50) #[] #[.pointer (some ⟨p, 0, none⟩), .pointer (some ⟨q, 0, none⟩)], .int .i64 0]) ∧ Below w.heap.size w w' ∧ w.heap.size ≤ p ∧ w.heap.size ≤ q ∧ w'.cell? ⟨p, 0, none⟩ = some (.pointer (some ⟨o, 0, none⟩)) ∧ w'.cell? ⟨q, 0, none⟩ = some (.int .i64 (i : Nat)) := by
  have HP : Hid (∀ x, Calls Try.prog 39 #[.pointer (some ⟨o, 0, none⟩), .int .i64 n] (w.alloc x) fun e w' => e = .returned (.tuple #[.int .i64 (i : Nat), .int .i64 0]) ∧ Below (w.heap.size + 1) (w.alloc x) w') := fun x => (place_any (h.alloc x) hl n).mono (by
    rintro e w' ⟨rfl, h⟩
    exact ⟨by simp only [plV, hn], h.mono (by simp)⟩)
  clear h
  go_enter Try.func42, Try.ntmps42
  go_wp2_with fail
  refine (HP.out _).mono ?_
  rintro e w1 ⟨rfl, hb⟩
  have HB := Lib.hid hb
  clear hb
  go_wp2
  have hz : w.heap.size < w1.heap.size := by have := HB.out.size; simp at this; omega
  refine bodyPost_ret (results_tmp2 (t := 4) (u := 5) rfl _ _ _) rfl ⟨w.heap.size, w1.heap.size, rfl, (((Below.refl _ w).alloc (Nat.le_refl _) _).trans (HB.out.mono (by omega))).alloc (by omega) _, Nat.le_refl _, by omega, ?_, ?_⟩
  · refine ((Kept.refl (fun _ => False) w1).alloc _).cell ?_ id
    rw [World.cell?_of_block (a := ⟨w.heap.size, 0, none⟩) (HB.out.block _ (by simp)), blk_cell (World.alloc_heap_new w _)]; rfl
  · rw [blk_cell (World.alloc_heap_new w1 _)]; rfl

theorem cell_a1 {w : World} {a : Addr} {v : Value} (h : w.cell? a = some v) : ∀ o, (w.alloc o).cell? a = some v := fun o => ((Kept.refl (fun _ => False) w).alloc o).cell h id
theorem cell_a2 {w : World} {a : Addr} {v : Value} (h : w.cell? a = some v) : ∀ o o', ((w.alloc o).alloc o').cell? a = some v := fun o o' => cell_a1 (cell_a1 h o) o'
theorem Own.erase {w w1 : World} {S : Nat → Prop} {o g n cap i : Nat} {E : List Ent} (h : Own w S o (.slice (some ⟨g, 0, none⟩) n cap) E) (hk : Kept (fun k => k = g) w w1) (hr : w1.ownsRow 0 38 5 (.slice (some ⟨g, 0, none⟩) (n - 1) cap) (n - 1) (csE (E.eraseIdx i))) (hn : (E.eraseIdx i).length = n - 1) : Own w1 S o (.slice (some ⟨g, 0, none⟩) (n - 1) cap) (E.eraseIdx i) := by
  refine ⟨by rw [hn]; exact hr, fun e he => ?_, h.vo, fun e he => h.eo e (List.mem_of_mem_eraseIdx he), ?_⟩
  · exact hk.row (h.dat e (List.mem_of_mem_eraseIdx he)) (fun g' hg' e' => (h.eo e (List.mem_of_mem_eraseIdx he) g' hg').2.2 (by rw [e']; rfl))
  · unfold Apart
    exact h.apart.sublist ((List.eraseIdx_sublist E i).map _)
/-- A bag's blocks, less those of bytes that are handed out. -/
def SM (S : Nat → Prop) (A : Option Addr) (k : Nat) : Prop := S k ∧ ∀ a, A = some a → k ≠ a.block
theorem Own.minus {w w' : World} {S : Nat → Prop} {o i : Nat} {v v' : Value} {E : List Ent} (h : Own w S o v E) (hi : i < E.length) (h' : Own w' S o v' (E.eraseIdx i)) (hv : v'.ownBlock = v.ownBlock) : Own w' (SM S (E.getD i noE).2.1) o v' (E.eraseIdx i) := by
  have hb : ∀ a, (E.getD i noE).2.1 = some a → (Ent.v (E.getD i noE)).ownBlock = some a.block := fun a ha => by unfold Ent.v; rw [ha]; rfl
  have hgi : E.getD i noE = E[i] := by rw [List.getD_eq_getElem?_getD, List.getElem?_eq_getElem hi]; rfl
  refine ⟨h'.row, h'.dat, fun g hg => ⟨⟨(h'.vo g hg).1, fun a ha e => ?_⟩, (h'.vo g hg).2⟩, fun e he g hg => ⟨⟨(h'.eo e he g hg).1, fun a ha e2 => ?_⟩, (h'.eo e he g hg).2⟩, h'.apart⟩
  · subst e
    exact (h.eo _ (entM hi) a.block (hb a ha)).2.2 (by rw [← hv]; exact hg)
  · subst e2
    obtain ⟨j, hj, hjl, rfl⟩ := List.mem_eraseIdx_iff_getElem.1 he
    have hp := h.apart
    unfold Apart at hp
    rw [List.pairwise_iff_getElem] at hp
    have hbi := hb a ha
    rw [hgi] at hbi
    rcases Nat.lt_or_ge i j with h1 | h1
    · exact hp i j (by simpa using hi) (by simpa using hj) h1 a.block (by simpa using hbi) (by simpa using hg)
    · exact hp j i (by simpa using hj) (by simpa using hi) (by omega) a.block (by simpa using hg) (by simpa using hbi)
theorem map_erase {α β : Type} (f : α → β) (l : List α) (i : Nat) : (l.eraseIdx i).map f = (l.map f).eraseIdx i := by
  rw [List.eraseIdx_eq_take_drop_succ, List.eraseIdx_eq_take_drop_succ, List.map_append, List.map_take, List.map_drop]
/-- What is handed out: the packet, its bytes. -/
def OutP (S : Nat → Prop) (o : Nat) (b' : St) (x : Fl) (e : Ending) (w' : World) : Prop := ∃ A cap, e = .returned (flA x (.slice A x.d.length cap)) ∧ BytesAt w' A x.d ∧ (A = none → x.d = [] ∧ cap = 0) ∧ (∀ a, A = some a → S a.block) ∧ BagAt 29 w' (SM S A) o b'
/-- A bag has turned within its blocks. -/
def StepS (t : TypeId) (w : World) (S : Nat → Prop) (o : Nat) (b : St) (w' : World) : Prop := Kept S w w' ∧ BagAt t w' S o b
theorem StepS.to {t : TypeId} {w w' : World} {S : Nat → Prop} {o : Nat} {b : St} (h : StepS t w S o b w') : StepTo t w S o b w' := ⟨h.1, S, h.2, fun _ h => h, fun _ h => .inl h⟩

set_option maxHeartbeats 2000000 in
theorem out_any {w : World} {S : Nat → Prop} {o p q i : Nat} {b : St} (h : BagAt 29 w S o b) (hl : b.l.length ≤ 256) (hi : i < b.l.length) (hp : w.cell? ⟨p, 0, none⟩ = some (.pointer (some ⟨o, 0, none⟩))) (hq : w.cell? ⟨q, 0, none⟩ = some (.int .i64 (i : Nat))) (hpS : ¬ S p) (hqS : ¬ S q) :
    Calls Try.prog 50 #[.pointer (some ⟨p, 0, none⟩), .pointer (some ⟨q, 0, none⟩)] w fun e w' => OutP S o { b with l := b.l.eraseIdx i } (b.l.getD i noFl) e w' ∧ StepS 29 w S o { b with l := b.l.eraseIdx i } w' := by
  obtain ⟨⟨v, E, hE, ho, hw⟩, hso, hlt⟩ := h
  have hlen : E.length = b.l.length := by rw [← hE]; simp
  rw [← hlen] at hi hl
  obtain ⟨A0, cap0, rfl, hc1, hc2, hA0⟩ := hw.form
  obtain ⟨g, rfl⟩ := hA0 (by omega)
  have hw' := hw.ent hi
  have hcs := hw.cells hi
  have hbe := hw.eo _ (entM hi)
  have HMN : Hid (∀ (w' : World) (v' : Value), Own w' S o v' (E.eraseIdx i) → v'.ownBlock = some g → Own w' (SM S (E.getD i noE).2.1) o v' (E.eraseIdx i)) := fun w' v' h1 h2 => hw.minus hi h1 h2
  have hx := entD hE i
  have hgo := (hw.vo g rfl).2
  have HD : Hid (∀ W, Kept (fun _ => False) w W → Calls Try.prog 51 #[.slice (some ⟨g, 0, none⟩) E.length cap0, .int .i64 (i : Nat), .int .i64 ((i : Int) + 1)] W fun e w' => e = .returned (.slice (some ⟨g, 0, none⟩) (E.length - 1) cap0) ∧ Kept (fun k => k = g) W w' ∧ w'.ownsRow 0 38 5 (.slice (some ⟨g, 0, none⟩) (E.length - 1) cap0) (E.length - 1) (csE (E.eraseIdx i))) := fun W hW => delete_any (hW.row hw.row (fun _ _ => id)) hi (by omega)
  obtain ⟨⟨o0, _⟩, of⟩ := eight ho
  obtain ⟨x0, x1, x2, x3, x4⟩ := hcs
  have HK := Lib.hid hx
  generalize E.getD i noE = e1 at *
  obtain ⟨⟨n1, f1, t1, d1, s1⟩, A1, cap1⟩ := e1
  simp only [Ent.v] at x0 x1 x2 x3 x4 hx hbe
  have HBE := Lib.hid hbe
  clear hbe
  rw [← hx]
  have HLEN := Lib.hid hlen
  clear hlen
  have HO := Lib.hid ho
  have HW := Lib.hid hw
  have HBy := Lib.hid hw'
  clear ho hw hw'
  have of0 := of 0
  clear of
  generalize E.length = n at *
  go_enter Try.func50, Try.ntmps50
  go_wp2
  have p1 := cell_a1 hp
  have p2 := cell_a2 hp
  have q1 := cell_a1 hq
  have q2 := cell_a2 hq
  have o1 := cell_a1 o0
  have o2 := cell_a2 o0
  have y0 := cell_a1 x0
  have y1 := cell_a1 x1
  have y2 := cell_a1 x2
  have y3 := cell_a1 x3
  have y4 := cell_a1 x4
  have z0 := cell_a2 x0
  have z1 := cell_a2 x1
  have z2 := cell_a2 x2
  have z3 := cell_a2 x3
  have z4 := cell_a2 x4
  go_region
  obtain ⟨V, hV⟩ : ∃ V, V = ((w.alloc (.cells #[.int .i64 0, .int .i64 0, .int .i64 0, .slice none 0 0, .bool false] 38)).alloc (.cells #[.int .i64 n1, .int .i64 f1, .int .i64 t1, .slice A1 d1.length cap1, .bool s1] 38)).drew := ⟨_, rfl⟩
  rw [← hV]
  have hkV : Kept (fun _ => False) w V := by rw [hV]; exact (((Kept.refl _ w).alloc _).alloc _).drew
  have hVr : V.heap[w.heap.size]? = some (.cells #[.int .i64 0, .int .i64 0, .int .i64 0, .slice none 0 0, .bool false] 38 (0, 0)) := by
    rw [hV]
    exact (Below.heap_alloc _ _ _ (by simp)).trans (World.alloc_heap_new w _)
  have hVx : V.heap[w.heap.size + 1]? = some (.cells #[.int .i64 n1, .int .i64 f1, .int .i64 t1, .slice A1 d1.length cap1, .bool s1] 38 (0, 0)) := by
    rw [hV]
    have := World.alloc_heap_new (w.alloc (.cells #[.int .i64 0, .int .i64 0, .int .i64 0, .slice none 0 0, .bool false] 38)) (.cells #[.int .i64 n1, .int .i64 f1, .int .i64 t1, .slice A1 d1.length cap1, .bool s1] 38)
    rw [World.size_alloc] at this
    exact this
  have hgw : g < w.heap.size := (HW.out.row.lt g rfl).2
  have how : o < w.heap.size := blk_lt HO.out
  have hpw := World.block_lt_of_cell? w _ hp
  have hqw := World.block_lt_of_cell? w _ hq
  have hpg : p ≠ g := fun e => hpS (by rw [e]; exact (HW.out.vo g rfl).1)
  have hpo : p ≠ o := fun e => hpS (by rw [e]; exact hso)
  have hqo : q ≠ o := fun e => hqS (by rw [e]; exact hso)
  have hqg : q ≠ g := fun e => hqS (by rw [e]; exact (HW.out.vo g rfl).1)
  have HD2 : Hid (∀ W : World, W.heap = V.heap → W.os = V.os → W.tape = V.tape → W.output = V.output → Calls Try.prog 51 #[.slice (some ⟨g, 0, none⟩) n cap0, .int .i64 (i : Nat), .int .i64 (IntKind.i64.wrap ((i : Int) + 1))] W fun e w' => e = .returned (.slice (some ⟨g, 0, none⟩) (n - 1) cap0) ∧
      (w'.cell? ⟨p, 0, none⟩ = some (.pointer (some ⟨o, 0, none⟩)) ∧ w'.cell? ⟨q, 0, none⟩ = some (.int .i64 (i : Nat))) ∧ (∀ u, (w'.setCell ⟨o, 0, none⟩ u).cell? ⟨p, 0, none⟩ = some (.pointer (some ⟨o, 0, none⟩)) ∧ (w'.setCell ⟨o, 0, none⟩ u).cell? ⟨q, 0, none⟩ = some (.int .i64 (i : Nat))) ∧ (w'.cell? ⟨o, 0, none⟩ = some (.slice (some ⟨g, 0, none⟩) n cap0) ∧ w'.frozen? ⟨o, 0, none⟩ = false) ∧ Kept (fun k => k = g) V w' ∧ w'.ownsRow 0 38 5 (.slice (some ⟨g, 0, none⟩) (n - 1) cap0) (n - 1) (csE (E.eraseIdx i))) := fun W h1 h2 h3 h4 => by
    have kW : Kept (fun _ => False) V W := ⟨h2, h3, h4, by rw [h1]; exact Nat.le_refl _, fun k _ _ => by rw [h1]⟩
    have hwr : IntKind.i64.wrap ((i : Int) + 1) = (i : Int) + 1 := IntWalk.i64_in _ (by omega)
    rw [hwr]
    refine (HD.out W (hkV.trans kW (fun _ _ h => h))).mono ?_
    rintro e w' ⟨rfl, a1, a2⟩
    have kk : Kept (fun k => k = g) V w' := (kW.mono (Y := fun k => k = g) (fun _ _ h => h.elim)).trans a1 (fun _ _ h => h)
    refine ⟨rfl, ⟨kk.cell (hkV.cell hp id) hpg, kk.cell (hkV.cell hq id) hqg⟩, fun u => ⟨(setO w' o 0 u).cell (kk.cell (hkV.cell hp id) hpg) hpo, (setO w' o 0 u).cell (kk.cell (hkV.cell hq id) hqg) hqo⟩, ⟨kk.cell (hkV.cell o0 id) (fun e => hgo e.symm), ?_⟩, kk, a2⟩
    rw [kk.frozen (p := ⟨o, 0, none⟩) (Nat.lt_of_lt_of_le how hkV.size) (fun e => hgo e.symm), hkV.frozen (p := ⟨o, 0, none⟩) how id]
    exact of0
  have g1 := hkV.cell hp id
  have g2 := hkV.cell hq id
  have g3 := hkV.cell o0 id
  clear hV p1 p2 q1 q2 o1 o2 y0 y1 y2 y3 y4 z0 z1 z2 z3 z4 x0 x1 x2 x3 x4 hp hq o0 of0 HD
  have HKV := Lib.hid hkV
  have HVR := Lib.hid hVr
  have HVX := Lib.hid hVx
  clear hkV hVr hVx
  go_wp2_with fail
  have hS0 : V.drew.cell? ⟨p, 0, none⟩ = some (.pointer (some ⟨o, 0, none⟩)) ∧ V.drew.cell? ⟨q, 0, none⟩ = some (.int .i64 (i : Nat)) := ⟨g1, g2⟩
  refine wp_region_held_drew (S := fun W => W.cell? ⟨p, 0, none⟩ = some (.pointer (some ⟨o, 0, none⟩)) ∧ W.cell? ⟨q, 0, none⟩ = some (.int .i64 (i : Nat))) (by kernel_rfl) hS0 (fun hHeld => ?_)
  simp only [List.size_toArray, List.length_cons, List.length_nil, Nat.reduceAdd, Array.replicate_succ, Array.replicate_zero, List.push_toArray, List.nil_append, List.cons_append, List.append_toArray]
  refine take_op (i := 0) (v := ?_) rfl (by kernel_rfl) (by kernel_rfl) (by kernel_rfl) (fun _ _ _ h => h) (Or.inl ⟨by rfl, ?_⟩) (by assumption) ?_
  rotate_left
  · (intro w' hSw; (try dsimp only at hSw); go_simp; (try with_reducible rfl))
  (try simp only [Act.put, List.setIfInBounds_toArray, List.set_cons_zero, List.set_cons_succ])
  refine take_op (i := 1) (v := ?_) rfl (by kernel_rfl) (by kernel_rfl) (by kernel_rfl) (fun _ _ _ h => h) (Or.inl ⟨by rfl, ?_⟩) (by assumption) ?_
  rotate_left
  · (intro w' hSw; (try dsimp only at hSw); go_simp; (try with_reducible rfl))
  (try simp only [Act.put, List.setIfInBounds_toArray, List.set_cons_zero, List.set_cons_succ])
  refine take_op (i := 2) (v := ?_) rfl (by kernel_rfl) (by kernel_rfl) (by kernel_rfl) (fun _ _ _ h => h) (Or.inl ⟨by rfl, ?_⟩) (by assumption) ?_
  rotate_left
  · (intro w' hSw; (try dsimp only at hSw); go_simp; (try with_reducible rfl))
  (try simp only [Act.put, List.setIfInBounds_toArray, List.set_cons_zero, List.set_cons_succ])
  refine take_op (i := 3) (v := ?_) rfl (by kernel_rfl) (by kernel_rfl) (by kernel_rfl) (fun _ _ _ h => h) (Or.inl ⟨by rfl, ?_⟩) (by assumption) ?_
  rotate_left
  · (intro w' hSw; (try dsimp only at hSw); go_simp; (try with_reducible rfl))
  (try simp only [Act.put, List.setIfInBounds_toArray, List.set_cons_zero, List.set_cons_succ])
  refine take_op (i := 5) (v := ?_) rfl (by kernel_rfl) (by kernel_rfl) (by kernel_rfl) (fun _ _ _ h => h) (Or.inl ⟨by rfl, ?_⟩) (by assumption) ?_
  rotate_left
  · (intro w' hSw; (try dsimp only at hSw); go_simp; (try with_reducible rfl))
  (try simp only [Act.put, List.setIfInBounds_toArray, List.set_cons_zero, List.set_cons_succ])
  refine take_op (i := 6) (v := ?_) rfl (by kernel_rfl) (by kernel_rfl) (by kernel_rfl) (fun _ _ _ h => h) (Or.inl ⟨by rfl, ?_⟩) (by assumption) ?_
  rotate_left
  · (intro w' hSw; (try dsimp only at hSw); go_simp; (try with_reducible rfl))
  (try simp only [Act.put, List.setIfInBounds_toArray, List.set_cons_zero, List.set_cons_succ])
  refine take_op (i := 7) (v := ?_) rfl (by kernel_rfl) (by kernel_rfl) (by kernel_rfl) (fun _ _ _ h => h) (Or.inl ⟨by rfl, ?_⟩) (by assumption) ?_
  rotate_left
  · (intro w' hSw; (try dsimp only at hSw); go_simp; (try with_reducible rfl))
  (try simp only [Act.put, List.setIfInBounds_toArray, List.set_cons_zero, List.set_cons_succ])
  refine wpAnyH_ready (rs := [4]) (by kernel_rfl) (by simp) ?_
  refine cons_op rfl (fun K hK => ?_) AllReadyH.nil
  go_simp
  refine hK.out _ _ hS0 (fun hHeld => ?_)
  clear hK K
  (try simp only [Act.put, List.setIfInBounds_toArray, List.set_cons_zero, List.set_cons_succ])
  refine wpAnyH_ready (rs := [8]) (by kernel_rfl) (by simp) ?_
  refine cons_op rfl (fun K hK => ?_) AllReadyH.nil
  go_simp
  with_reducible refine (HD2.out V.drew ?_ ?_ ?_ ?_).mono ?_
  rfl
  rfl
  rfl
  rfl
  rintro e w1 ⟨rfl, hs, hs2, ⟨ho1, ho2⟩, hk1, hr1⟩
  have HK1 := Lib.hid hk1
  have HR1 := Lib.hid hr1
  clear hk1 hr1
  (try go_wp2_with fail)
  refine hK.out _ _ hs (fun hHeld => ?_)
  clear hK K
  (try simp only [Act.put, List.setIfInBounds_toArray, List.set_cons_zero, List.set_cons_succ])
  refine take_op (i := 9) (v := ?_) rfl (by kernel_rfl) (by kernel_rfl) (by kernel_rfl) (fun _ _ _ h => h) (Or.inl ⟨by rfl, ?_⟩) (by assumption) ?_
  rotate_left
  · (intro w' hSw; (try dsimp only at hSw); go_simp; (try with_reducible rfl))
  (try simp only [Act.put, List.setIfInBounds_toArray, List.set_cons_zero, List.set_cons_succ])
  refine take_op (i := 10) (v := ?_) rfl (by kernel_rfl) (by kernel_rfl) (by kernel_rfl) (fun _ _ _ h => h) (Or.inl ⟨by rfl, ?_⟩) (by assumption) ?_
  rotate_left
  · (intro w' hSw; (try dsimp only at hSw); go_simp; (try with_reducible rfl))
  (try simp only [Act.put, List.setIfInBounds_toArray, List.set_cons_zero, List.set_cons_succ])
  refine wpAnyH_ready (rs := [11]) (by kernel_rfl) (by simp) ?_
  refine cons_op rfl (fun K hK => ?_) AllReadyH.nil
  go_simp
  refine hK.out _ _ (hs2 _) (fun hHeld => ?_)
  clear hK K
  (try simp only [Act.put, List.setIfInBounds_toArray, List.set_cons_zero, List.set_cons_succ])
  refine wpAnyH_done (by kernel_rfl) ?_ _
  have hr1 : w1.heap[w.heap.size]? = _ := (HK1.out.block _ (blk_lt HVR.out) (by omega)).trans HVR.out
  have hx1 : w1.heap[w.heap.size + 1]? = _ := (HK1.out.block _ (blk_lt HVX.out) (by omega)).trans HVX.out
  obtain ⟨⟨a0, a1, a2, a3, a4⟩, _⟩ := five hx1
  obtain ⟨⟨b0, b1, b2, b3, b4⟩, f0, f1', f2, f3, f4⟩ := five hr1
  clear hr1 hx1 hs hs2 g1 g2 g3
  go_wp2
  have hEl : (E.eraseIdx i).length = n - 1 := by
    have h1 := congrArg List.length hE
    simp only [List.length_map] at h1
    rw [List.length_eraseIdx, h1, ← HLEN.out, if_pos hi]
  have hkz : Kept (fun k => k = w.heap.size) (w1.setCell ⟨o, 0, none⟩ (.slice (some ⟨g, 0, none⟩) (n - 1) cap0)) ((((((w1.setCell ⟨o, 0, none⟩ (.slice (some ⟨g, 0, none⟩) (n - 1) cap0)).setCell ⟨w.heap.size, 0, none⟩ (.int .i64 n1)).setCell ⟨w.heap.size, 1, none⟩ (.int .i64 f1)).setCell ⟨w.heap.size, 2, none⟩ (.int .i64 t1)).setCell ⟨w.heap.size, 3, none⟩ (.slice A1 d1.length cap1)).setCell ⟨w.heap.size, 4, none⟩ (.bool s1)) :=
    (((((Kept.refl (fun k => k = w.heap.size) _).setCell (p := ⟨w.heap.size, 0, none⟩) (.inl rfl) _).setCell (p := ⟨w.heap.size, 1, none⟩) (.inl rfl) _).setCell (p := ⟨w.heap.size, 2, none⟩) (.inl rfl) _).setCell (p := ⟨w.heap.size, 3, none⟩) (.inl rfl) _).setCell (p := ⟨w.heap.size, 4, none⟩) (.inl rfl) _
  have hk1 : Kept (fun k => k = g) w w1 := (HKV.out.mono (Y := fun k => k = g) (fun _ _ h => h.elim)).trans HK1.out (fun _ _ h => h)
  have hk2 := setO w1 o 0 (.slice (some ⟨g, 0, none⟩) (n - 1) cap0)
  have hgS := (HW.out.vo g rfl).1
  have hz1 := hk1.size
  obtain ⟨W', hW'⟩ : ∃ W', W' = ((((((w1.setCell ⟨o, 0, none⟩ (.slice (some ⟨g, 0, none⟩) (n - 1) cap0)).setCell ⟨w.heap.size, 0, none⟩ (.int .i64 n1)).setCell ⟨w.heap.size, 1, none⟩ (.int .i64 f1)).setCell ⟨w.heap.size, 2, none⟩ (.int .i64 t1)).setCell ⟨w.heap.size, 3, none⟩ (.slice A1 d1.length cap1)).setCell ⟨w.heap.size, 4, none⟩ (.bool s1)) := ⟨_, rfl⟩
  rw [← hW'] at hkz
  have HKK : Hid (Kept S w W') := ((hk1.mono (Y := S) (fun k _ e => by rw [e]; exact hgS)).trans (hk2.mono (Y := S) (fun k _ e => by rw [e]; exact hso)) (fun _ _ h => h)).trans hkz (fun k hk e => absurd e (by omega))
  have hown : Own W' S o (.slice (some ⟨g, 0, none⟩) (n - 1) cap0) (E.eraseIdx i) := ((HW.out.erase hk1 HR1.out hEl).obj hk2).kept hkz (fun k hk e => by have := hlt k hk; omega)
  have hobj : W'.heap[o]? = some (.cells (objC (.slice (some ⟨g, 0, none⟩) (n - 1) cap0) { b with l := b.l.eraseIdx i }) 29 (0, 0)) := by
    refine (hkz.block o (by simp; omega) (by omega)).trans ?_
    rw [blk_set (cur := objC (.slice (some ⟨g, 0, none⟩) n cap0) b) (e := 29) (m := (0, 0))]
    · rfl
    · exact (hk1.block o how (fun e => hgo e.symm)).trans HO.out
  have hlt' : ∀ k, S k → k < W'.heap.size := fun k hk => by
    have := hlt k hk
    have := hkz.size
    have := hk2.size
    omega
  have HBG2 : Hid (BagAt 29 W' S o { b with l := b.l.eraseIdx i }) := ⟨⟨_, E.eraseIdx i, by rw [map_erase, hE], hobj, hown⟩, hso, hlt'⟩
  have HBG : Hid (BagAt 29 W' (SM S A1) o { b with l := b.l.eraseIdx i }) := ⟨⟨_, E.eraseIdx i, by rw [map_erase, hE], hobj, HMN.out W' _ hown rfl⟩, ⟨hso, fun a ha e => by subst ha; exact (HBE.out a.block rfl).2.1 e.symm⟩, fun k hk => hlt' k hk.1⟩
  rw [← hW']
  have hWb : W'.heap[w.heap.size]? = some (.cells #[.int .i64 n1, .int .i64 f1, .int .i64 t1, .slice A1 d1.length cap1, .bool s1] 38 (0, 0)) := by
    have hR0 : (w1.setCell ⟨o, 0, none⟩ (.slice (some ⟨g, 0, none⟩) (n - 1) cap0)).heap[w.heap.size]? = some (.cells #[.int .i64 0, .int .i64 0, .int .i64 0, .slice none 0 0, .bool false] 38 (0, 0)) := (Below.heap_setCell _ _ _ _ (by simp; omega)).trans ((HK1.out.block _ (blk_lt HVR.out) (by omega)).trans HVR.out)
    rw [hW', blk_set (blk_set (blk_set (blk_set (blk_set hR0 0 _) 1 _) 2 _) 3 _) 4 _]
    rfl
  obtain ⟨⟨z0, z1, z2, z3, z4⟩, _⟩ := five hWb
  clear hW' hown hobj
  refine bodyPost_ret (v := .agg #[.int .i64 n1, .int .i64 f1, .int .i64 t1, .slice A1 d1.length cap1, .bool s1]) (by simp [results, Try.results50, go_sem, z0, z1, z2, z3, z4]) rfl ⟨⟨A1, cap1, rfl, ?_, HBy.out.2.2.2, fun a ha => (by subst ha; exact (HBE.out a.block rfl).1), HBG.out⟩, ⟨HKK.out, HBG2.out⟩⟩
  · refine ((HBy.out.1.kept hk1 ?_).kept hk2 ?_).kept hkz ?_
    · intro a ha e
      subst ha
      exact (HBE.out a.block rfl).2.2 (by rw [e]; rfl)
    · intro a ha e
      subst ha
      exact (HBE.out a.block rfl).2.1 e
    · intro a ha e
      subst ha
      have := hlt _ (HBE.out a.block rfl).1
      omega
end Go.Proofs.Ytinihggcibghaaa
