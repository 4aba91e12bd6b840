/-
  shelf.first, shelf.Read.
-/
import Derived.Test.YtgciibcngmimkaaSfD
namespace Go.Proofs.Ytgciibcngmimkaa
set_option maxRecDepth 100000
set_option linter.unusedSimpArgs false
open Go Go.RowKit Sf

theorem add_add (a : Addr) (m n : Nat) : (a.add m).add n = a.add (m + n) := by
  unfold Addr.add
  by_cases h1 : m = 0
  · subst h1; simp
  · by_cases h2 : n = 0
    · subst h2; simp
    · simp [h1, h2, Nat.add_assoc]
theorem BytesAt.drop {w : World} {a : Addr} {l : List Nat} (h : BytesAt w (some a) l) (n : Nat) : BytesAt w (some (a.add n)) (l.drop n) := by
  intro j hj
  rw [List.length_drop] at hj
  obtain ⟨a', e, h1⟩ := h (n + j) (by omega)
  cases e
  refine ⟨_, rfl, ?_⟩
  rw [add_add, h1]
  simp [List.getD]
theorem BytesAt.take {w : World} {A : Option Addr} {l : List Nat} (h : BytesAt w A l) (n : Nat) : BytesAt w A (l.take n) := by
  intro j hj
  rw [List.length_take] at hj
  obtain ⟨a', e, h1⟩ := h j (by omega)
  refine ⟨a', e, ?_⟩
  rw [h1]
  simp only [List.getD, List.getElem?_take]
  rw [if_pos (by omega)]
/-- Bytes that are handed in, whatever the address. -/
structure BsOk (w : World) (A : Option Addr) (l : List Nat) (cap : Nat) : Prop where
  dat : BytesAt w A l
  nil : A = none → l = [] ∧ cap = 0
  lt : ∀ c ∈ l, c < 256
  le : l.length ≤ cap
theorem BsOk.below {w w' : World} {A : Option Addr} {l : List Nat} {cap : Nat} (h : BsOk w A l cap) (hb : Below w.heap.size w w') : BsOk w' A l cap := ⟨h.dat.below hb, h.nil, h.lt, h.le⟩
theorem sl_lh (a : Addr) (L cap m : Nat) (h : 5 + m ≤ L) (hle : L ≤ cap) : ∃ S1 k1, (S1 = a.add 5 ∨ m = 0) ∧ m ≤ k1 ∧ ∀ U, (Instr.slice 30 (.slice (some a) L cap) (some (.int .i64 5)) (some (.int .i64 (5 + (m : Int)))) none).run Try.prog U = .ok (.slice (some S1) m k1) U := by
  have e : (5 + (m : Int)).toNat - 5 = m := by omega
  have e5 : (5 : Int).toNat = 5 := rfl
  have hr := fun U => run_slice_lh U 30 (some a) L cap Try.underlying30 .i64 .i64 5 (5 + (m : Int)) (by omega) (by omega) (by omega)
  have hz : ∀ U, (sizeOf (Try.prog.elem 30)).run Try.prog U = .ok 1 U := fun U => by kernel_rfl
  by_cases hc5 : cap = 5
  · refine ⟨a, 0, .inr (by omega), by omega, fun U => ?_⟩
    rw [hr, hz]
    simp only [Result.andThen, sliced, e5, e, hc5, if_true, Nat.sub_self]
  · refine ⟨a.add 5, cap - 5, .inl rfl, by omega, fun U => ?_⟩
    rw [hr, hz]
    simp only [Result.andThen, sliced, e5, e, hc5, if_false, Option.map_some, Nat.mul_one]
theorem sl_l (a : Addr) (L cap m : Nat) (h : 5 + m ≤ L) (hle : L ≤ cap) : ∃ S2 k2, (S2 = a.add (5 + m) ∨ L = 5 + m) ∧ L - (5 + m) ≤ k2 ∧ ∀ U, (Instr.slice 30 (.slice (some a) L cap) (some (.int .i64 (5 + (m : Int)))) none none).run Try.prog U = .ok (.slice (some S2) (L - (5 + m)) k2) U := by
  have e : (5 + (m : Int)).toNat = 5 + m := by omega
  have hr := fun U => run_slice_l U 30 (some a) L cap Try.underlying30 .i64 (5 + (m : Int)) (by omega) (by omega)
  have hz : ∀ U, (sizeOf (Try.prog.elem 30)).run Try.prog U = .ok 1 U := fun U => by kernel_rfl
  by_cases hc5 : cap = 5 + m
  · refine ⟨a, 0, .inr (by omega), by omega, fun U => ?_⟩
    rw [hr, hz]
    simp only [Result.andThen, sliced, e, hc5, if_true, Nat.sub_self]
  · refine ⟨a.add (5 + m), cap - (5 + m), .inl rfl, by omega, fun U => ?_⟩
    rw [hr, hz]
    simp only [Result.andThen, sliced, e, hc5, if_false, Option.map_some, Nat.mul_one]
/-- What first leaves. -/
def FsQ (wb w : World) (l : List Nat) (e : Ending) (w' : World) : Prop :=
  Below w.heap.size w w' ∧ match fs l with
  | none => e = .returned (.tuple #[.agg #[.int .i64 0, .int .i64 0, .slice none 0 0], .slice none 0 0])
  | some (en, r) => ∃ A1 c1 A2 c2, e = .returned (.tuple #[recA ((en.1 / 65536 : Nat) : Int) ((en.1 % 65536 : Nat) : Int) A1 en.2.length c1, .slice A2 r.length c2]) ∧ BsOk wb A1 en.2 c1 ∧ BsOk wb A2 r c2
set_option maxHeartbeats 1000000 in
theorem first_any {wb w : World} {A : Option Addr} {l : List Nat} {cap : Nat} (hb : BsOk wb A l cap) (hbb : Below wb.heap.size wb w) (hl : l.length ≤ 10000000) :
    Calls Try.prog 33 #[.slice A l.length cap] w (FsQ wb w l) := by
  have h := hb.below hbb
  have hal : ∀ v, Below w.heap.size w (w.alloc v) := fun v => (Below.refl _ w).alloc (Nat.le_refl _) _
  by_cases h5 : l.length < 5
  · have HF : Hid (∀ v, FsQ wb w l (.returned (.tuple #[.agg #[.int .i64 0, .int .i64 0, .slice none 0 0], .slice none 0 0])) (w.alloc v)) := Lib.hid (fun v => by
      refine ⟨hal v, ?_⟩
      unfold fs
      rw [if_pos h5])
    have d1 : decide ((l.length : Int) < 5) = true := by simp; omega
    have d2 : decide (l.length < 5) = true := by simpa using h5
    clear h hal h5 hb hbb
    generalize FsQ wb w l = P at *
    generalize l.length = L at *
    go_enter Try.func33, Try.ntmps33
    go_wp2
    exact bodyPost_ret (v := .tuple #[.agg #[.int .i64 0, .int .i64 0, .slice none 0 0], .slice none 0 0]) (by simp [results, Try.results33, go_sem]) rfl (HF.out _)
  · obtain ⟨a, rfl⟩ : ∃ a, A = some a := by
      cases A with
      | none => have := (h.nil rfl).1; rw [this] at h5; simp at h5
      | some a => exact ⟨a, rfl⟩
    have hc : ∀ j, j < l.length → (w.alloc (.cells #[.int .i64 0, .int .i64 0, .slice none 0 0] 32)).cell? (a.add j) = some (.int .u8 (l.getD j 0 : Nat)) := by
      intro j hj
      obtain ⟨a', e, h1⟩ := (h.dat.below (hal _)) j hj
      cases e
      exact h1
    have hlt : ∀ j, j < l.length → l.getD j 0 < 256 := fun j hj => by
      have : l.getD j 0 = l[j] := by simp [List.getD, hj]
      rw [this]; exact h.lt _ (List.getElem_mem hj)
    obtain ⟨b0, hb0⟩ : ∃ b0, b0 = l.getD 0 0 := ⟨_, rfl⟩
    obtain ⟨b1, hb1⟩ : ∃ b1, b1 = l.getD 1 0 := ⟨_, rfl⟩
    obtain ⟨b2, hb2⟩ : ∃ b2, b2 = l.getD 2 0 := ⟨_, rfl⟩
    obtain ⟨b3, hb3⟩ : ∃ b3, b3 = l.getD 3 0 := ⟨_, rfl⟩
    obtain ⟨b4, hb4⟩ : ∃ b4, b4 = l.getD 4 0 := ⟨_, rfl⟩
    have c0 : (w.alloc (.cells #[.int .i64 0, .int .i64 0, .slice none 0 0] 32)).cell? a = some (.int .u8 (l.getD 0 0 : Nat)) := by have := hc 0 (by omega); simpa [Addr.add] using this
    have c1 : (w.alloc (.cells #[.int .i64 0, .int .i64 0, .slice none 0 0] 32)).cell? ⟨a.block, a.off + 1, none⟩ = some (.int .u8 (l.getD 1 0 : Nat)) := by have := hc 1 (by omega); simpa [Addr.add] using this
    have c2 : (w.alloc (.cells #[.int .i64 0, .int .i64 0, .slice none 0 0] 32)).cell? ⟨a.block, a.off + 2, none⟩ = some (.int .u8 (l.getD 2 0 : Nat)) := by have := hc 2 (by omega); simpa [Addr.add] using this
    have c3 : (w.alloc (.cells #[.int .i64 0, .int .i64 0, .slice none 0 0] 32)).cell? ⟨a.block, a.off + 3, none⟩ = some (.int .u8 (l.getD 3 0 : Nat)) := by have := hc 3 (by omega); simpa [Addr.add] using this
    have c4 : (w.alloc (.cells #[.int .i64 0, .int .i64 0, .slice none 0 0] 32)).cell? ⟨a.block, a.off + 4, none⟩ = some (.int .u8 (l.getD 4 0 : Nat)) := by have := hc 4 (by omega); simpa [Addr.add] using this
    have l0 := hlt 0 (by omega)
    have l1 := hlt 1 (by omega)
    have l2 := hlt 2 (by omega)
    have l3 := hlt 3 (by omega)
    have l4 := hlt 4 (by omega)
    rw [← hb0] at c0 l0
    rw [← hb1] at c1 l1
    rw [← hb2] at c2 l2
    rw [← hb3] at c3 l3
    rw [← hb4] at c4 l4
    have j1 : IntKind.i64.wrap ((b3 : Int) * 256) = (b3 : Int) * 256 := IntWalk.i64_in _ (by omega)
    have j2 := join_8 (k := b3) (n := b4) (by omega) l4
    obtain ⟨m, hm⟩ : ∃ m, m = b3 * 256 + b4 := ⟨_, rfl⟩
    rw [← hm] at j2
    have j3 : IntKind.i64.wrap (5 + (m : Int)) = 5 + (m : Int) := IntWalk.i64_in _ (by omega)
    have d1 : decide ((l.length : Int) < 5) = false := by simp; omega
    have d2 : decide (l.length < 5) = false := by simpa using h5
    obtain ⟨W, hW⟩ : ∃ W, W = w.alloc (.cells #[.int .i64 0, .int .i64 0, .slice none 0 0] 32) := ⟨_, rfl⟩
    rw [← hW] at c0 c1 c2 c3 c4
    have i0 : (0 : Int) < (l.length : Int) := by omega
    have i1 : (1 : Int) < (l.length : Int) := by omega
    have i2 : (2 : Int) < (l.length : Int) := by omega
    have i3 : (3 : Int) < (l.length : Int) := by omega
    have i4 : (4 : Int) < (l.length : Int) := by omega
    have hfs : fs l = if l.length < 5 + m then none else some ((b0 * 65536 + (b1 * 256 + b2), (l.drop 5).take m), l.drop (5 + m)) := by
      unfold fs
      rw [if_neg h5, ← hb0, ← hb1, ← hb2, ← hb3, ← hb4, ← hm]
    have HFN : Hid (l.length < 5 + m → ∀ V, Below w.heap.size w V → FsQ wb w l (.returned (.tuple #[.agg #[.int .i64 0, .int .i64 0, .slice none 0 0], .slice none 0 0])) V) := Lib.hid (fun h0 V hV => by
      refine ⟨hV, ?_⟩
      rw [hfs, if_pos h0])
    have HFS : Hid (¬ l.length < 5 + m → ∀ (V : World) (A1 A2 : Addr) (c1 c2 : Nat), Below w.heap.size w V → (A1 = a.add 5 ∨ m = 0) → (A2 = a.add (5 + m) ∨ l.length = 5 + m) → m ≤ c1 → l.length - (5 + m) ≤ c2 → FsQ wb w l (.returned (.tuple #[.agg #[.int .i64 (b0 : Int), .int .i64 ((b1 * 256 + b2 : Nat) : Int), .slice (some A1) m c1], .slice (some A2) (l.length - (5 + m)) c2])) V) := Lib.hid (fun h0 V A1 A2 cc1 cc2 hV e1 e2 hc1 hc2 => by
      refine ⟨hV, ?_⟩
      rw [hfs, if_neg h0]
      have hlm : ((l.drop 5).take m).length = m := by rw [List.length_take, List.length_drop]; omega
      refine ⟨some A1, cc1, some A2, cc2, ?_, ⟨?_, fun e => (by cases e), fun c hcm => h.lt c (List.mem_of_mem_drop (List.mem_of_mem_take hcm)), by rw [hlm]; exact hc1⟩, ⟨?_, fun e => (by cases e), fun c hcm => h.lt c (List.mem_of_mem_drop hcm), by rw [List.length_drop]; exact hc2⟩⟩
      · simp only [recA, hlm, List.length_drop]
        rw [show (b0 * 65536 + (b1 * 256 + b2)) / 65536 = b0 by omega, show (b0 * 65536 + (b1 * 256 + b2)) % 65536 = b1 * 256 + b2 by omega]
      · rcases e1 with e1 | e1
        · rw [e1]; exact (hb.dat.drop 5).take m
        · intro j hj; rw [hlm] at hj; omega
      · rcases e2 with e2 | e2
        · rw [e2]; exact hb.dat.drop _
        · intro j hj; rw [List.length_drop] at hj; omega)
    have k1 : IntKind.i64.wrap ((b1 : Int) * 256) = (b1 : Int) * 256 := IntWalk.i64_in _ (by omega)
    have k2 := join_8 (k := b1) (n := b2) (by omega) l2
    have hle := h.le
    have HWB : Hid (Below w.heap.size w W) := Lib.hid (by rw [hW]; exact hal _)
    have HBX : Hid (W.heap[w.heap.size]? = some (.cells #[.int .i64 0, .int .i64 0, .slice none 0 0] 32 (0, 0))) := Lib.hid (by rw [hW]; exact World.alloc_heap_new w _)
    have HM := Lib.hid hm
    have HAB : Hid (a.block < w.heap.size) := Lib.hid (by obtain ⟨a', e, h1⟩ := h.dat 0 (by omega); cases e; have := World.block_lt_of_cell? _ _ h1; rwa [add_block] at this)
    have HSL1 := Lib.hid (fun (h0 : ¬ l.length < 5 + m) => sl_lh a l.length cap m (by omega) hle)
    have HSL2 := Lib.hid (fun (h0 : ¬ l.length < 5 + m) => sl_l a l.length cap m (by omega) hle)
    obtain ⟨n, hn⟩ : ∃ n, n = b1 * 256 + b2 := ⟨_, rfl⟩
    rw [← hn] at k2 HFS
    have hmb : m < 65536 := by omega
    have hnb : n < 65536 := by omega
    have HW := Lib.hid hW
    clear hfs hb0 hb1 hb2 hb3 hb4 hm hn h hb hbb hal hc hlt hW
    generalize FsQ wb w l = P at *
    generalize l.length = L at *
    have h5' : 5 ≤ L := by omega
    by_cases hend : L < 5 + m
    · have HF := HFN.out hend
      have d3 : decide ((L : Int) < 5 + (m : Int)) = true := by simp; omega
      clear HFN HFS
      go_enter Try.func33, Try.ntmps33
      go_upto_region 3 with fail
      rw [← HW.out]
      go_quiet (fail)
      have hbV : Below w.heap.size w (W.drewN nq) := HWB.out.trans ⟨rfl, rfl, rfl, Nat.le_refl _, fun _ _ => rfl⟩
      have hqV : (W.drewN nq).heap[w.heap.size]? = some (.cells #[.int .i64 0, .int .i64 0, .slice none 0 0] 32 (0, 0)) := HBX.out
      generalize W.drewN nq = V at *
      obtain ⟨q, hq⟩ : ∃ q, w.heap.size = q := ⟨_, rfl⟩
      rw [hq] at hqV
      rw [hq]
      have q0 : V.cell? ⟨q, 0, none⟩ = some (.int .i64 0) := by rw [blk_cell hqV]; rfl
      have q1 : V.cell? ⟨q, 1, none⟩ = some (.int .i64 0) := by rw [blk_cell hqV]; rfl
      have q2 : V.cell? ⟨q, 2, none⟩ = some (.slice none 0 0) := by rw [blk_cell hqV]; rfl
      have f0 := blk_free hqV 0
      have f1 := blk_free hqV 1
      have f2 := blk_free hqV 2
      have HB := Lib.hid hbV
      have HQV := Lib.hid hqV
      have hB3 : Below w.heap.size w (((V.setCell ⟨q, 0, none⟩ (.int .i64 0)).setCell ⟨q, 1, none⟩ (.int .i64 0)).setCell ⟨q, 2, none⟩ (.slice none 0 0)) := ((hbV.setCell (by rw [← hq]; exact Nat.le_refl _) _).setCell (by rw [← hq]; exact Nat.le_refl _) _).setCell (by rw [← hq]; exact Nat.le_refl _) _
      have HF3 := Lib.hid (HF _ hB3)
      have r0 : (((V.setCell ⟨q, 0, none⟩ (.int .i64 0)).setCell ⟨q, 1, none⟩ (.int .i64 0)).setCell ⟨q, 2, none⟩ (.slice none 0 0)).heap[q]? = some (.cells #[.int .i64 0, .int .i64 0, .slice none 0 0] 32 (0, 0)) := by
        rw [blk_set (blk_set (blk_set hqV 0 _) 1 _) 2 _]; rfl
      have r1 := blk_cell r0 0
      have r2 := blk_cell r0 1
      have r3 := blk_cell r0 2
      simp only [List.getElem?_toArray, List.getElem?_cons_zero, List.getElem?_cons_succ] at r1 r2 r3
      clear hbV hqV c0 c1 c2 c3 c4 HF hB3 r0
      go_wp2
      exact bodyPost_ret (v := .tuple #[.agg #[.int .i64 0, .int .i64 0, .slice none 0 0], .slice none 0 0]) (by simp [results, Try.results33, go_sem, r1, r2, r3]) rfl HF3.out
    · have HF := HFS.out hend
      have d3 : decide ((L : Int) < 5 + (m : Int)) = false := by simp; omega
      clear HFN HFS
      go_enter Try.func33, Try.ntmps33
      go_upto_region 3 with fail
      rw [← HW.out]
      go_quiet (fail)
      go_upto_region 6 with fail
      have hbV : Below w.heap.size w (W.drewN nq) := HWB.out.trans ⟨rfl, rfl, rfl, Nat.le_refl _, fun _ _ => rfl⟩
      have hqV : (W.drewN nq).heap[w.heap.size]? = some (.cells #[.int .i64 0, .int .i64 0, .slice none 0 0] 32 (0, 0)) := HBX.out
      have c0V : (W.drewN nq).cell? a = some (Value.int IntKind.u8 ↑b0) := c0
      have c1V : (W.drewN nq).cell? ⟨a.block, a.off + 1, none⟩ = some (Value.int IntKind.u8 ↑b1) := c1
      have c2V : (W.drewN nq).cell? ⟨a.block, a.off + 2, none⟩ = some (Value.int IntKind.u8 ↑b2) := c2
      clear c0 c1 c2 c3 c4
      generalize W.drewN nq = V at *
      obtain ⟨q, hq⟩ : ∃ q, w.heap.size = q := ⟨_, rfl⟩
      rw [hq] at hqV
      rw [hq]
      have q0 : V.cell? ⟨q, 0, none⟩ = some (.int .i64 0) := by rw [blk_cell hqV]; rfl
      have q1 : V.cell? ⟨q, 1, none⟩ = some (.int .i64 0) := by rw [blk_cell hqV]; rfl
      have q2 : V.cell? ⟨q, 2, none⟩ = some (.slice none 0 0) := by rw [blk_cell hqV]; rfl
      have f0 := blk_free hqV 0
      have f1 := blk_free hqV 1
      have f2 := blk_free hqV 2
      have HB := Lib.hid hbV
      have HQV := Lib.hid hqV
      obtain ⟨S1, k1', hS1, hk1', hsl1⟩ := HSL1.out hend
      obtain ⟨S2, k2', hS2, hk2', hsl2⟩ := HSL2.out hend
      have hB3 : Below w.heap.size w (((V.setCell ⟨q, 0, none⟩ (.int .i64 (b0 : Int))).setCell ⟨q, 1, none⟩ (.int .i64 (n : Int))).setCell ⟨q, 2, none⟩ (.slice (some S1) m k1')).drew := (((hbV.setCell (by rw [← hq]; exact Nat.le_refl _) _).setCell (by rw [← hq]; exact Nat.le_refl _) _).setCell (by rw [← hq]; exact Nat.le_refl _) _).drew
      have HF3 := Lib.hid (HF _ S1 S2 k1' k2' hB3 hS1 hS2 hk1' hk2')
      have hkU : Kept (fun k => k = q) V (((V.setCell ⟨q, 0, none⟩ (.int .i64 (b0 : Int))).setCell ⟨q, 1, none⟩ (.int .i64 (n : Int))).setCell ⟨q, 2, none⟩ (.slice (some S1) m k1')).drew :=
        ((((Kept.refl (fun k => k = q) V).setCell (p := ⟨q, 0, none⟩) (.inl rfl) _).setCell (p := ⟨q, 1, none⟩) (.inl rfl) _).setCell (p := ⟨q, 2, none⟩) (.inl rfl) _).drew
      have haq : ¬ a.block = q := by have := HAB.out; omega
      have e0V := hkU.cell c0V haq
      have e1V := hkU.cell c1V haq
      have e2V := hkU.cell c2V haq
      have r0 : (((V.setCell ⟨q, 0, none⟩ (.int .i64 (b0 : Int))).setCell ⟨q, 1, none⟩ (.int .i64 (n : Int))).setCell ⟨q, 2, none⟩ (.slice (some S1) m k1')).heap[q]? = some (.cells #[.int .i64 (b0 : Int), .int .i64 (n : Int), .slice (some S1) m k1'] 32 (0, 0)) := by
        rw [blk_set (blk_set (blk_set hqV 0 _) 1 _) 2 _]; rfl
      have r1 := blk_cell r0 0
      have r2 := blk_cell r0 1
      have r3 := blk_cell r0 2
      simp only [List.getElem?_toArray, List.getElem?_cons_zero, List.getElem?_cons_succ] at r1 r2 r3
      have w0 : IntKind.i64.wrap (b0 : Int) = (b0 : Int) := i64_nat (by omega)
      have w1 : IntKind.i64.wrap (b1 : Int) = (b1 : Int) := i64_nat (by omega)
      have w2 : IntKind.i64.wrap (b2 : Int) = (b2 : Int) := i64_nat (by omega)
      have HQ := Lib.hid hq
      have i0' : 0 < L := by omega
      have i5 : (0 : Int) ≤ 5 + (m : Int) := by omega
      generalize L - (5 + m) = L2 at *
      clear hbV hqV HF hB3 r0 hS1 hS2 hk1' hk2' hend hle h5 h5' hkU haq hq HSL1 HSL2 HAB HB HQV HBX HW HWB HM
      go_region_held3 (fun U => U.cell? a = some (Value.int IntKind.u8 ↑b0) ∧ U.cell? ⟨a.block, a.off + 1, none⟩ = some (Value.int IntKind.u8 ↑b1) ∧ U.cell? ⟨a.block, a.off + 2, none⟩ = some (Value.int IntKind.u8 ↑b2)) (first | exact ⟨c0V, c1V, c2V⟩ | exact ⟨e0V, e1V, e2V⟩) (fail)
      go_wp2
      exact bodyPost_ret (v := .tuple #[.agg #[.int .i64 (b0 : Int), .int .i64 (n : Int), .slice (some S1) m k1'], .slice (some S2) L2 k2']) (by simp [results, Try.results33, go_sem, r1, r2, r3]) rfl HF3.out
end Go.Proofs.Ytgciibcngmimkaa
