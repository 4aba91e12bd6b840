/-
  The document's Read.
-/
import Derived.Test.YtgciibcngmimkaaSfW
namespace Go.Proofs.Ytgciibcngmimkaa
set_option maxRecDepth 100000
set_option linter.unusedSimpArgs false
open Go Go.RowKit Sf

/-- Between two rounds of the document's Read. -/
structure RrI (w : World) (l : List Nat) (p : Nat) (M : List Ent) (ks : List Rc) (v : Value) (W : World) : Prop where
  below : Below w.heap.size w W
  row : W.ownsRow w.heap.size 32 3 v ks.length (csK ks)
  eq : ks.map (·.r) = M.map toR
  recs : ∀ x ∈ ks, RecOk w x.r x.A x.cap
  ok : Ok M
  rd : rd (l.length - p) M (l.drop p) = rdA l
theorem fs_at {l : List Nat} {p : Nat} (h : p + 5 ≤ l.length) : fs (l.drop p) = if l.length - p < 5 + (l.getD (p + 3) 0 * 256 + l.getD (p + 4) 0) then none
    else some ((l.getD p 0 * 65536 + (l.getD (p + 1) 0 * 256 + l.getD (p + 2) 0), (l.drop (p + 5)).take (l.getD (p + 3) 0 * 256 + l.getD (p + 4) 0)), l.drop (p + 5 + (l.getD (p + 3) 0 * 256 + l.getD (p + 4) 0))) := by
  have e : ∀ q, (l.drop p).getD q 0 = l.getD (p + q) 0 := fun q => by simp [List.getD]
  unfold fs
  rw [if_neg (by rw [List.length_drop]; omega), List.length_drop, e 0, e 1, e 2, e 3, e 4, List.drop_drop, List.drop_drop]
  simp only [Nat.add_zero]
  rw [Nat.add_assoc]
theorem sl_pq (a : Addr) (L cap lo m : Nat) (h : lo + m ≤ L) (hle : L ≤ cap) : ∃ S1 k1, (S1 = a.add lo ∨ m = 0) ∧ m ≤ k1 ∧ ∀ (x y : Int), x = (lo : Int) → y = (lo : Int) + (m : Int) → ∀ U, (Instr.slice 30 (.slice (some a) L cap) (some (.int .i64 x)) (some (.int .i64 y)) none).run Try.prog U = .ok (.slice (some S1) m k1) U := by
  have e : ((lo : Int) + (m : Int)).toNat - lo = m := by omega
  have e5 : ((lo : Nat) : Int).toNat = lo := by omega
  have hr := fun U => run_slice_lh U 30 (some a) L cap Try.underlying30 .i64 .i64 (lo : Int) ((lo : Int) + (m : Int)) (by omega) (by omega) (by omega)
  have hz : ∀ U, (sizeOf (Try.prog.elem 30)).run Try.prog U = .ok 1 U := fun U => by kernel_rfl
  by_cases hc5 : cap = lo
  · refine ⟨a, 0, .inr (by omega), by omega, fun x y hx hy U => ?_⟩
    rw [hx, hy, hr, hz]
    simp only [Result.andThen, sliced, e5, e, hc5, if_true, Nat.sub_self]
  · refine ⟨a.add lo, cap - lo, .inl rfl, by omega, fun x y hx hy U => ?_⟩
    rw [hx, hy, hr, hz]
    simp only [Result.andThen, sliced, e5, e, hc5, if_false, Option.map_some, Nat.mul_one]
theorem acc_step {w V W9 : World} {l : List Nat} {p m2 b0 n2 : Nat} {M : List Ent} {ks : List Rc} {A2 : Option Addr} {c2 : Nat} {en : Ent} {S : Addr} {k2 : Nat}
    (hI : RrI w l p M ks (.slice A2 ks.length c2) V) (hV9 : Below V.heap.size V W9) (hbx : W9.heap[V.heap.size]? = some (.cells #[.int .i64 (b0 : Int), .int .i64 (n2 : Int), .slice none 0 0] 32 (0, 0)))
    (hk : en.1 / 65536 = b0) (hn : en.1 % 65536 = n2) (hm : en.2.length = m2) (hr : RecOk w (toR en) (some S) k2) (hok : Ok (M ++ [en])) (hrd : rd (l.length - (p + 5 + m2)) (M ++ [en]) (l.drop (p + 5 + m2)) = rdA l) :
    (W9.cell? ⟨V.heap.size, 2, none⟩ = some (.slice none 0 0) ∧ W9.frozen? ⟨V.heap.size, 2, none⟩ = false) ∧ ∃ W10, W9.setCell ⟨V.heap.size, 2, none⟩ (.slice (some S) m2 k2) = W10 ∧
      (W10.cell? ⟨V.heap.size, 0, none⟩ = some (.int .i64 (b0 : Int)) ∧ W10.cell? ⟨V.heap.size, 1, none⟩ = some (.int .i64 (n2 : Int)) ∧ W10.cell? ⟨V.heap.size, 2, none⟩ = some (.slice (some S) m2 k2)) ∧
      ∃ v' W12, (Builtin.append_ #[22, 22] 22 #[.slice A2 ks.length c2, .slice (some ⟨W10.heap.size, 0, none⟩) 1 1]).run Try.prog (W10.alloc (.cells #[.int .i64 (b0 : Int), .int .i64 (n2 : Int), .slice (some S) m2 k2] 32)) = .ok v' W12 ∧
        RrI w l (p + 5 + m2) (M ++ [en]) (ks ++ [⟨toR en, some S, k2⟩]) v' W12 := by
  obtain ⟨i0, hi, hz0, hz1, hz2⟩ := info_parts Try.infoRec3
  have hw := hI.below.size
  have hkl : ks.length ≤ 4096 := by
    have h1 := congrArg List.length hI.eq
    have h2 := hI.ok.len
    simp at h1
    omega
  refine ⟨⟨by rw [blk_cell hbx]; rfl, blk_free hbx 2⟩, _, rfl, ?_, ?_⟩
  · have hb := blk_set (j := 2) hbx (.slice (some S) m2 k2)
    exact ⟨by rw [blk_cell hb]; rfl, by rw [blk_cell hb]; rfl, by rw [blk_cell hb]; rfl⟩
  · have hlt : ∀ g, (Value.slice A2 ks.length c2).ownBlock = some g → g < V.heap.size := fun g hg => (hI.row.lt g hg).2
    have r9 := (Kept.of_below (X := fun _ => False) hV9 (Nat.le_refl _)).row hI.row (fun _ _ => id)
    have hK10 : Kept (fun k => k = V.heap.size) W9 (W9.setCell ⟨V.heap.size, 2, none⟩ (.slice (some S) m2 k2)) := (Kept.refl (fun k => k = V.heap.size) W9).setCell (p := ⟨V.heap.size, 2, none⟩) (.inl rfl) _
    have r10 := hK10.row r9 (fun g hg e => by have := hlt g hg; omega)
    have hV10 : Below V.heap.size V (W9.setCell ⟨V.heap.size, 2, none⟩ (.slice (some S) m2 k2)) := hV9.trans (hK10.below (fun k e => by omega) hV9.size)
    generalize W9.setCell ⟨V.heap.size, 2, none⟩ (.slice (some S) m2 k2) = W10 at *
    have hV11 : Below V.heap.size V (W10.alloc (.cells #[.int .i64 (b0 : Int), .int .i64 (n2 : Int), .slice (some S) m2 k2] 32)) := hV10.alloc hV10.size _
    have h11 : w.heap.size ≤ (W10.alloc (.cells #[.int .i64 (b0 : Int), .int .i64 (n2 : Int), .slice (some S) m2 k2] 32)).heap.size := Nat.le_trans hw hV11.size
    obtain ⟨v', W12, hr12, ho12, hg12, _, _⟩ := run_append_own_at (P := Try.prog) (W10.alloc (.cells #[.int .i64 (b0 : Int), .int .i64 (n2 : Int), .slice (some S) m2 k2] 32)) w.heap.size 22 22 32 i0 _ 3 40 Try.underlying22 hi hz0 hz1 hz2 rfl (by decide) _ ks.length (csK ks) (r10.alloc _) ⟨W10.heap.size, 0, none⟩ 1 1 [.int .i64 (b0 : Int), .int .i64 (n2 : Int), .slice (some S) m2 k2] rfl (World.news_of_block (cs := #[.int .i64 (b0 : Int), .int .i64 (n2 : Int), .slice (some S) m2 k2]) (World.alloc_heap_new W10 _)) (by intro u hu; simp at hu; rcases hu with rfl | rfl | rfl <;> rfl) (by unfold maxLen; omega) (by omega) h11
    refine ⟨v', W12, hr12, ?_, ?_, ?_, ?_, hok, hrd⟩
    · exact (hI.below.trans (hV11.mono hw)).grown hg12 h11 (fun g e => (hI.row.lt g e).1)
    · rw [csK_snoc, List.length_append, List.length_singleton]
      simp only [toR, hk, hn, hm]
      exact ho12
    · rw [List.map_append, List.map_append, hI.eq]; rfl
    · intro x hx
      rcases List.mem_append.1 hx with hx | hx
      · exact hI.recs x hx
      · have : x = ⟨toR en, some S, k2⟩ := by simpa using hx
        subst this; exact hr
theorem map_gD (l : List Rc) (j : Nat) : (l.map (·.r)).getD j ⟨0, 0, []⟩ = (l.getD j default).r := by
  simp only [List.getD, List.getElem?_map]
  cases l[j]? <;> rfl
theorem last_lt {M : List Ent} {K1 : Nat} (h : M.length = K1 + 1) : lastI M = ((M.getD K1 (0, [])).1 : Int) := by
  unfold lastI
  have : M.getLast? = some (M.getD K1 (0, [])) := by
    rw [List.getLast?_eq_getElem?, h]
    simp [List.getD, h]
  rw [this]
theorem ah_pl {p b n : Nat} (hn : n < 65536) : ahD ((p / 65536 : Nat) : Int) ((p % 65536 : Nat) : Int) (b : Int) (n : Int) = decide ((p : Int) < ((b * 65536 + n : Nat) : Int)) := by
  unfold ahD
  rw [Bool.eq_iff_iff]
  simp only [Bool.or_eq_true, Bool.and_eq_true, decide_eq_true_eq]
  omega
theorem belowD {B : Nat} {w W : World} (h : Below B w W) (n : Nat) : Below B w (W.drewN n) := ⟨h.os, h.tape, h.output, h.size, h.block⟩
set_option maxHeartbeats 8000000 in
theorem rread_any {w : World} {A : Option Addr} {l : List Nat} {cap : Nat} (h : BsOk w A l cap) (hl : l.length ≤ 4000) :
    Calls Try.prog 25 #[.slice A l.length cap] w (RrQ w l) := by
  obtain ⟨P, hP⟩ : ∃ P, P = RrQ w l := ⟨_, rfl⟩
  have HP1 : Hid (rdA l = none → ∀ V, Below w.heap.size w V → P (.returned (.tuple #[.slice none 0 0, .int .i64 131])) V) := Lib.hid (fun h1 V hV => by rw [hP]; exact ⟨hV, .inl ⟨h1, rfl⟩⟩)
  have HP2 : Hid (∀ M A2 ks c2 V, rdA l = some M → Below w.heap.size w V → RsM V A2 ks M → P (.returned (.tuple #[.slice A2 ks.length c2, .int .i64 0])) V) := Lib.hid (fun M A2 ks c2 V h1 hV h2 => by rw [hP]; exact ⟨hV, .inr ⟨M, A2, ks, c2, h1, rfl, h2⟩⟩)
  rw [← hP]
  clear hP
  have HBs := Lib.hid h
  clear h
  have H0 : Hid (RrI w l 0 [] [] (.slice none 0 0) w) := Lib.hid ⟨Below.refl _ w, World.ownsRow_nil _ _ _ _, rfl, fun x hx => (by cases hx), Ok.nil, rfl⟩
  obtain ⟨L, hL⟩ : ∃ L, L = l.length := ⟨_, rfl⟩
  have HL := Lib.hid hL
  have hL4 : L ≤ 4000 := by omega
  rw [← hL]
  clear hL hl
  go_enter Try.func25, Try.ntmps25
  go_wp2_with fail
  go_loopw [4, 5] (fun out i wr => ∃ (p : Nat) (M : List Ent) (ks : List Rc) (v : Value), p ≤ L ∧ i = .int .i64 (p : Int) ∧ v = out ∧ RrI w l p M ks v wr) (fun _ i _ => L - (intOf i).toNat)
  case atStart => exact ⟨0, [], [], _, by omega, rfl, rfl, H0.out⟩
  case round =>
    obtain ⟨p, M, ks, out, hp, rfl, hout, hI⟩ := hrel
    subst hout
    rename World => V
    have HI := Lib.hid hI
    clear hI H0
    by_cases hpl : p < L
    · have hfuel : rdA l = rd (L - p - 1 + 1) M (l.drop p) := by rw [← HI.out.rd, ← HL.out]; congr 1; omega
      unfold rd at hfuel
      rw [if_neg (by intro e; have := congrArg List.length e; rw [List.length_drop, ← HL.out] at this; simp at this; omega)] at hfuel
      have HF := Lib.hid hfuel
      clear hfuel
      by_cases h5 : L - p < 5
      · have hn : rdA l = none := by
          rw [HF.out]
          unfold fs
          rw [if_pos (by rw [List.length_drop, ← HL.out]; omega)]
        have HN := Lib.hid (HP1.out hn V HI.out.below)
        have d1 : ((L : Int) - (p : Int) < 5) := by omega
        clear hn HF HP1 HP2
        go_wp2
        exact HN.out
      have hfs := fs_at (l := l) (p := p) (by rw [← HL.out]; omega)
      have hcell : ∀ q, q < L → ∃ a, A = some a ∧ V.cell? (a.add q) = some (.int .u8 ((l.getD q 0 : Nat) : Int)) := fun q hq => (HBs.out.dat.below HI.out.below) q (by rw [← HL.out]; exact hq)
      have hbyte : ∀ q, l.getD q 0 < 256 := fun q => by
        by_cases hq : q < l.length
        · rw [show l.getD q 0 = l[q] by simp [List.getD, hq]]; exact HBs.out.lt _ (List.getElem_mem _)
        · rw [show l.getD q 0 = 0 by simp [List.getD, hq]]; omega
      obtain ⟨a, rfl, c0⟩ := hcell p (by omega)
      have hadd : ∀ q, q + 0 < L → (a.add q) = ⟨a.block, a.off + q, none⟩ ∨ q = 0 := fun q _ => by
        by_cases h0 : q = 0
        · exact .inr h0
        · left; simp [Addr.add, h0]
      have hc1 : V.cell? ⟨a.block, a.off + (p + 1), none⟩ = some (.int .u8 ((l.getD (p + 1) 0 : Nat) : Int)) := by
        obtain ⟨a', e, h1⟩ := hcell (p + 1) (by omega)
        injection e with e; subst e
        rcases hadd (p + 1) (by omega) with h | h
        · rw [← h]; exact h1
        · omega
      have hc2 : V.cell? ⟨a.block, a.off + (p + 2), none⟩ = some (.int .u8 ((l.getD (p + 2) 0 : Nat) : Int)) := by
        obtain ⟨a', e, h1⟩ := hcell (p + 2) (by omega)
        injection e with e; subst e
        rcases hadd (p + 2) (by omega) with h | h
        · rw [← h]; exact h1
        · omega
      have hc3 : V.cell? ⟨a.block, a.off + (p + 3), none⟩ = some (.int .u8 ((l.getD (p + 3) 0 : Nat) : Int)) := by
        obtain ⟨a', e, h1⟩ := hcell (p + 3) (by omega)
        injection e with e; subst e
        rcases hadd (p + 3) (by omega) with h | h
        · rw [← h]; exact h1
        · omega
      have hc4 : V.cell? ⟨a.block, a.off + (p + 4), none⟩ = some (.int .u8 ((l.getD (p + 4) 0 : Nat) : Int)) := by
        obtain ⟨a', e, h1⟩ := hcell (p + 4) (by omega)
        injection e with e; subst e
        rcases hadd (p + 4) (by omega) with h | h
        · rw [← h]; exact h1
        · omega
      have v0 := hbyte p
      have v1 := hbyte (p + 1)
      have v2 := hbyte (p + 2)
      have v3 := hbyte (p + 3)
      have v4 := hbyte (p + 4)
      clear hcell hadd hbyte
      rw [hfs] at HF
      clear hfs
      generalize l.getD p 0 = b0 at *
      generalize l.getD (p + 1) 0 = b1 at *
      generalize l.getD (p + 2) 0 = b2 at *
      generalize l.getD (p + 3) 0 = b3 at *
      generalize l.getD (p + 4) 0 = b4 at *
      have w0 : IntKind.i64.wrap (b0 : Int) = (b0 : Int) := i64_nat (by omega)
      have w1 : IntKind.i64.wrap (b1 : Int) = (b1 : Int) := i64_nat (by omega)
      have w2 : IntKind.i64.wrap (b2 : Int) = (b2 : Int) := i64_nat (by omega)
      have w3 : IntKind.i64.wrap (b3 : Int) = (b3 : Int) := i64_nat (by omega)
      have w4 : IntKind.i64.wrap (b4 : Int) = (b4 : Int) := i64_nat (by omega)
      have w5 : IntKind.i64.wrap ((b1 : Int) * 256) = (b1 : Int) * 256 := IntWalk.i64_in _ (by omega)
      have w6 : IntKind.i64.wrap ((b1 : Int) * 256 + (b2 : Int)) = (b1 : Int) * 256 + (b2 : Int) := IntWalk.i64_in _ (by omega)
      have w7 : IntKind.i64.wrap ((b3 : Int) * 256) = (b3 : Int) * 256 := IntWalk.i64_in _ (by omega)
      have w8 : IntKind.i64.wrap ((b3 : Int) * 256 + (b4 : Int)) = (b3 : Int) * 256 + (b4 : Int) := IntWalk.i64_in _ (by omega)
      have u1 : IntKind.i64.wrap ((p : Int) + 1) = (p : Int) + 1 := IntWalk.i64_in _ (by omega)
      have u2 : IntKind.i64.wrap ((p : Int) + 2) = (p : Int) + 2 := IntWalk.i64_in _ (by omega)
      have u3 : IntKind.i64.wrap ((p : Int) + 3) = (p : Int) + 3 := IntWalk.i64_in _ (by omega)
      have u4 : IntKind.i64.wrap ((p : Int) + 4) = (p : Int) + 4 := IntWalk.i64_in _ (by omega)
      have p0 : (0 : Int) ≤ (p : Int) := by omega
      have p1 : (0 : Int) ≤ (p : Int) + 1 := by omega
      have p2 : (0 : Int) ≤ (p : Int) + 2 := by omega
      have p3 : (0 : Int) ≤ (p : Int) + 3 := by omega
      have p4 : (0 : Int) ≤ (p : Int) + 4 := by omega
      have q0 : (p : Int) < (L : Int) := by omega
      have q1 : (p : Int) + 1 < (L : Int) := by omega
      have q2 : (p : Int) + 2 < (L : Int) := by omega
      have q3 : (p : Int) + 3 < (L : Int) := by omega
      have q4 : (p : Int) + 4 < (L : Int) := by omega
      have t1 : ((p : Int) + 1).toNat = p + 1 := by omega
      have t2 : ((p : Int) + 2).toNat = p + 2 := by omega
      have t3 : ((p : Int) + 3).toNat = p + 3 := by omega
      have t4 : ((p : Int) + 4).toNat = p + 4 := by omega
      have nd1 : ¬ ((L : Int) - (p : Int) < 5) := by omega
      have HS : Hid (∀ U, Below V.heap.size V U → U.cell? (a.add p) = some (.int .u8 (b0 : Int)) ∧ U.cell? ⟨a.block, a.off + (p + 1), none⟩ = some (.int .u8 (b1 : Int)) ∧ U.cell? ⟨a.block, a.off + (p + 2), none⟩ = some (.int .u8 (b2 : Int))) := Lib.hid (fun U hU => by
        have hk := Kept.of_below (X := fun _ => False) hU (Nat.le_refl _)
        exact ⟨hk.cell c0 id, hk.cell hc1 id, hk.cell hc2 id⟩)
      go_upto_region 6 with fail
      have d0 := HS.out _ ((Below.refl _ V).drew)
      have hS5a := HS.out _ (((Below.refl _ V).drew.alloc (by simp) (.cells #[.int .i64 0, .int .i64 0, .slice none 0 0] 32)))
      have hS5 := HS.out _ (((Below.refl _ V).alloc (Nat.le_refl _) (.cells #[.int .i64 (b0 : Int), .int .i64 ((b1 : Int) * 256 + (b2 : Int)), .slice none 0 0] 32)).drew)
      refine wp_region_held_drew (S := fun U => U.cell? (a.add p) = some (.int .u8 (b0 : Int)) ∧ U.cell? ⟨a.block, a.off + (p + 1), none⟩ = some (.int .u8 (b1 : Int)) ∧ U.cell? ⟨a.block, a.off + (p + 2), none⟩ = some (.int .u8 (b2 : Int))) (by kernel_rfl) d0 (fun hHeld => ?_)
      simp only [List.size_toArray, List.length_cons, List.length_nil, Nat.reduceAdd, Array.replicate_succ, Array.replicate_zero, List.push_toArray, List.nil_append, List.cons_append, List.append_toArray]
      refine take_op (i := 0) (v := ?_) rfl (by kernel_rfl) (by kernel_rfl) (by kernel_rfl) (fun _ _ _ h => h) (Or.inl ⟨by rfl, ?_⟩) (by assumption) ?_
      rotate_left
      · (intro w' hSw; (try dsimp only at hSw); go_simp; (try with_reducible rfl))
      simp only [Act.put, List.setIfInBounds_toArray, List.set_cons_zero, List.set_cons_succ]
      refine take_op (i := 1) (v := ?_) rfl (by kernel_rfl) (by kernel_rfl) (by kernel_rfl) (fun _ _ _ h => h) (Or.inl ⟨by rfl, ?_⟩) (by assumption) ?_
      rotate_left
      · (intro w' hSw; (try dsimp only at hSw); go_simp; (try with_reducible rfl))
      simp only [Act.put, List.setIfInBounds_toArray, List.set_cons_zero, List.set_cons_succ]
      refine take_op (i := 2) (v := ?_) rfl (by kernel_rfl) (by kernel_rfl) (by kernel_rfl) (fun _ _ _ h => h) (Or.inl ⟨by rfl, ?_⟩) (by assumption) ?_
      rotate_left
      · (intro w' hSw; (try dsimp only at hSw); go_simp; (try with_reducible rfl))
      simp only [Act.put, List.setIfInBounds_toArray, List.set_cons_zero, List.set_cons_succ]
      refine take_op (i := 3) (v := ?_) rfl (by kernel_rfl) (by kernel_rfl) (by kernel_rfl) (fun _ _ _ h => h) (Or.inl ⟨by rfl, ?_⟩) (by assumption) ?_
      rotate_left
      · (intro w' hSw; obtain ⟨c0', c1', c2'⟩ := hSw; go_simp; (try with_reducible rfl))
      simp only [Act.put, List.setIfInBounds_toArray, List.set_cons_zero, List.set_cons_succ]
      refine take_op (i := 4) (v := ?_) rfl (by kernel_rfl) (by kernel_rfl) (by kernel_rfl) (fun _ _ _ h => h) (Or.inl ⟨by rfl, ?_⟩) (by assumption) ?_
      rotate_left
      · (intro w' hSw; (try dsimp only at hSw); go_simp; (try with_reducible rfl))
      simp only [Act.put, List.setIfInBounds_toArray, List.set_cons_zero, List.set_cons_succ]
      refine take_op (i := 5) (v := ?_) rfl (by kernel_rfl) (by kernel_rfl) (by kernel_rfl) (fun _ _ _ h => h) (Or.inl ⟨by rfl, ?_⟩) (by assumption) ?_
      rotate_left
      · (intro w' hSw; (try dsimp only at hSw); go_simp; (try with_reducible rfl))
      simp only [Act.put, List.setIfInBounds_toArray, List.set_cons_zero, List.set_cons_succ]
      refine take_op (i := 6) (v := ?_) rfl (by kernel_rfl) (by kernel_rfl) (by kernel_rfl) (fun _ _ _ h => h) (Or.inl ⟨by rfl, ?_⟩) (by assumption) ?_
      rotate_left
      · (intro w' hSw; (try dsimp only at hSw); go_simp; (try with_reducible rfl))
      simp only [Act.put, List.setIfInBounds_toArray, List.set_cons_zero, List.set_cons_succ]
      refine take_op (i := 7) (v := ?_) rfl (by kernel_rfl) (by kernel_rfl) (by kernel_rfl) (fun _ _ _ h => h) (Or.inl ⟨by rfl, ?_⟩) (by assumption) ?_
      rotate_left
      · (intro w' hSw; (try dsimp only at hSw); go_simp; (try with_reducible rfl))
      simp only [Act.put, List.setIfInBounds_toArray, List.set_cons_zero, List.set_cons_succ]
      refine take_op (i := 8) (v := ?_) rfl (by kernel_rfl) (by kernel_rfl) (by kernel_rfl) (fun _ _ _ h => h) (Or.inl ⟨by rfl, ?_⟩) (by assumption) ?_
      rotate_left
      · (intro w' hSw; (try dsimp only at hSw); go_simp; (try with_reducible rfl))
      simp only [Act.put, List.setIfInBounds_toArray, List.set_cons_zero, List.set_cons_succ]
      refine take_op (i := 9) (v := ?_) rfl (by kernel_rfl) (by kernel_rfl) (by kernel_rfl) (fun _ _ _ h => h) (Or.inl ⟨by rfl, ?_⟩) (by assumption) ?_
      rotate_left
      · (intro w' hSw; obtain ⟨c0', c1', c2'⟩ := hSw; go_simp; (try with_reducible rfl))
      simp only [Act.put, List.setIfInBounds_toArray, List.set_cons_zero, List.set_cons_succ]
      refine take_op (i := 10) (v := ?_) rfl (by kernel_rfl) (by kernel_rfl) (by kernel_rfl) (fun _ _ _ h => h) (Or.inl ⟨by rfl, ?_⟩) (by assumption) ?_
      rotate_left
      · (intro w' hSw; (try dsimp only at hSw); go_simp; (try with_reducible rfl))
      simp only [Act.put, List.setIfInBounds_toArray, List.set_cons_zero, List.set_cons_succ]
      refine take_op (i := 11) (v := ?_) rfl (by kernel_rfl) (by kernel_rfl) (by kernel_rfl) (fun _ _ _ h => h) (Or.inl ⟨by rfl, ?_⟩) (by assumption) ?_
      rotate_left
      · (intro w' hSw; (try dsimp only at hSw); go_simp; (try with_reducible rfl))
      simp only [Act.put, List.setIfInBounds_toArray, List.set_cons_zero, List.set_cons_succ]
      refine take_op (i := 12) (v := ?_) rfl (by kernel_rfl) (by kernel_rfl) (by kernel_rfl) (fun _ _ _ h => h) (Or.inl ⟨by rfl, ?_⟩) (by assumption) ?_
      rotate_left
      · (intro w' hSw; (try dsimp only at hSw); go_simp; (try with_reducible rfl))
      simp only [Act.put, List.setIfInBounds_toArray, List.set_cons_zero, List.set_cons_succ]
      refine take_op (i := 13) (v := ?_) rfl (by kernel_rfl) (by kernel_rfl) (by kernel_rfl) (fun _ _ _ h => h) (Or.inl ⟨by rfl, ?_⟩) (by assumption) ?_
      rotate_left
      · (intro w' hSw; (try dsimp only at hSw); go_simp; (try with_reducible rfl))
      simp only [Act.put, List.setIfInBounds_toArray, List.set_cons_zero, List.set_cons_succ]
      refine take_op (i := 14) (v := ?_) rfl (by kernel_rfl) (by kernel_rfl) (by kernel_rfl) (fun _ _ _ h => h) (Or.inl ⟨by rfl, ?_⟩) (by assumption) ?_
      rotate_left
      · (intro w' hSw; (try dsimp only at hSw); go_simp; (try with_reducible rfl))
      simp only [Act.put, List.setIfInBounds_toArray, List.set_cons_zero, List.set_cons_succ]
      refine take_op (i := 15) (v := ?_) rfl (by kernel_rfl) (by kernel_rfl) (by kernel_rfl) (fun _ _ _ h => h) (Or.inl ⟨by rfl, ?_⟩) (by assumption) ?_
      rotate_left
      · (intro w' hSw; (try dsimp only at hSw); go_simp; (try with_reducible rfl))
      simp only [Act.put, List.setIfInBounds_toArray, List.set_cons_zero, List.set_cons_succ]
      refine take_op (i := 16) (v := ?_) rfl (by kernel_rfl) (by kernel_rfl) (by kernel_rfl) (fun _ _ _ h => h) (Or.inl ⟨by rfl, ?_⟩) (by assumption) ?_
      rotate_left
      · (intro w' hSw; obtain ⟨c0', c1', c2'⟩ := hSw; go_simp; (try with_reducible rfl))
      simp only [Act.put, List.setIfInBounds_toArray, List.set_cons_zero, List.set_cons_succ]
      refine take_op (i := 17) (v := ?_) rfl (by kernel_rfl) (by kernel_rfl) (by kernel_rfl) (fun _ _ _ h => h) (Or.inl ⟨by rfl, ?_⟩) (by assumption) ?_
      rotate_left
      · (intro w' hSw; (try dsimp only at hSw); go_simp; (try with_reducible rfl))
      simp only [Act.put, List.setIfInBounds_toArray, List.set_cons_zero, List.set_cons_succ]
      refine take_op (i := 18) (v := ?_) rfl (by kernel_rfl) (by kernel_rfl) (by kernel_rfl) (fun _ _ _ h => h) (Or.inl ⟨by rfl, ?_⟩) (by assumption) ?_
      rotate_left
      · (intro w' hSw; (try dsimp only at hSw); go_simp; (try with_reducible rfl))
      simp only [Act.put, List.setIfInBounds_toArray, List.set_cons_zero, List.set_cons_succ]
      refine take_op (i := 19) (v := ?_) rfl (by kernel_rfl) (by kernel_rfl) (by kernel_rfl) (fun _ _ _ h => h) (Or.inl ⟨by rfl, ?_⟩) (by assumption) ?_
      rotate_left
      · (intro w' hSw; (try dsimp only at hSw); go_simp; (try with_reducible rfl))
      simp only [Act.put, List.setIfInBounds_toArray, List.set_cons_zero, List.set_cons_succ]
      refine wpAnyH_ready (rs := [20]) (by kernel_rfl) (by simp) ?_
      refine cons_op rfl (fun K hK => ?_) AllReadyH.nil
      go_simp
      refine hK.out _ _ hS5a (fun hHeld => ?_)
      clear hK K
      (try simp only [Act.put, List.setIfInBounds_toArray, List.set_cons_zero, List.set_cons_succ])
      refine wpAnyH_ready (rs := [21]) (by kernel_rfl) (by simp) ?_
      refine cons_op rfl (fun K hK => ?_) AllReadyH.nil
      go_simp
      refine hK.out _ _ hS5 (fun hHeld => ?_)
      clear hK K
      (try simp only [Act.put, List.setIfInBounds_toArray, List.set_cons_zero, List.set_cons_succ])
      refine wpAnyH_done (by kernel_rfl) ?_ _
      clear hS5 hS5a d0 hHeld
      obtain ⟨n2, hn2⟩ : ∃ n2, n2 = b1 * 256 + b2 := ⟨_, rfl⟩
      obtain ⟨m2, hm2⟩ : ∃ m2, m2 = b3 * 256 + b4 := ⟨_, rfl⟩
      have e12 : (b1 : Int) * 256 + (b2 : Int) = (n2 : Int) := by omega
      have e34 : (b3 : Int) * 256 + (b4 : Int) = (m2 : Int) := by omega
      have hn65 : n2 < 65536 := by omega
      have hm65 : m2 < 65536 := by omega
      rw [e12]
      obtain ⟨W5, hW5⟩ : ∃ W5, W5 = (V.alloc (.cells #[.int .i64 (b0 : Int), .int .i64 (n2 : Int), .slice none 0 0] 32)).drew := ⟨_, rfl⟩
      have hV5 : Below V.heap.size V W5 := by rw [hW5]; exact ((Below.refl _ V).alloc (Nat.le_refl _) _).drew
      have hbx5 : W5.heap[V.heap.size]? = some (.cells #[.int .i64 (b0 : Int), .int .i64 (n2 : Int), .slice none 0 0] 32 (0, 0)) := by rw [hW5]; exact World.alloc_heap_new V _
      rw [show (V.alloc (.cells #[.int .i64 (b0 : Int), .int .i64 (n2 : Int), .slice none 0 0] 32)).drew = W5 from hW5.symm]
      have hk5 := Kept.of_below (X := fun _ => False) hV5 (Nat.le_refl _)
      have hc35 := hk5.cell hc3 id
      have hc45 := hk5.cell hc4 id
      have hB5 : Below w.heap.size w W5 := HI.out.below.trans (hV5.mono HI.out.below.size)
      have HNn := Lib.hid hn2
      have HMm := Lib.hid hm2
      have HW5 := Lib.hid hW5
      clear hW5 hc1 hc2 hc3 hc4 c0 HS hn2 hm2 w0 w1 w2 w5 w6 u1 u2 p1 p2 q1 q2 t1 t2 hk5
      go_wp2_with fail
      go_quiet (fail)
      obtain ⟨W7, hW7⟩ : ∃ W7, W7 = W5.drewN nq := ⟨_, rfl⟩
      rw [← hW7]
      have hbx7 : W7.heap[V.heap.size]? = some (.cells #[.int .i64 (b0 : Int), .int .i64 (n2 : Int), .slice none 0 0] 32 (0, 0)) := by rw [hW7]; exact hbx5
      have hB7 : Below w.heap.size w W7 := by rw [hW7]; exact belowD hB5 nq
      have hV7 : Below V.heap.size V W7 := by rw [hW7]; exact belowD hV5 nq
      clear hW7 hbx5 hB5 hV5 hc35 hc45 e12 e34 u3 u4 p3 p4 q3 q4 t3 t4 w3 w4 w7 w8
      have hk7 := Kept.of_below (X := fun _ => False) hV7 (Nat.le_refl _)
      obtain ⟨A2, c2, rfl, hrs, hkc⟩ := row_rs (hk7.row HI.out.row (fun _ _ => id)) (fun x hx => (HI.out.recs x hx).below hB7)
      rw [← HMm.out, ← HNn.out] at HF
      have hok := HI.out.ok
      have hkM : ks.length = M.length := by have := congrArg List.length HI.out.eq; simpa using this
      have HNr : Hid ((L - p < 5 + m2 ∨ m2 = 0 ∨ 1024 < m2 ∨ 1024 < n2 ∨ ¬ (lastI M < ((b0 * 65536 + n2 : Nat) : Int)) ∨ 4096 ≤ M.length) → rdA l = none) := by
        refine Lib.hid (fun hc => ?_)
        rw [HF.out]
        by_cases h1 : l.length - p < 5 + m2
        · rw [if_pos h1]
        · rw [if_neg h1]
          have hlen : ((l.drop (p + 5)).take m2).length = m2 := by rw [List.length_take, List.length_drop]; omega
          have hnx : nx M (b0 * 65536 + n2, (l.drop (p + 5)).take m2) = false := by
            rw [← Bool.not_eq_true, nx_iff]
            rintro ⟨a1, a2, a3, a4, a5⟩
            rw [hlen] at a4
            have := HL.out
            rcases hc with hc | hc | hc | hc | hc | hc
            · omega
            · exact a1 (List.eq_nil_of_length_eq_zero (by rw [hlen]; exact hc))
            · omega
            · simp only at a3; omega
            · exact hc ((lastI_lt hok.srt _).2 a2)
            · omega
          show (if nx M _ then _ else none) = none
          rw [hnx]; rfl
      have HNo : Hid ((L - p < 5 + m2 ∨ m2 = 0 ∨ 1024 < m2 ∨ 1024 < n2 ∨ ¬ (lastI M < ((b0 * 65536 + n2 : Nat) : Int)) ∨ 4096 ≤ M.length) → ∀ q, P (.returned (.tuple #[.slice none 0 0, .int .i64 131])) (W7.drewN q)) := Lib.hid (fun hc q => HP1.out (HNr.out hc) _ (belowD hB7 q))
      have y1 : IntKind.i64.wrap ((L : Int) - ((p : Int) + 5)) = (L : Int) - ((p : Int) + 5) := IntWalk.i64_in _ (by omega)
      have y2 : IntKind.i64.wrap ((p : Int) + 5) = (p : Int) + 5 := IntWalk.i64_in _ (by omega)
      have x0 : W7.cell? ⟨V.heap.size, 0, none⟩ = some (.int .i64 (b0 : Int)) := by rw [blk_cell hbx7]; rfl
      have x1 : W7.cell? ⟨V.heap.size, 1, none⟩ = some (.int .i64 (n2 : Int)) := by rw [blk_cell hbx7]; rfl
      have x2 : W7.cell? ⟨V.heap.size, 2, none⟩ = some (.slice none 0 0) := by rw [blk_cell hbx7]; rfl
      by_cases g1 : m2 = 0
      · have HN := Lib.hid (HNo.out (.inr (.inl g1)))
        subst g1
        clear HNo HNr HF HP1 HP2
        go_wp2_with fail
        go_quiet (fail)
        go_wp2
        exact HN.out nq
      have e0 : ((m2 : Int) == 0) = false := by simp; omega
      have e0' : (m2 == 0) = false := by simpa using g1
      by_cases g2 : L - p < 5 + m2
      · have HN := Lib.hid (HNo.out (.inl g2))
        have d2 : decide ((L : Int) - ((p : Int) + 5) < (m2 : Int)) = true := by simp; omega
        clear HNo HNr HF HP1 HP2
        go_wp2_with fail
        go_quiet (fail)
        go_wp2
        exact HN.out nq
      have d2 : decide ((L : Int) - ((p : Int) + 5) < (m2 : Int)) = false := by simp; omega
      by_cases g3 : 1024 < m2
      · have HN := Lib.hid (HNo.out (.inr (.inr (.inl g3))))
        have d3 : decide ((1024 : Int) < (m2 : Int)) = true := by simp; omega
        have d3' : decide (1024 < m2) = true := by simp; omega
        clear HNo HNr HF HP1 HP2
        go_wp2_with fail
        go_quiet (fail)
        go_wp2
        exact HN.out nq
      have d3 : decide ((1024 : Int) < (m2 : Int)) = false := by simp; omega
      have d3' : decide (1024 < m2) = false := by simp; omega
      by_cases g4 : 1024 < n2
      · have HN := Lib.hid (HNo.out (.inr (.inr (.inr (.inl g4)))))
        have d4 : decide ((1024 : Int) < (n2 : Int)) = true := by simp; omega
        have d4' : decide (1024 < n2) = true := by simp; omega
        clear HNo HNr HF HP1 HP2
        go_wp2_with fail
        go_quiet (fail)
        go_wp2
        exact HN.out nq
      have d4 : decide ((1024 : Int) < (n2 : Int)) = false := by simp; omega
      have d4' : decide (1024 < n2) = false := by simp; omega
      obtain ⟨en, hen⟩ : ∃ en : Ent, en = (b0 * 65536 + n2, (l.drop (p + 5)).take m2) := ⟨_, rfl⟩
      have hl2 : en.2.length = m2 := by rw [hen]; simp only [List.length_take, List.length_drop, ← HL.out]; omega
      have hk' : en.1 / 65536 = b0 := by rw [hen]; simp only; omega
      have hn' : en.1 % 65536 = n2 := by rw [hen]; simp only; omega
      obtain ⟨S, k2, hS, hk2, hsl⟩ := sl_pq a L cap (p + 5) m2 (by omega) (by rw [HL.out]; exact HBs.out.le)
      have hby : ∀ c ∈ en.2, c < 256 := fun c hc => HBs.out.lt c (by rw [hen] at hc; exact List.mem_of_mem_drop (List.mem_of_mem_take hc))
      have hrk : RecOk w (toR en) (some S) k2 := by
        refine ⟨?_, fun e => (by cases e), hby⟩
        rcases hS with rfl | hS
        · have := (HBs.out.dat.drop (p + 5)).take m2
          rw [show (toR en).d = (l.drop (p + 5)).take m2 by rw [hen]; rfl]
          exact this
        · exact absurd hS g1
      have HYes : Hid (lastI M < ((b0 * 65536 + n2 : Nat) : Int) → M.length < 4096 → Ok (M ++ [en]) ∧ rd (l.length - (p + 5 + m2)) (M ++ [en]) (l.drop (p + 5 + m2)) = rdA l) := by
        refine Lib.hid (fun h1 h2 => ?_)
        have hnx : nx M en = true := by
          rw [nx_iff]
          refine ⟨fun e => g1 (by rw [← hl2, e]; rfl), (lastI_lt hok.srt _).1 (by rw [hen]; exact h1), by omega, by omega, h2⟩
        have hoe : OkE en := ⟨by omega, by omega, fun e => g1 (by rw [← hl2, e]; rfl), by omega, hby⟩
        refine ⟨hok.snoc hoe hnx, ?_⟩
        rw [HF.out, if_neg (by rw [← HL.out]; omega)]
        show _ = (if nx M _ then _ else none)
        rw [← hen, hnx, if_pos rfl]
        exact rd_fuel _ _ _ _ (by rw [List.length_drop]; exact Nat.le_refl _) (by rw [List.length_drop, ← HL.out]; omega)
      clear hS hk2 hby hen v0 v1 v2 v3 v4
      by_cases hK0 : ks = []
      · subst hK0
        have hM0 : M = [] := List.eq_nil_of_length_eq_zero (by rw [← hkM]; rfl)
        subst hM0
        have HY := Lib.hid (HYes.out (by rw [lastI_nil]; omega) (by simp))
        clear HYes hrs hkc hkM
        simp only [List.length_nil] at *
        go_wp2_with fail
        go_quiet (fail)
        obtain ⟨⟨f0, f1⟩, W10, hw10, ⟨f2, f3, f4⟩, v', W12, hr12, hI'⟩ := acc_step HI.out (belowD hV7 nq) hbx7 hk' hn' hl2 hrk HY.out.1 HY.out.2
        have HI' := Lib.hid hI'
        have hr0 := hsl ((p : Int) + 5) ((p : Int) + 5 + (m2 : Int)) (by omega) (by omega)
        have y3 : IntKind.i64.wrap ((p : Int) + 5 + (m2 : Int)) = (p : Int) + 5 + (m2 : Int) := IntWalk.i64_in _ (by omega)
        have hpn : p + 5 + m2 ≤ L := by omega
        clear hI' hrk HY hsl HF HNo HNr HP1 HP2 HBs hk' hn'
        go_wp2_with (at_builtin; refine wpList_run rfl (.tmp 103) (.tmp 105) 22 rfl (by simp [Act.eval]) (by simp [Act.eval]) hr12 ?_)
        go_roundw
        case rel => exact ⟨p + 5 + m2, _, _, v', hpn, by go_num, rfl, HI'.out⟩
        case measure => simp [intOf]; omega
      · obtain ⟨K1, hK1⟩ : ∃ K1, ks.length = K1 + 1 := ⟨ks.length - 1, by cases ks with | nil => exact absurd rfl hK0 | cons x t => simp⟩
        obtain ⟨al, rfl, ⟨r0, r1, r2⟩, _⟩ := hrs K1 (by omega)
        have htr : (ks.getD K1 default).r = toR (M.getD K1 (0, [])) := by
          rw [← map_gD, HI.out.eq]
          simp [List.getD, show K1 < M.length by omega]
        have hll := last_lt (M := M) (K1 := K1) (by omega)
        have hah : ahD (ks.getD K1 default).r.k (ks.getD K1 default).r.n (b0 : Int) (n2 : Int) = decide (lastI M < ((b0 * 65536 + n2 : Nat) : Int)) := by
          rw [htr, hll]
          exact ah_pl hn65
        have HLd : Hid (∀ U, Below W7.heap.size W7 U → (U.cell? ⟨V.heap.size, 0, none⟩ = some (.int .i64 (b0 : Int)) ∧ U.cell? ⟨V.heap.size, 1, none⟩ = some (.int .i64 (n2 : Int)) ∧ U.cell? ⟨V.heap.size, 2, none⟩ = some (.slice none 0 0)) ∧ U.cell? (al.add (K1 * 3)) = some (.int .i64 (ks.getD K1 default).r.k) ∧ U.cell? ⟨(al.add (K1 * 3)).block, (al.add (K1 * 3)).off + 1, none⟩ = some (.int .i64 (ks.getD K1 default).r.n) ∧ U.cell? ⟨(al.add (K1 * 3)).block, (al.add (K1 * 3)).off + 2, none⟩ = some (.slice (ks.getD K1 default).A (ks.getD K1 default).r.d.length (ks.getD K1 default).cap)) := Lib.hid (fun U hU => by
          have hk := Kept.of_below (X := fun _ => False) hU (Nat.le_refl _)
          exact ⟨⟨hk.cell x0 id, hk.cell x1 id, hk.cell x2 id⟩, hk.cell r0 id, hk.cell r1 id, hk.cell r2 id⟩)
        have hkl : M.length ≤ 4096 := hok.len
        have HNP : Hid (rdA l = none → ∀ U, Below W7.heap.size W7 U → P (.returned (.tuple #[.slice none 0 0, .int .i64 131])) U) := Lib.hid (fun h1 U hU => HP1.out h1 _ (hB7.trans (hU.mono hB7.size)))
        have d0 : Below W7.heap.size W7 W7.drew := (Below.refl _ _).drew
        have k0 : decide ((0 : Int) < (ks.length : Int)) = true := by simp; omega
        have k0' : decide (0 < ks.length) = true := by simp; omega
        have kw : IntKind.i64.wrap ((ks.length : Int) - 1) = (K1 : Int) := by rw [show (ks.length : Int) - 1 = (K1 : Int) by omega]; exact i64_nat (by omega)
        have k1 : (0 : Int) ≤ (K1 : Int) := by omega
        have k2' : (K1 : Int) < (ks.length : Int) := by omega
        have hKle : ks.length ≤ 4096 := by omega
        clear hll htr hrs r0 r1 r2 x0 x1 x2 hK1 hK0
        have HKM := Lib.hid hkM
        clear hkM
        by_cases g5 : lastI M < ((b0 * 65536 + n2 : Nat) : Int)
        · have hah2 : decide (lastI M < ((b0 * 65536 + n2 : Nat) : Int)) = true := by simpa using g5
          rw [hah2] at hah
          clear hah2
          by_cases g6 : 4096 ≤ ks.length
          · have HN := Lib.hid (HNP.out (HNr.out (.inr (.inr (.inr (.inr (.inr (by rw [← HKM.out]; exact g6))))))))
            have d6 : decide ((4096 : Int) ≤ (ks.length : Int)) = true := by simp; omega
            have d6' : decide (4096 ≤ ks.length) = true := by simp; omega
            clear HNr HNo HF HP1 HP2 HYes HNP hrk hsl g5
            generalize (ks.getD K1 default).r.k = lk at *
            generalize (ks.getD K1 default).r.n = ln at *
            generalize (ks.getD K1 default).A = lA at *
            generalize (ks.getD K1 default).cap = lc at *
            generalize (ks.getD K1 default).r.d.length = ll at *
            go_upto_region 9 with fail
            refine wp_region_held_drew (S := Below W7.heap.size W7) (by kernel_rfl) d0 (fun hHeld => ?_)
            simp only [List.size_toArray, List.length_cons, List.length_nil, Nat.reduceAdd, Array.replicate_succ, Array.replicate_zero, List.push_toArray, List.nil_append, List.cons_append, List.append_toArray]
            refine take_op (i := 0) (v := ?_) rfl (by kernel_rfl) (by kernel_rfl) (by kernel_rfl) (fun _ _ _ h => h) (Or.inl ⟨by rfl, ?_⟩) (by assumption) ?_
            rotate_left
            · (intro w' hSw; (try dsimp only at hSw); go_simp; (try with_reducible rfl))
            simp only [Act.put, List.setIfInBounds_toArray, List.set_cons_zero, List.set_cons_succ]
            refine take_op (i := 1) (v := ?_) rfl (by kernel_rfl) (by kernel_rfl) (by kernel_rfl) (fun _ _ _ h => h) (Or.inl ⟨by rfl, ?_⟩) (by assumption) ?_
            rotate_left
            · (intro w' hSw; (try dsimp only at hSw); go_simp; (try with_reducible rfl))
            simp only [Act.put, List.setIfInBounds_toArray, List.set_cons_zero, List.set_cons_succ]
            refine take_op (i := 2) (v := ?_) rfl (by kernel_rfl) (by kernel_rfl) (by kernel_rfl) (fun _ _ _ h => h) (Or.inl ⟨by rfl, ?_⟩) (by assumption) ?_
            rotate_left
            · (intro w' hSw; (try dsimp only at hSw); go_simp; (try with_reducible rfl))
            simp only [Act.put, List.setIfInBounds_toArray, List.set_cons_zero, List.set_cons_succ]
            refine take_op (i := 3) (v := ?_) rfl (by kernel_rfl) (by kernel_rfl) (by kernel_rfl) (fun _ _ _ h => h) (Or.inl ⟨by rfl, ?_⟩) (by assumption) ?_
            rotate_left
            · (intro w' hSw; (try dsimp only at hSw); go_simp; (try with_reducible rfl))
            simp only [Act.put, List.setIfInBounds_toArray, List.set_cons_zero, List.set_cons_succ]
            refine take_op (i := 4) (v := ?_) rfl (by kernel_rfl) (by kernel_rfl) (by kernel_rfl) (fun _ _ _ h => h) (Or.inl ⟨by rfl, ?_⟩) (by assumption) ?_
            rotate_left
            · (intro w' hSw; (try dsimp only at hSw); go_simp; (try with_reducible rfl))
            simp only [Act.put, List.setIfInBounds_toArray, List.set_cons_zero, List.set_cons_succ]
            refine take_op (i := 5) (v := ?_) rfl (by kernel_rfl) (by kernel_rfl) (by kernel_rfl) (fun _ _ _ h => h) (Or.inl ⟨by rfl, ?_⟩) (by assumption) ?_
            rotate_left
            · (intro w' hSw; (try dsimp only at hSw); go_simp; (try with_reducible rfl))
            simp only [Act.put, List.setIfInBounds_toArray, List.set_cons_zero, List.set_cons_succ]
            refine take_op (i := 6) (v := ?_) rfl (by kernel_rfl) (by kernel_rfl) (by kernel_rfl) (fun _ _ _ h => h) (Or.inl ⟨by rfl, ?_⟩) (by assumption) ?_
            rotate_left
            · (intro w' hSw; (try dsimp only at hSw); go_simp; (try with_reducible rfl))
            simp only [Act.put, List.setIfInBounds_toArray, List.set_cons_zero, List.set_cons_succ]
            refine take_op (i := 7) (v := ?_) rfl (by kernel_rfl) (by kernel_rfl) (by kernel_rfl) (fun _ _ _ h => h) (Or.inl ⟨by rfl, ?_⟩) (by assumption) ?_
            rotate_left
            · (intro w' hSw; (try dsimp only at hSw); go_simp; (try with_reducible rfl))
            simp only [Act.put, List.setIfInBounds_toArray, List.set_cons_zero, List.set_cons_succ]
            refine take_op (i := 8) (v := ?_) rfl (by kernel_rfl) (by kernel_rfl) (by kernel_rfl) (fun _ _ _ h => h) (Or.inl ⟨by rfl, ?_⟩) (by assumption) ?_
            rotate_left
            · (intro w' hSw; (try dsimp only at hSw); go_simp; (try with_reducible rfl))
            simp only [Act.put, List.setIfInBounds_toArray, List.set_cons_zero, List.set_cons_succ]
            refine take_op (i := 9) (v := ?_) rfl (by kernel_rfl) (by kernel_rfl) (by kernel_rfl) (fun _ _ _ h => h) (Or.inl ⟨by rfl, ?_⟩) (by assumption) ?_
            rotate_left
            · (intro w' hSw; (try dsimp only at hSw); go_simp; (try with_reducible rfl))
            simp only [Act.put, List.setIfInBounds_toArray, List.set_cons_zero, List.set_cons_succ]
            refine take_op (i := 10) (v := ?_) rfl (by kernel_rfl) (by kernel_rfl) (by kernel_rfl) (fun _ _ _ h => h) (Or.inl ⟨by rfl, ?_⟩) (by assumption) ?_
            rotate_left
            · (intro w' hSw; (try dsimp only at hSw); go_simp; (try with_reducible rfl))
            simp only [Act.put, List.setIfInBounds_toArray, List.set_cons_zero, List.set_cons_succ]
            refine take_op (i := 11) (v := ?_) rfl (by kernel_rfl) (by kernel_rfl) (by kernel_rfl) (fun _ _ _ h => h) (Or.inl ⟨by rfl, ?_⟩) (by assumption) ?_
            rotate_left
            · (intro w' hSw; (try dsimp only at hSw); go_simp; (try with_reducible rfl))
            simp only [Act.put, List.setIfInBounds_toArray, List.set_cons_zero, List.set_cons_succ]
            refine take_op (i := 12) (v := ?_) rfl (by kernel_rfl) (by kernel_rfl) (by kernel_rfl) (fun _ _ _ h => h) (Or.inl ⟨by rfl, ?_⟩) (by assumption) ?_
            rotate_left
            · (intro w' hSw; (try dsimp only at hSw); go_simp; (try with_reducible rfl))
            simp only [Act.put, List.setIfInBounds_toArray, List.set_cons_zero, List.set_cons_succ]
            refine take_op (i := 13) (v := ?_) rfl (by kernel_rfl) (by kernel_rfl) (by kernel_rfl) (fun _ _ _ h => h) (Or.inl ⟨by rfl, ?_⟩) (by assumption) ?_
            rotate_left
            · (intro w' hSw; (try dsimp only at hSw); go_simp; (try with_reducible rfl))
            simp only [Act.put, List.setIfInBounds_toArray, List.set_cons_zero, List.set_cons_succ]
            refine take_op (i := 14) (v := ?_) rfl (by kernel_rfl) (by kernel_rfl) (by kernel_rfl) (fun _ _ _ h => h) (Or.inl ⟨by rfl, ?_⟩) (by assumption) ?_
            rotate_left
            · (intro w' hSw; (try dsimp only at hSw); go_simp; (try with_reducible rfl))
            simp only [Act.put, List.setIfInBounds_toArray, List.set_cons_zero, List.set_cons_succ]
            refine take_op (i := 15) (v := ?_) rfl (by kernel_rfl) (by kernel_rfl) (by kernel_rfl) (fun _ _ _ h => h) (Or.inl ⟨by rfl, ?_⟩) (by assumption) ?_
            rotate_left
            · (intro w' hSw; (try dsimp only at hSw); go_simp; (try with_reducible rfl))
            simp only [Act.put, List.setIfInBounds_toArray, List.set_cons_zero, List.set_cons_succ]
            refine take_op (i := 16) (v := ?_) rfl (by kernel_rfl) (by kernel_rfl) (by kernel_rfl) (fun _ _ _ h => h) (Or.inl ⟨by rfl, ?_⟩) (by assumption) ?_
            rotate_left
            · (intro w' hSw; obtain ⟨⟨z0, z1, z2⟩, z3, z4, z5⟩ := HLd.out _ hSw; go_simp; (try with_reducible rfl))
            simp only [Act.put, List.setIfInBounds_toArray, List.set_cons_zero, List.set_cons_succ]
            refine take_op (i := 17) (v := ?_) rfl (by kernel_rfl) (by kernel_rfl) (by kernel_rfl) (fun _ _ _ h => h) (Or.inl ⟨by rfl, ?_⟩) (by assumption) ?_
            rotate_left
            · (intro w' hSw; (try dsimp only at hSw); go_simp; (try with_reducible rfl))
            simp only [Act.put, List.setIfInBounds_toArray, List.set_cons_zero, List.set_cons_succ]
            refine take_op (i := 18) (v := ?_) rfl (by kernel_rfl) (by kernel_rfl) (by kernel_rfl) (fun _ _ _ h => h) (Or.inl ⟨by rfl, ?_⟩) (by assumption) ?_
            rotate_left
            · (intro w' hSw; (try dsimp only at hSw); go_simp; (try with_reducible rfl))
            simp only [Act.put, List.setIfInBounds_toArray, List.set_cons_zero, List.set_cons_succ]
            refine take_op (i := 19) (v := ?_) rfl (by kernel_rfl) (by kernel_rfl) (by kernel_rfl) (fun _ _ _ h => h) (Or.inl ⟨by rfl, ?_⟩) (by assumption) ?_
            rotate_left
            · (intro w' hSw; (try dsimp only at hSw); go_simp; (try with_reducible rfl))
            simp only [Act.put, List.setIfInBounds_toArray, List.set_cons_zero, List.set_cons_succ]
            refine take_op (i := 20) (v := ?_) rfl (by kernel_rfl) (by kernel_rfl) (by kernel_rfl) (fun _ _ _ h => h) (Or.inl ⟨by rfl, ?_⟩) (by assumption) ?_
            rotate_left
            · (intro w' hSw; (try dsimp only at hSw); go_simp; (try with_reducible rfl))
            simp only [Act.put, List.setIfInBounds_toArray, List.set_cons_zero, List.set_cons_succ]
            refine take_op (i := 21) (v := ?_) rfl (by kernel_rfl) (by kernel_rfl) (by kernel_rfl) (fun _ _ _ h => h) (Or.inl ⟨by rfl, ?_⟩) (by assumption) ?_
            rotate_left
            · (intro w' hSw; (try dsimp only at hSw); go_simp; (try with_reducible rfl))
            simp only [Act.put, List.setIfInBounds_toArray, List.set_cons_zero, List.set_cons_succ]
            refine take_op (i := 22) (v := ?_) rfl (by kernel_rfl) (by kernel_rfl) (by kernel_rfl) (fun _ _ _ h => h) (Or.inl ⟨by rfl, ?_⟩) (by assumption) ?_
            rotate_left
            · (intro w' hSw; (try dsimp only at hSw); go_simp; (try with_reducible rfl))
            simp only [Act.put, List.setIfInBounds_toArray, List.set_cons_zero, List.set_cons_succ]
            refine take_op (i := 23) (v := ?_) rfl (by kernel_rfl) (by kernel_rfl) (by kernel_rfl) (fun _ _ _ h => h) (Or.inl ⟨by rfl, ?_⟩) (by assumption) ?_
            rotate_left
            · (intro w' hSw; (try dsimp only at hSw); go_simp; (try with_reducible rfl))
            simp only [Act.put, List.setIfInBounds_toArray, List.set_cons_zero, List.set_cons_succ]
            refine take_op (i := 24) (v := ?_) rfl (by kernel_rfl) (by kernel_rfl) (by kernel_rfl) (fun _ _ _ h => h) (Or.inl ⟨by rfl, ?_⟩) (by assumption) ?_
            rotate_left
            · (intro w' hSw; (try dsimp only at hSw); go_simp; (try with_reducible rfl))
            simp only [Act.put, List.setIfInBounds_toArray, List.set_cons_zero, List.set_cons_succ]
            refine take_op (i := 25) (v := ?_) rfl (by kernel_rfl) (by kernel_rfl) (by kernel_rfl) (fun _ _ _ h => h) (Or.inl ⟨by rfl, ?_⟩) (by assumption) ?_
            rotate_left
            · (intro w' hSw; (try dsimp only at hSw); go_simp; (try with_reducible rfl))
            simp only [Act.put, List.setIfInBounds_toArray, List.set_cons_zero, List.set_cons_succ]
            refine take_op (i := 26) (v := ?_) rfl (by kernel_rfl) (by kernel_rfl) (by kernel_rfl) (fun _ _ _ h => h) (Or.inl ⟨by rfl, ?_⟩) (by assumption) ?_
            rotate_left
            · (intro w' hSw; (try dsimp only at hSw); go_simp; (try with_reducible rfl))
            simp only [Act.put, List.setIfInBounds_toArray, List.set_cons_zero, List.set_cons_succ]
            refine take_op (i := 27) (v := ?_) rfl (by kernel_rfl) (by kernel_rfl) (by kernel_rfl) (fun _ _ _ h => h) (Or.inl ⟨by rfl, ?_⟩) (by assumption) ?_
            rotate_left
            · (intro w' hSw; (try dsimp only at hSw); go_simp; (try with_reducible rfl))
            simp only [Act.put, List.setIfInBounds_toArray, List.set_cons_zero, List.set_cons_succ]
            refine take_op (i := 28) (v := ?_) rfl (by kernel_rfl) (by kernel_rfl) (by kernel_rfl) (fun _ _ _ h => h) (Or.inl ⟨by rfl, ?_⟩) (by assumption) ?_
            rotate_left
            · (intro w' hSw; (try dsimp only at hSw); go_simp; (try with_reducible rfl))
            simp only [Act.put, List.setIfInBounds_toArray, List.set_cons_zero, List.set_cons_succ]
            refine take_op (i := 29) (v := ?_) rfl (by kernel_rfl) (by kernel_rfl) (by kernel_rfl) (fun _ _ _ h => h) (Or.inl ⟨by rfl, ?_⟩) (by assumption) ?_
            rotate_left
            · (intro w' hSw; obtain ⟨⟨z0, z1, z2⟩, z3, z4, z5⟩ := HLd.out _ hSw; go_simp; (try with_reducible rfl))
            simp only [Act.put, List.setIfInBounds_toArray, List.set_cons_zero, List.set_cons_succ]
            refine take_op (i := 30) (v := ?_) rfl (by kernel_rfl) (by kernel_rfl) (by kernel_rfl) (fun _ _ _ h => h) (Or.inl ⟨by rfl, ?_⟩) (by assumption) ?_
            rotate_left
            · (intro w' hSw; obtain ⟨⟨z0, z1, z2⟩, z3, z4, z5⟩ := HLd.out _ hSw; go_simp; (try with_reducible rfl))
            simp only [Act.put, List.setIfInBounds_toArray, List.set_cons_zero, List.set_cons_succ]
            refine wpAnyH_ready (rs := [31]) (by kernel_rfl) (by simp) ?_
            refine cons_op rfl (fun K hK => ?_) AllReadyH.nil
            go_simp
            with_reducible refine (ahead_any _ _ _ _ _ _ _ _ _ _ _).mono ?_
            rintro e W9 ⟨rfl, hb0⟩
            have hb9 := d0.trans (hb0.mono d0.size)
            rw [hah]
            (try go_wp2_with fail)
            refine hK.out _ _ hb9 (fun hHeld => ?_)
            clear hK K
            (try simp only [Act.put, List.setIfInBounds_toArray, List.set_cons_zero, List.set_cons_succ])
            refine take_op (i := 32) (v := ?_) rfl (by kernel_rfl) (by kernel_rfl) (by kernel_rfl) (fun _ _ _ h => h) (Or.inl ⟨by rfl, ?_⟩) (by assumption) ?_
            rotate_left
            · (intro w' hSw; (try dsimp only at hSw); go_simp; (try with_reducible rfl))
            simp only [Act.put, List.setIfInBounds_toArray, List.set_cons_zero, List.set_cons_succ]
            refine take_op (i := 33) (v := ?_) rfl (by kernel_rfl) (by kernel_rfl) (by kernel_rfl) (fun _ _ _ h => h) (Or.inl ⟨by rfl, ?_⟩) (by assumption) ?_
            rotate_left
            · (intro w' hSw; (try dsimp only at hSw); go_simp; (try with_reducible rfl))
            simp only [Act.put, List.setIfInBounds_toArray, List.set_cons_zero, List.set_cons_succ]
            refine take_op (i := 34) (v := ?_) rfl (by kernel_rfl) (by kernel_rfl) (by kernel_rfl) (fun _ _ _ h => h) (Or.inl ⟨by rfl, ?_⟩) (by assumption) ?_
            rotate_left
            · (intro w' hSw; (try dsimp only at hSw); go_simp; (try with_reducible rfl))
            simp only [Act.put, List.setIfInBounds_toArray, List.set_cons_zero, List.set_cons_succ]
            refine take_op (i := 35) (v := ?_) rfl (by kernel_rfl) (by kernel_rfl) (by kernel_rfl) (fun _ _ _ h => h) (Or.inl ⟨by rfl, ?_⟩) (by assumption) ?_
            rotate_left
            · (intro w' hSw; (try dsimp only at hSw); go_simp; (try with_reducible rfl))
            simp only [Act.put, List.setIfInBounds_toArray, List.set_cons_zero, List.set_cons_succ]
            refine take_op (i := 36) (v := ?_) rfl (by kernel_rfl) (by kernel_rfl) (by kernel_rfl) (fun _ _ _ h => h) (Or.inl ⟨by rfl, ?_⟩) (by assumption) ?_
            rotate_left
            · (intro w' hSw; (try dsimp only at hSw); go_simp; (try with_reducible rfl))
            simp only [Act.put, List.setIfInBounds_toArray, List.set_cons_zero, List.set_cons_succ]
            refine take_op (i := 37) (v := ?_) rfl (by kernel_rfl) (by kernel_rfl) (by kernel_rfl) (fun _ _ _ h => h) (Or.inl ⟨by rfl, ?_⟩) (by assumption) ?_
            rotate_left
            · (intro w' hSw; (try dsimp only at hSw); go_simp; (try with_reducible rfl))
            simp only [Act.put, List.setIfInBounds_toArray, List.set_cons_zero, List.set_cons_succ]
            refine take_op (i := 38) (v := ?_) rfl (by kernel_rfl) (by kernel_rfl) (by kernel_rfl) (fun _ _ _ h => h) (Or.inl ⟨by rfl, ?_⟩) (by assumption) ?_
            rotate_left
            · (intro w' hSw; (try dsimp only at hSw); go_simp; (try with_reducible rfl))
            simp only [Act.put, List.setIfInBounds_toArray, List.set_cons_zero, List.set_cons_succ]
            refine take_op (i := 39) (v := ?_) rfl (by kernel_rfl) (by kernel_rfl) (by kernel_rfl) (fun _ _ _ h => h) (Or.inl ⟨by rfl, ?_⟩) (by assumption) ?_
            rotate_left
            · (intro w' hSw; (try dsimp only at hSw); go_simp; (try with_reducible rfl))
            simp only [Act.put, List.setIfInBounds_toArray, List.set_cons_zero, List.set_cons_succ]
            refine wpAnyH_done (by kernel_rfl) ?_ _
            go_wp2
            exact HN.out _ hb9
          · have HY := Lib.hid (HYes.out g5 (by rw [← HKM.out]; omega))
            have d6 : decide ((4096 : Int) ≤ (ks.length : Int)) = false := by simp; omega
            have d6' : decide (4096 ≤ ks.length) = false := by simp; omega
            clear HYes g5
            generalize (ks.getD K1 default).r.k = lk at *
            generalize (ks.getD K1 default).r.n = ln at *
            generalize (ks.getD K1 default).A = lA at *
            generalize (ks.getD K1 default).cap = lc at *
            generalize (ks.getD K1 default).r.d.length = ll at *
            go_upto_region 9 with fail
            refine wp_region_held_drew (S := Below W7.heap.size W7) (by kernel_rfl) d0 (fun hHeld => ?_)
            simp only [List.size_toArray, List.length_cons, List.length_nil, Nat.reduceAdd, Array.replicate_succ, Array.replicate_zero, List.push_toArray, List.nil_append, List.cons_append, List.append_toArray]
            refine take_op (i := 0) (v := ?_) rfl (by kernel_rfl) (by kernel_rfl) (by kernel_rfl) (fun _ _ _ h => h) (Or.inl ⟨by rfl, ?_⟩) (by assumption) ?_
            rotate_left
            · (intro w' hSw; (try dsimp only at hSw); go_simp; (try with_reducible rfl))
            simp only [Act.put, List.setIfInBounds_toArray, List.set_cons_zero, List.set_cons_succ]
            refine take_op (i := 1) (v := ?_) rfl (by kernel_rfl) (by kernel_rfl) (by kernel_rfl) (fun _ _ _ h => h) (Or.inl ⟨by rfl, ?_⟩) (by assumption) ?_
            rotate_left
            · (intro w' hSw; (try dsimp only at hSw); go_simp; (try with_reducible rfl))
            simp only [Act.put, List.setIfInBounds_toArray, List.set_cons_zero, List.set_cons_succ]
            refine take_op (i := 2) (v := ?_) rfl (by kernel_rfl) (by kernel_rfl) (by kernel_rfl) (fun _ _ _ h => h) (Or.inl ⟨by rfl, ?_⟩) (by assumption) ?_
            rotate_left
            · (intro w' hSw; (try dsimp only at hSw); go_simp; (try with_reducible rfl))
            simp only [Act.put, List.setIfInBounds_toArray, List.set_cons_zero, List.set_cons_succ]
            refine take_op (i := 3) (v := ?_) rfl (by kernel_rfl) (by kernel_rfl) (by kernel_rfl) (fun _ _ _ h => h) (Or.inl ⟨by rfl, ?_⟩) (by assumption) ?_
            rotate_left
            · (intro w' hSw; (try dsimp only at hSw); go_simp; (try with_reducible rfl))
            simp only [Act.put, List.setIfInBounds_toArray, List.set_cons_zero, List.set_cons_succ]
            refine take_op (i := 4) (v := ?_) rfl (by kernel_rfl) (by kernel_rfl) (by kernel_rfl) (fun _ _ _ h => h) (Or.inl ⟨by rfl, ?_⟩) (by assumption) ?_
            rotate_left
            · (intro w' hSw; (try dsimp only at hSw); go_simp; (try with_reducible rfl))
            simp only [Act.put, List.setIfInBounds_toArray, List.set_cons_zero, List.set_cons_succ]
            refine take_op (i := 5) (v := ?_) rfl (by kernel_rfl) (by kernel_rfl) (by kernel_rfl) (fun _ _ _ h => h) (Or.inl ⟨by rfl, ?_⟩) (by assumption) ?_
            rotate_left
            · (intro w' hSw; (try dsimp only at hSw); go_simp; (try with_reducible rfl))
            simp only [Act.put, List.setIfInBounds_toArray, List.set_cons_zero, List.set_cons_succ]
            refine take_op (i := 6) (v := ?_) rfl (by kernel_rfl) (by kernel_rfl) (by kernel_rfl) (fun _ _ _ h => h) (Or.inl ⟨by rfl, ?_⟩) (by assumption) ?_
            rotate_left
            · (intro w' hSw; (try dsimp only at hSw); go_simp; (try with_reducible rfl))
            simp only [Act.put, List.setIfInBounds_toArray, List.set_cons_zero, List.set_cons_succ]
            refine take_op (i := 7) (v := ?_) rfl (by kernel_rfl) (by kernel_rfl) (by kernel_rfl) (fun _ _ _ h => h) (Or.inl ⟨by rfl, ?_⟩) (by assumption) ?_
            rotate_left
            · (intro w' hSw; (try dsimp only at hSw); go_simp; (try with_reducible rfl))
            simp only [Act.put, List.setIfInBounds_toArray, List.set_cons_zero, List.set_cons_succ]
            refine take_op (i := 8) (v := ?_) rfl (by kernel_rfl) (by kernel_rfl) (by kernel_rfl) (fun _ _ _ h => h) (Or.inl ⟨by rfl, ?_⟩) (by assumption) ?_
            rotate_left
            · (intro w' hSw; (try dsimp only at hSw); go_simp; (try with_reducible rfl))
            simp only [Act.put, List.setIfInBounds_toArray, List.set_cons_zero, List.set_cons_succ]
            refine take_op (i := 9) (v := ?_) rfl (by kernel_rfl) (by kernel_rfl) (by kernel_rfl) (fun _ _ _ h => h) (Or.inl ⟨by rfl, ?_⟩) (by assumption) ?_
            rotate_left
            · (intro w' hSw; (try dsimp only at hSw); go_simp; (try with_reducible rfl))
            simp only [Act.put, List.setIfInBounds_toArray, List.set_cons_zero, List.set_cons_succ]
            refine take_op (i := 10) (v := ?_) rfl (by kernel_rfl) (by kernel_rfl) (by kernel_rfl) (fun _ _ _ h => h) (Or.inl ⟨by rfl, ?_⟩) (by assumption) ?_
            rotate_left
            · (intro w' hSw; (try dsimp only at hSw); go_simp; (try with_reducible rfl))
            simp only [Act.put, List.setIfInBounds_toArray, List.set_cons_zero, List.set_cons_succ]
            refine take_op (i := 11) (v := ?_) rfl (by kernel_rfl) (by kernel_rfl) (by kernel_rfl) (fun _ _ _ h => h) (Or.inl ⟨by rfl, ?_⟩) (by assumption) ?_
            rotate_left
            · (intro w' hSw; (try dsimp only at hSw); go_simp; (try with_reducible rfl))
            simp only [Act.put, List.setIfInBounds_toArray, List.set_cons_zero, List.set_cons_succ]
            refine take_op (i := 12) (v := ?_) rfl (by kernel_rfl) (by kernel_rfl) (by kernel_rfl) (fun _ _ _ h => h) (Or.inl ⟨by rfl, ?_⟩) (by assumption) ?_
            rotate_left
            · (intro w' hSw; (try dsimp only at hSw); go_simp; (try with_reducible rfl))
            simp only [Act.put, List.setIfInBounds_toArray, List.set_cons_zero, List.set_cons_succ]
            refine take_op (i := 13) (v := ?_) rfl (by kernel_rfl) (by kernel_rfl) (by kernel_rfl) (fun _ _ _ h => h) (Or.inl ⟨by rfl, ?_⟩) (by assumption) ?_
            rotate_left
            · (intro w' hSw; (try dsimp only at hSw); go_simp; (try with_reducible rfl))
            simp only [Act.put, List.setIfInBounds_toArray, List.set_cons_zero, List.set_cons_succ]
            refine take_op (i := 14) (v := ?_) rfl (by kernel_rfl) (by kernel_rfl) (by kernel_rfl) (fun _ _ _ h => h) (Or.inl ⟨by rfl, ?_⟩) (by assumption) ?_
            rotate_left
            · (intro w' hSw; (try dsimp only at hSw); go_simp; (try with_reducible rfl))
            simp only [Act.put, List.setIfInBounds_toArray, List.set_cons_zero, List.set_cons_succ]
            refine take_op (i := 15) (v := ?_) rfl (by kernel_rfl) (by kernel_rfl) (by kernel_rfl) (fun _ _ _ h => h) (Or.inl ⟨by rfl, ?_⟩) (by assumption) ?_
            rotate_left
            · (intro w' hSw; (try dsimp only at hSw); go_simp; (try with_reducible rfl))
            simp only [Act.put, List.setIfInBounds_toArray, List.set_cons_zero, List.set_cons_succ]
            refine take_op (i := 16) (v := ?_) rfl (by kernel_rfl) (by kernel_rfl) (by kernel_rfl) (fun _ _ _ h => h) (Or.inl ⟨by rfl, ?_⟩) (by assumption) ?_
            rotate_left
            · (intro w' hSw; obtain ⟨⟨z0, z1, z2⟩, z3, z4, z5⟩ := HLd.out _ hSw; go_simp; (try with_reducible rfl))
            simp only [Act.put, List.setIfInBounds_toArray, List.set_cons_zero, List.set_cons_succ]
            refine take_op (i := 17) (v := ?_) rfl (by kernel_rfl) (by kernel_rfl) (by kernel_rfl) (fun _ _ _ h => h) (Or.inl ⟨by rfl, ?_⟩) (by assumption) ?_
            rotate_left
            · (intro w' hSw; (try dsimp only at hSw); go_simp; (try with_reducible rfl))
            simp only [Act.put, List.setIfInBounds_toArray, List.set_cons_zero, List.set_cons_succ]
            refine take_op (i := 18) (v := ?_) rfl (by kernel_rfl) (by kernel_rfl) (by kernel_rfl) (fun _ _ _ h => h) (Or.inl ⟨by rfl, ?_⟩) (by assumption) ?_
            rotate_left
            · (intro w' hSw; (try dsimp only at hSw); go_simp; (try with_reducible rfl))
            simp only [Act.put, List.setIfInBounds_toArray, List.set_cons_zero, List.set_cons_succ]
            refine take_op (i := 19) (v := ?_) rfl (by kernel_rfl) (by kernel_rfl) (by kernel_rfl) (fun _ _ _ h => h) (Or.inl ⟨by rfl, ?_⟩) (by assumption) ?_
            rotate_left
            · (intro w' hSw; (try dsimp only at hSw); go_simp; (try with_reducible rfl))
            simp only [Act.put, List.setIfInBounds_toArray, List.set_cons_zero, List.set_cons_succ]
            refine take_op (i := 20) (v := ?_) rfl (by kernel_rfl) (by kernel_rfl) (by kernel_rfl) (fun _ _ _ h => h) (Or.inl ⟨by rfl, ?_⟩) (by assumption) ?_
            rotate_left
            · (intro w' hSw; (try dsimp only at hSw); go_simp; (try with_reducible rfl))
            simp only [Act.put, List.setIfInBounds_toArray, List.set_cons_zero, List.set_cons_succ]
            refine take_op (i := 21) (v := ?_) rfl (by kernel_rfl) (by kernel_rfl) (by kernel_rfl) (fun _ _ _ h => h) (Or.inl ⟨by rfl, ?_⟩) (by assumption) ?_
            rotate_left
            · (intro w' hSw; (try dsimp only at hSw); go_simp; (try with_reducible rfl))
            simp only [Act.put, List.setIfInBounds_toArray, List.set_cons_zero, List.set_cons_succ]
            refine take_op (i := 22) (v := ?_) rfl (by kernel_rfl) (by kernel_rfl) (by kernel_rfl) (fun _ _ _ h => h) (Or.inl ⟨by rfl, ?_⟩) (by assumption) ?_
            rotate_left
            · (intro w' hSw; (try dsimp only at hSw); go_simp; (try with_reducible rfl))
            simp only [Act.put, List.setIfInBounds_toArray, List.set_cons_zero, List.set_cons_succ]
            refine take_op (i := 23) (v := ?_) rfl (by kernel_rfl) (by kernel_rfl) (by kernel_rfl) (fun _ _ _ h => h) (Or.inl ⟨by rfl, ?_⟩) (by assumption) ?_
            rotate_left
            · (intro w' hSw; (try dsimp only at hSw); go_simp; (try with_reducible rfl))
            simp only [Act.put, List.setIfInBounds_toArray, List.set_cons_zero, List.set_cons_succ]
            refine take_op (i := 24) (v := ?_) rfl (by kernel_rfl) (by kernel_rfl) (by kernel_rfl) (fun _ _ _ h => h) (Or.inl ⟨by rfl, ?_⟩) (by assumption) ?_
            rotate_left
            · (intro w' hSw; (try dsimp only at hSw); go_simp; (try with_reducible rfl))
            simp only [Act.put, List.setIfInBounds_toArray, List.set_cons_zero, List.set_cons_succ]
            refine take_op (i := 25) (v := ?_) rfl (by kernel_rfl) (by kernel_rfl) (by kernel_rfl) (fun _ _ _ h => h) (Or.inl ⟨by rfl, ?_⟩) (by assumption) ?_
            rotate_left
            · (intro w' hSw; (try dsimp only at hSw); go_simp; (try with_reducible rfl))
            simp only [Act.put, List.setIfInBounds_toArray, List.set_cons_zero, List.set_cons_succ]
            refine take_op (i := 26) (v := ?_) rfl (by kernel_rfl) (by kernel_rfl) (by kernel_rfl) (fun _ _ _ h => h) (Or.inl ⟨by rfl, ?_⟩) (by assumption) ?_
            rotate_left
            · (intro w' hSw; (try dsimp only at hSw); go_simp; (try with_reducible rfl))
            simp only [Act.put, List.setIfInBounds_toArray, List.set_cons_zero, List.set_cons_succ]
            refine take_op (i := 27) (v := ?_) rfl (by kernel_rfl) (by kernel_rfl) (by kernel_rfl) (fun _ _ _ h => h) (Or.inl ⟨by rfl, ?_⟩) (by assumption) ?_
            rotate_left
            · (intro w' hSw; (try dsimp only at hSw); go_simp; (try with_reducible rfl))
            simp only [Act.put, List.setIfInBounds_toArray, List.set_cons_zero, List.set_cons_succ]
            refine take_op (i := 28) (v := ?_) rfl (by kernel_rfl) (by kernel_rfl) (by kernel_rfl) (fun _ _ _ h => h) (Or.inl ⟨by rfl, ?_⟩) (by assumption) ?_
            rotate_left
            · (intro w' hSw; (try dsimp only at hSw); go_simp; (try with_reducible rfl))
            simp only [Act.put, List.setIfInBounds_toArray, List.set_cons_zero, List.set_cons_succ]
            refine take_op (i := 29) (v := ?_) rfl (by kernel_rfl) (by kernel_rfl) (by kernel_rfl) (fun _ _ _ h => h) (Or.inl ⟨by rfl, ?_⟩) (by assumption) ?_
            rotate_left
            · (intro w' hSw; obtain ⟨⟨z0, z1, z2⟩, z3, z4, z5⟩ := HLd.out _ hSw; go_simp; (try with_reducible rfl))
            simp only [Act.put, List.setIfInBounds_toArray, List.set_cons_zero, List.set_cons_succ]
            refine take_op (i := 30) (v := ?_) rfl (by kernel_rfl) (by kernel_rfl) (by kernel_rfl) (fun _ _ _ h => h) (Or.inl ⟨by rfl, ?_⟩) (by assumption) ?_
            rotate_left
            · (intro w' hSw; obtain ⟨⟨z0, z1, z2⟩, z3, z4, z5⟩ := HLd.out _ hSw; go_simp; (try with_reducible rfl))
            simp only [Act.put, List.setIfInBounds_toArray, List.set_cons_zero, List.set_cons_succ]
            refine wpAnyH_ready (rs := [31]) (by kernel_rfl) (by simp) ?_
            refine cons_op rfl (fun K hK => ?_) AllReadyH.nil
            go_simp
            with_reducible refine (ahead_any _ _ _ _ _ _ _ _ _ _ _).mono ?_
            rintro e W9 ⟨rfl, hb0⟩
            have hb9 := d0.trans (hb0.mono d0.size)
            rw [hah]
            (try go_wp2_with fail)
            refine hK.out _ _ hb9 (fun hHeld => ?_)
            clear hK K
            (try simp only [Act.put, List.setIfInBounds_toArray, List.set_cons_zero, List.set_cons_succ])
            refine take_op (i := 32) (v := ?_) rfl (by kernel_rfl) (by kernel_rfl) (by kernel_rfl) (fun _ _ _ h => h) (Or.inl ⟨by rfl, ?_⟩) (by assumption) ?_
            rotate_left
            · (intro w' hSw; (try dsimp only at hSw); go_simp; (try with_reducible rfl))
            simp only [Act.put, List.setIfInBounds_toArray, List.set_cons_zero, List.set_cons_succ]
            refine take_op (i := 33) (v := ?_) rfl (by kernel_rfl) (by kernel_rfl) (by kernel_rfl) (fun _ _ _ h => h) (Or.inl ⟨by rfl, ?_⟩) (by assumption) ?_
            rotate_left
            · (intro w' hSw; (try dsimp only at hSw); go_simp; (try with_reducible rfl))
            simp only [Act.put, List.setIfInBounds_toArray, List.set_cons_zero, List.set_cons_succ]
            refine take_op (i := 34) (v := ?_) rfl (by kernel_rfl) (by kernel_rfl) (by kernel_rfl) (fun _ _ _ h => h) (Or.inl ⟨by rfl, ?_⟩) (by assumption) ?_
            rotate_left
            · (intro w' hSw; (try dsimp only at hSw); go_simp; (try with_reducible rfl))
            simp only [Act.put, List.setIfInBounds_toArray, List.set_cons_zero, List.set_cons_succ]
            refine take_op (i := 35) (v := ?_) rfl (by kernel_rfl) (by kernel_rfl) (by kernel_rfl) (fun _ _ _ h => h) (Or.inl ⟨by rfl, ?_⟩) (by assumption) ?_
            rotate_left
            · (intro w' hSw; (try dsimp only at hSw); go_simp; (try with_reducible rfl))
            simp only [Act.put, List.setIfInBounds_toArray, List.set_cons_zero, List.set_cons_succ]
            refine take_op (i := 36) (v := ?_) rfl (by kernel_rfl) (by kernel_rfl) (by kernel_rfl) (fun _ _ _ h => h) (Or.inl ⟨by rfl, ?_⟩) (by assumption) ?_
            rotate_left
            · (intro w' hSw; (try dsimp only at hSw); go_simp; (try with_reducible rfl))
            simp only [Act.put, List.setIfInBounds_toArray, List.set_cons_zero, List.set_cons_succ]
            refine take_op (i := 37) (v := ?_) rfl (by kernel_rfl) (by kernel_rfl) (by kernel_rfl) (fun _ _ _ h => h) (Or.inl ⟨by rfl, ?_⟩) (by assumption) ?_
            rotate_left
            · (intro w' hSw; (try dsimp only at hSw); go_simp; (try with_reducible rfl))
            simp only [Act.put, List.setIfInBounds_toArray, List.set_cons_zero, List.set_cons_succ]
            refine take_op (i := 38) (v := ?_) rfl (by kernel_rfl) (by kernel_rfl) (by kernel_rfl) (fun _ _ _ h => h) (Or.inl ⟨by rfl, ?_⟩) (by assumption) ?_
            rotate_left
            · (intro w' hSw; (try dsimp only at hSw); go_simp; (try with_reducible rfl))
            simp only [Act.put, List.setIfInBounds_toArray, List.set_cons_zero, List.set_cons_succ]
            refine take_op (i := 39) (v := ?_) rfl (by kernel_rfl) (by kernel_rfl) (by kernel_rfl) (fun _ _ _ h => h) (Or.inl ⟨by rfl, ?_⟩) (by assumption) ?_
            rotate_left
            · (intro w' hSw; (try dsimp only at hSw); go_simp; (try with_reducible rfl))
            simp only [Act.put, List.setIfInBounds_toArray, List.set_cons_zero, List.set_cons_succ]
            refine wpAnyH_done (by kernel_rfl) ?_ _
            obtain ⟨⟨f0, f1⟩, W10, hw10, ⟨f2, f3, f4⟩, v', W12, hr12, hI'⟩ := acc_step HI.out (hV7.trans (hb9.mono hV7.size)) ((hb9.block _ (blk_lt hbx7)).trans hbx7) hk' hn' hl2 hrk HY.out.1 HY.out.2
            have HI' := Lib.hid hI'
            have hr0 := hsl ((p : Int) + 5) ((p : Int) + 5 + (m2 : Int)) (by omega) (by omega)
            have y3 : IntKind.i64.wrap ((p : Int) + 5 + (m2 : Int)) = (p : Int) + 5 + (m2 : Int) := IntWalk.i64_in _ (by omega)
            have hpn : p + 5 + m2 ≤ L := by omega
            clear hI' hrk HY hsl HF HNo HNr HP1 HP2 HBs hk' hn' HNP
            go_wp2_with (at_builtin; refine wpList_run rfl (.tmp 103) (.tmp 105) 22 rfl (by simp [Act.eval]) (by simp [Act.eval]) hr12 ?_)
            go_roundw
            case rel => exact ⟨p + 5 + m2, _, _, v', hpn, by go_num, rfl, HI'.out⟩
            case measure => simp [intOf]; omega
        · have hah2 : decide (lastI M < ((b0 * 65536 + n2 : Nat) : Int)) = false := by simpa using g5
          rw [hah2] at hah
          have HN := Lib.hid (HNP.out (HNr.out (.inr (.inr (.inr (.inr (.inl g5)))))))
          clear hah2 HNr HNo HF HP1 HP2 HYes HNP hrk hsl g5
          generalize (ks.getD K1 default).r.k = lk at *
          generalize (ks.getD K1 default).r.n = ln at *
          generalize (ks.getD K1 default).A = lA at *
          generalize (ks.getD K1 default).cap = lc at *
          generalize (ks.getD K1 default).r.d.length = ll at *
          go_upto_region 9 with fail
          refine wp_region_held_drew (S := Below W7.heap.size W7) (by kernel_rfl) d0 (fun hHeld => ?_)
          simp only [List.size_toArray, List.length_cons, List.length_nil, Nat.reduceAdd, Array.replicate_succ, Array.replicate_zero, List.push_toArray, List.nil_append, List.cons_append, List.append_toArray]
          refine take_op (i := 0) (v := ?_) rfl (by kernel_rfl) (by kernel_rfl) (by kernel_rfl) (fun _ _ _ h => h) (Or.inl ⟨by rfl, ?_⟩) (by assumption) ?_
          rotate_left
          · (intro w' hSw; (try dsimp only at hSw); go_simp; (try with_reducible rfl))
          simp only [Act.put, List.setIfInBounds_toArray, List.set_cons_zero, List.set_cons_succ]
          refine take_op (i := 1) (v := ?_) rfl (by kernel_rfl) (by kernel_rfl) (by kernel_rfl) (fun _ _ _ h => h) (Or.inl ⟨by rfl, ?_⟩) (by assumption) ?_
          rotate_left
          · (intro w' hSw; (try dsimp only at hSw); go_simp; (try with_reducible rfl))
          simp only [Act.put, List.setIfInBounds_toArray, List.set_cons_zero, List.set_cons_succ]
          refine take_op (i := 2) (v := ?_) rfl (by kernel_rfl) (by kernel_rfl) (by kernel_rfl) (fun _ _ _ h => h) (Or.inl ⟨by rfl, ?_⟩) (by assumption) ?_
          rotate_left
          · (intro w' hSw; (try dsimp only at hSw); go_simp; (try with_reducible rfl))
          simp only [Act.put, List.setIfInBounds_toArray, List.set_cons_zero, List.set_cons_succ]
          refine take_op (i := 3) (v := ?_) rfl (by kernel_rfl) (by kernel_rfl) (by kernel_rfl) (fun _ _ _ h => h) (Or.inl ⟨by rfl, ?_⟩) (by assumption) ?_
          rotate_left
          · (intro w' hSw; (try dsimp only at hSw); go_simp; (try with_reducible rfl))
          simp only [Act.put, List.setIfInBounds_toArray, List.set_cons_zero, List.set_cons_succ]
          refine take_op (i := 4) (v := ?_) rfl (by kernel_rfl) (by kernel_rfl) (by kernel_rfl) (fun _ _ _ h => h) (Or.inl ⟨by rfl, ?_⟩) (by assumption) ?_
          rotate_left
          · (intro w' hSw; (try dsimp only at hSw); go_simp; (try with_reducible rfl))
          simp only [Act.put, List.setIfInBounds_toArray, List.set_cons_zero, List.set_cons_succ]
          refine take_op (i := 5) (v := ?_) rfl (by kernel_rfl) (by kernel_rfl) (by kernel_rfl) (fun _ _ _ h => h) (Or.inl ⟨by rfl, ?_⟩) (by assumption) ?_
          rotate_left
          · (intro w' hSw; (try dsimp only at hSw); go_simp; (try with_reducible rfl))
          simp only [Act.put, List.setIfInBounds_toArray, List.set_cons_zero, List.set_cons_succ]
          refine take_op (i := 6) (v := ?_) rfl (by kernel_rfl) (by kernel_rfl) (by kernel_rfl) (fun _ _ _ h => h) (Or.inl ⟨by rfl, ?_⟩) (by assumption) ?_
          rotate_left
          · (intro w' hSw; (try dsimp only at hSw); go_simp; (try with_reducible rfl))
          simp only [Act.put, List.setIfInBounds_toArray, List.set_cons_zero, List.set_cons_succ]
          refine take_op (i := 7) (v := ?_) rfl (by kernel_rfl) (by kernel_rfl) (by kernel_rfl) (fun _ _ _ h => h) (Or.inl ⟨by rfl, ?_⟩) (by assumption) ?_
          rotate_left
          · (intro w' hSw; (try dsimp only at hSw); go_simp; (try with_reducible rfl))
          simp only [Act.put, List.setIfInBounds_toArray, List.set_cons_zero, List.set_cons_succ]
          refine take_op (i := 8) (v := ?_) rfl (by kernel_rfl) (by kernel_rfl) (by kernel_rfl) (fun _ _ _ h => h) (Or.inl ⟨by rfl, ?_⟩) (by assumption) ?_
          rotate_left
          · (intro w' hSw; (try dsimp only at hSw); go_simp; (try with_reducible rfl))
          simp only [Act.put, List.setIfInBounds_toArray, List.set_cons_zero, List.set_cons_succ]
          refine take_op (i := 9) (v := ?_) rfl (by kernel_rfl) (by kernel_rfl) (by kernel_rfl) (fun _ _ _ h => h) (Or.inl ⟨by rfl, ?_⟩) (by assumption) ?_
          rotate_left
          · (intro w' hSw; (try dsimp only at hSw); go_simp; (try with_reducible rfl))
          simp only [Act.put, List.setIfInBounds_toArray, List.set_cons_zero, List.set_cons_succ]
          refine take_op (i := 10) (v := ?_) rfl (by kernel_rfl) (by kernel_rfl) (by kernel_rfl) (fun _ _ _ h => h) (Or.inl ⟨by rfl, ?_⟩) (by assumption) ?_
          rotate_left
          · (intro w' hSw; (try dsimp only at hSw); go_simp; (try with_reducible rfl))
          simp only [Act.put, List.setIfInBounds_toArray, List.set_cons_zero, List.set_cons_succ]
          refine take_op (i := 11) (v := ?_) rfl (by kernel_rfl) (by kernel_rfl) (by kernel_rfl) (fun _ _ _ h => h) (Or.inl ⟨by rfl, ?_⟩) (by assumption) ?_
          rotate_left
          · (intro w' hSw; (try dsimp only at hSw); go_simp; (try with_reducible rfl))
          simp only [Act.put, List.setIfInBounds_toArray, List.set_cons_zero, List.set_cons_succ]
          refine take_op (i := 12) (v := ?_) rfl (by kernel_rfl) (by kernel_rfl) (by kernel_rfl) (fun _ _ _ h => h) (Or.inl ⟨by rfl, ?_⟩) (by assumption) ?_
          rotate_left
          · (intro w' hSw; (try dsimp only at hSw); go_simp; (try with_reducible rfl))
          simp only [Act.put, List.setIfInBounds_toArray, List.set_cons_zero, List.set_cons_succ]
          refine take_op (i := 13) (v := ?_) rfl (by kernel_rfl) (by kernel_rfl) (by kernel_rfl) (fun _ _ _ h => h) (Or.inl ⟨by rfl, ?_⟩) (by assumption) ?_
          rotate_left
          · (intro w' hSw; (try dsimp only at hSw); go_simp; (try with_reducible rfl))
          simp only [Act.put, List.setIfInBounds_toArray, List.set_cons_zero, List.set_cons_succ]
          refine take_op (i := 14) (v := ?_) rfl (by kernel_rfl) (by kernel_rfl) (by kernel_rfl) (fun _ _ _ h => h) (Or.inl ⟨by rfl, ?_⟩) (by assumption) ?_
          rotate_left
          · (intro w' hSw; (try dsimp only at hSw); go_simp; (try with_reducible rfl))
          simp only [Act.put, List.setIfInBounds_toArray, List.set_cons_zero, List.set_cons_succ]
          refine take_op (i := 15) (v := ?_) rfl (by kernel_rfl) (by kernel_rfl) (by kernel_rfl) (fun _ _ _ h => h) (Or.inl ⟨by rfl, ?_⟩) (by assumption) ?_
          rotate_left
          · (intro w' hSw; (try dsimp only at hSw); go_simp; (try with_reducible rfl))
          simp only [Act.put, List.setIfInBounds_toArray, List.set_cons_zero, List.set_cons_succ]
          refine take_op (i := 16) (v := ?_) rfl (by kernel_rfl) (by kernel_rfl) (by kernel_rfl) (fun _ _ _ h => h) (Or.inl ⟨by rfl, ?_⟩) (by assumption) ?_
          rotate_left
          · (intro w' hSw; obtain ⟨⟨z0, z1, z2⟩, z3, z4, z5⟩ := HLd.out _ hSw; go_simp; (try with_reducible rfl))
          simp only [Act.put, List.setIfInBounds_toArray, List.set_cons_zero, List.set_cons_succ]
          refine take_op (i := 17) (v := ?_) rfl (by kernel_rfl) (by kernel_rfl) (by kernel_rfl) (fun _ _ _ h => h) (Or.inl ⟨by rfl, ?_⟩) (by assumption) ?_
          rotate_left
          · (intro w' hSw; (try dsimp only at hSw); go_simp; (try with_reducible rfl))
          simp only [Act.put, List.setIfInBounds_toArray, List.set_cons_zero, List.set_cons_succ]
          refine take_op (i := 18) (v := ?_) rfl (by kernel_rfl) (by kernel_rfl) (by kernel_rfl) (fun _ _ _ h => h) (Or.inl ⟨by rfl, ?_⟩) (by assumption) ?_
          rotate_left
          · (intro w' hSw; (try dsimp only at hSw); go_simp; (try with_reducible rfl))
          simp only [Act.put, List.setIfInBounds_toArray, List.set_cons_zero, List.set_cons_succ]
          refine take_op (i := 19) (v := ?_) rfl (by kernel_rfl) (by kernel_rfl) (by kernel_rfl) (fun _ _ _ h => h) (Or.inl ⟨by rfl, ?_⟩) (by assumption) ?_
          rotate_left
          · (intro w' hSw; (try dsimp only at hSw); go_simp; (try with_reducible rfl))
          simp only [Act.put, List.setIfInBounds_toArray, List.set_cons_zero, List.set_cons_succ]
          refine take_op (i := 20) (v := ?_) rfl (by kernel_rfl) (by kernel_rfl) (by kernel_rfl) (fun _ _ _ h => h) (Or.inl ⟨by rfl, ?_⟩) (by assumption) ?_
          rotate_left
          · (intro w' hSw; (try dsimp only at hSw); go_simp; (try with_reducible rfl))
          simp only [Act.put, List.setIfInBounds_toArray, List.set_cons_zero, List.set_cons_succ]
          refine take_op (i := 21) (v := ?_) rfl (by kernel_rfl) (by kernel_rfl) (by kernel_rfl) (fun _ _ _ h => h) (Or.inl ⟨by rfl, ?_⟩) (by assumption) ?_
          rotate_left
          · (intro w' hSw; (try dsimp only at hSw); go_simp; (try with_reducible rfl))
          simp only [Act.put, List.setIfInBounds_toArray, List.set_cons_zero, List.set_cons_succ]
          refine take_op (i := 22) (v := ?_) rfl (by kernel_rfl) (by kernel_rfl) (by kernel_rfl) (fun _ _ _ h => h) (Or.inl ⟨by rfl, ?_⟩) (by assumption) ?_
          rotate_left
          · (intro w' hSw; (try dsimp only at hSw); go_simp; (try with_reducible rfl))
          simp only [Act.put, List.setIfInBounds_toArray, List.set_cons_zero, List.set_cons_succ]
          refine take_op (i := 23) (v := ?_) rfl (by kernel_rfl) (by kernel_rfl) (by kernel_rfl) (fun _ _ _ h => h) (Or.inl ⟨by rfl, ?_⟩) (by assumption) ?_
          rotate_left
          · (intro w' hSw; (try dsimp only at hSw); go_simp; (try with_reducible rfl))
          simp only [Act.put, List.setIfInBounds_toArray, List.set_cons_zero, List.set_cons_succ]
          refine take_op (i := 24) (v := ?_) rfl (by kernel_rfl) (by kernel_rfl) (by kernel_rfl) (fun _ _ _ h => h) (Or.inl ⟨by rfl, ?_⟩) (by assumption) ?_
          rotate_left
          · (intro w' hSw; (try dsimp only at hSw); go_simp; (try with_reducible rfl))
          simp only [Act.put, List.setIfInBounds_toArray, List.set_cons_zero, List.set_cons_succ]
          refine take_op (i := 25) (v := ?_) rfl (by kernel_rfl) (by kernel_rfl) (by kernel_rfl) (fun _ _ _ h => h) (Or.inl ⟨by rfl, ?_⟩) (by assumption) ?_
          rotate_left
          · (intro w' hSw; (try dsimp only at hSw); go_simp; (try with_reducible rfl))
          simp only [Act.put, List.setIfInBounds_toArray, List.set_cons_zero, List.set_cons_succ]
          refine take_op (i := 26) (v := ?_) rfl (by kernel_rfl) (by kernel_rfl) (by kernel_rfl) (fun _ _ _ h => h) (Or.inl ⟨by rfl, ?_⟩) (by assumption) ?_
          rotate_left
          · (intro w' hSw; (try dsimp only at hSw); go_simp; (try with_reducible rfl))
          simp only [Act.put, List.setIfInBounds_toArray, List.set_cons_zero, List.set_cons_succ]
          refine take_op (i := 27) (v := ?_) rfl (by kernel_rfl) (by kernel_rfl) (by kernel_rfl) (fun _ _ _ h => h) (Or.inl ⟨by rfl, ?_⟩) (by assumption) ?_
          rotate_left
          · (intro w' hSw; (try dsimp only at hSw); go_simp; (try with_reducible rfl))
          simp only [Act.put, List.setIfInBounds_toArray, List.set_cons_zero, List.set_cons_succ]
          refine take_op (i := 28) (v := ?_) rfl (by kernel_rfl) (by kernel_rfl) (by kernel_rfl) (fun _ _ _ h => h) (Or.inl ⟨by rfl, ?_⟩) (by assumption) ?_
          rotate_left
          · (intro w' hSw; (try dsimp only at hSw); go_simp; (try with_reducible rfl))
          simp only [Act.put, List.setIfInBounds_toArray, List.set_cons_zero, List.set_cons_succ]
          refine take_op (i := 29) (v := ?_) rfl (by kernel_rfl) (by kernel_rfl) (by kernel_rfl) (fun _ _ _ h => h) (Or.inl ⟨by rfl, ?_⟩) (by assumption) ?_
          rotate_left
          · (intro w' hSw; obtain ⟨⟨z0, z1, z2⟩, z3, z4, z5⟩ := HLd.out _ hSw; go_simp; (try with_reducible rfl))
          simp only [Act.put, List.setIfInBounds_toArray, List.set_cons_zero, List.set_cons_succ]
          refine take_op (i := 30) (v := ?_) rfl (by kernel_rfl) (by kernel_rfl) (by kernel_rfl) (fun _ _ _ h => h) (Or.inl ⟨by rfl, ?_⟩) (by assumption) ?_
          rotate_left
          · (intro w' hSw; obtain ⟨⟨z0, z1, z2⟩, z3, z4, z5⟩ := HLd.out _ hSw; go_simp; (try with_reducible rfl))
          simp only [Act.put, List.setIfInBounds_toArray, List.set_cons_zero, List.set_cons_succ]
          refine wpAnyH_ready (rs := [31]) (by kernel_rfl) (by simp) ?_
          refine cons_op rfl (fun K hK => ?_) AllReadyH.nil
          go_simp
          with_reducible refine (ahead_any _ _ _ _ _ _ _ _ _ _ _).mono ?_
          rintro e W9 ⟨rfl, hb0⟩
          have hb9 := d0.trans (hb0.mono d0.size)
          rw [hah]
          (try go_wp2_with fail)
          refine hK.out _ _ hb9 (fun hHeld => ?_)
          clear hK K
          (try simp only [Act.put, List.setIfInBounds_toArray, List.set_cons_zero, List.set_cons_succ])
          refine take_op (i := 32) (v := ?_) rfl (by kernel_rfl) (by kernel_rfl) (by kernel_rfl) (fun _ _ _ h => h) (Or.inl ⟨by rfl, ?_⟩) (by assumption) ?_
          rotate_left
          · (intro w' hSw; (try dsimp only at hSw); go_simp; (try with_reducible rfl))
          simp only [Act.put, List.setIfInBounds_toArray, List.set_cons_zero, List.set_cons_succ]
          refine take_op (i := 33) (v := ?_) rfl (by kernel_rfl) (by kernel_rfl) (by kernel_rfl) (fun _ _ _ h => h) (Or.inl ⟨by rfl, ?_⟩) (by assumption) ?_
          rotate_left
          · (intro w' hSw; (try dsimp only at hSw); go_simp; (try with_reducible rfl))
          simp only [Act.put, List.setIfInBounds_toArray, List.set_cons_zero, List.set_cons_succ]
          refine take_op (i := 34) (v := ?_) rfl (by kernel_rfl) (by kernel_rfl) (by kernel_rfl) (fun _ _ _ h => h) (Or.inl ⟨by rfl, ?_⟩) (by assumption) ?_
          rotate_left
          · (intro w' hSw; (try dsimp only at hSw); go_simp; (try with_reducible rfl))
          simp only [Act.put, List.setIfInBounds_toArray, List.set_cons_zero, List.set_cons_succ]
          refine take_op (i := 35) (v := ?_) rfl (by kernel_rfl) (by kernel_rfl) (by kernel_rfl) (fun _ _ _ h => h) (Or.inl ⟨by rfl, ?_⟩) (by assumption) ?_
          rotate_left
          · (intro w' hSw; (try dsimp only at hSw); go_simp; (try with_reducible rfl))
          simp only [Act.put, List.setIfInBounds_toArray, List.set_cons_zero, List.set_cons_succ]
          refine take_op (i := 36) rfl (by kernel_rfl) (by kernel_rfl) (by kernel_rfl) (fun _ _ _ h => h) (Or.inr ⟨by rfl, rfl⟩) (by assumption) ?_
          (try simp only [Act.put, List.setIfInBounds_toArray, List.set_cons_zero, List.set_cons_succ])
          refine take_op (i := 37) rfl (by kernel_rfl) (by kernel_rfl) (by kernel_rfl) (fun _ _ _ h => h) (Or.inr ⟨by rfl, rfl⟩) (by assumption) ?_
          (try simp only [Act.put, List.setIfInBounds_toArray, List.set_cons_zero, List.set_cons_succ])
          refine take_op (i := 38) rfl (by kernel_rfl) (by kernel_rfl) (by kernel_rfl) (fun _ _ _ h => h) (Or.inr ⟨by rfl, rfl⟩) (by assumption) ?_
          (try simp only [Act.put, List.setIfInBounds_toArray, List.set_cons_zero, List.set_cons_succ])
          refine take_op (i := 39) (v := ?_) rfl (by kernel_rfl) (by kernel_rfl) (by kernel_rfl) (fun _ _ _ h => h) (Or.inl ⟨by rfl, ?_⟩) (by assumption) ?_
          rotate_left
          · (intro w' hSw; (try dsimp only at hSw); go_simp; (try with_reducible rfl))
          simp only [Act.put, List.setIfInBounds_toArray, List.set_cons_zero, List.set_cons_succ]
          refine wpAnyH_done (by kernel_rfl) ?_ _
          go_wp2
          exact HN.out _ hb9
    · obtain rfl : p = L := by omega
      have hrd : rdA l = some M := by
        rw [← HI.out.rd, ← HL.out, Nat.sub_self, List.drop_of_length_le (by rw [← HL.out]; exact Nat.le_refl _)]
        rfl
      obtain ⟨A2, c2, rfl, hrs, hkc⟩ := row_rs HI.out.row (fun x hx => (HI.out.recs x hx).below HI.out.below)
      have HN := Lib.hid (HP2.out M A2 ks c2 V hrd HI.out.below ⟨hrs, HI.out.eq, HI.out.ok.each, HI.out.ok.len⟩)
      clear hrd hrs hkc HP1 HP2 HI
      go_wp2
      exact HN.out
end Go.Proofs.Ytgciibcngmimkaa
