/-
  Joints: its closure.
-/
import Derived.Test.YtlcadkhhpnaofaaGFal
import Derived.Test.YtlcadkhhpnaofaaGMir
import Derived.StillTailTactics
import Derived.Deep.RegionHeld3
import Derived.Scope
namespace Go.Proofs.Ytlcadkhhpnaofaa
set_option maxRecDepth 100000
open Go Go.RowKit Gq

def nilV : Value := .slice none 0 0
structure FE (Wb : World) (R Bk : Gr) (pt D pj pm pg pk pf b b' : Nat) : Prop where
  n : R.length ≤ 1024
  hR : ∀ v, ∀ x ∈ row R v, x < R.length
  hB : ∀ v, ∀ x ∈ row Bk v, x < R.length
  lR : ∀ v, (row R v).length ≤ 1024 ∧ (row Bk v).length ≤ 1024
  cm : Wb.cell? ⟨pm, 0, none⟩ = some (.slice (some ⟨D, 0, none⟩) R.length R.length)
  cg : Wb.cell? ⟨pg, 0, none⟩ = some (.pointer (some ⟨b, 0, none⟩))
  ck : Wb.cell? ⟨pk, 0, none⟩ = some (.pointer (some ⟨b', 0, none⟩))
  cf : Wb.cell? ⟨pf, 0, none⟩ = some (.func (.func 37) #[] #[.pointer (some ⟨pt, 0, none⟩), .pointer (some ⟨pm, 0, none⟩), .pointer (some ⟨pg, 0, none⟩), .pointer (some ⟨pk, 0, none⟩), .pointer (some ⟨pf, 0, none⟩), .pointer (some ⟨pj, 0, none⟩)])
  rowR : ∀ k, k < R.length → ∃ g cap P c, (b ≠ pt ∧ b ≠ D ∧ b ≠ pj) ∧ (g ≠ pt ∧ g ≠ D ∧ g ≠ pj) ∧ Wb.cell? ⟨b, 0, none⟩ = some (.slice (some ⟨g, 0, none⟩) R.length cap) ∧ Wb.cell? ⟨g, k, none⟩ = some (.slice P (row R k).length c) ∧
      ∀ i, i < (row R k).length → ∃ q, P = some ⟨q, 0, none⟩ ∧ (q ≠ pt ∧ q ≠ D ∧ q ≠ pj) ∧ Wb.cell? ⟨q, i, none⟩ = some (.int .i64 (((row R k).getD i 0 : Nat) : Int))
  rowB : ∀ k, k < R.length → ∃ g cap P c, (b' ≠ pt ∧ b' ≠ D ∧ b' ≠ pj) ∧ (g ≠ pt ∧ g ≠ D ∧ g ≠ pj) ∧ Wb.cell? ⟨b', 0, none⟩ = some (.slice (some ⟨g, 0, none⟩) R.length cap) ∧ Wb.cell? ⟨g, k, none⟩ = some (.slice P (row Bk k).length c) ∧
      ∀ i, i < (row Bk k).length → ∃ q, P = some ⟨q, 0, none⟩ ∧ (q ≠ pt ∧ q ≠ D ∧ q ≠ pj) ∧ Wb.cell? ⟨q, i, none⟩ = some (.int .i64 (((row Bk k).getD i 0 : Nat) : Int))
  nm : pm ≠ pt ∧ pm ≠ D ∧ pm ≠ pj
  ng : pg ≠ pt ∧ pg ≠ D ∧ pg ≠ pj
  nk : pk ≠ pt ∧ pk ≠ D ∧ pk ≠ pj
  nf : pf ≠ pt ∧ pf ≠ D ∧ pf ≠ pj
  ne : pt ≠ D ∧ pt ≠ pj ∧ D ≠ pj
  lt : pt < Wb.heap.size ∧ D < Wb.heap.size ∧ pj < Wb.heap.size

theorem FJ.up {Wb wr : World} {pt D pj q : Nat} {s : FS} {u : Value} (h : FJ Wb pt D pj nilV q s u wr) {p : Addr} {x : Value} (hp : p.block ≠ pt ∧ p.block ≠ D ∧ p.block ≠ pj) (hc : Wb.cell? p = some x) : wr.cell? p = some x :=
  h.k.cell hc (by
    rintro (e | e | e | e)
    · exact hp.1 e
    · exact hp.2.1 e
    · exact hp.2.2 e
    · simp [nilV, Value.ownBlock] at e)
theorem FJ.fresh {Wb wr : World} {pt D pj q : Nat} {s : FS} {u : Value} (h : FJ Wb pt D pj nilV q s u wr) : ∀ k, u.ownBlock = some k → q ≤ k := fun k hk => by
  rcases h.o k hk with e | e
  · simp [nilV, Value.ownBlock] at e
  · exact e

def FX (R Bk : Gr) (f v : Nat) (x0 : Nat × Nat × FS) (k : Nat) : Nat × Nat × FS := ((row R v ++ row Bk v).take k).foldl (fal1 R Bk f v) x0
theorem FX_succ {R Bk : Gr} {f v k : Nat} {x0 : Nat × Nat × FS} (h : k < (row R v ++ row Bk v).length) : FX R Bk f v x0 (k + 1) = fal1 R Bk f v (FX R Bk f v x0 k) ((row R v ++ row Bk v).getD k 0) := by
  unfold FX
  rw [take_snoc' h, List.foldl_append]; rfl

/-- What the loops hold of memory. -/
def FMem (wr : World) (pt D pj : Nat) (u sl1 sl2 : Value) (x : Nat × Nat × FS) (wi : World) : Prop :=
  ∃ u', FJ wr pt D pj u (wr.heap.size + 1) x.2.2 u' wi ∧ wi.heap[wr.heap.size]? = some (.cells #[sl1, sl2] 34 (0, 0))
/-- Which of both lists it is, as the walk reads it. -/
def Part (Wb : World) (pt D pj n : Nat) (L : List Nat) (P : Option Addr) (ln off : Nat) : Prop :=
  off + ln ≤ L.length ∧ ∀ i, i < ln → L.getD (off + i) 0 < n ∧ ∃ q, P = some ⟨q, 0, none⟩ ∧ (q ≠ pt ∧ q ≠ D ∧ q ≠ pj) ∧ Wb.cell? ⟨q, i, none⟩ = some (.int .i64 ((L.getD (off + i) 0 : Nat) : Int))
theorem getD_app1 {A B : List Nat} {i : Nat} (h : i < A.length) : (A ++ B).getD (0 + i) 0 = A.getD i 0 := by
  rw [Nat.zero_add]; simp only [List.getD_eq_getElem?_getD]; rw [List.getElem?_append_left h]
theorem getD_app2 {A B : List Nat} {i : Nat} : (A ++ B).getD (A.length + i) 0 = B.getD i 0 := by
  simp only [List.getD_eq_getElem?_getD]; rw [List.getElem?_append_right (by omega), Nat.add_sub_cancel_left]

set_option maxHeartbeats 8000000 in
theorem falls_any {Wb : World} {R Bk : Gr} {pt D pj pm pg pk pf b b' : Nat} (HE : Hid (FE Wb R Bk pt D pj pm pg pk pf b b')) (f : Nat) : ∀ (v : Nat) (first : Bool) (s : FS) (wr : World) (u : Value), zc s.met ≤ f → s.met.length = R.length → v < R.length → nv s.met v = 0 →
    s.turn + zc s.met ≤ R.length → s.joints.length + zc s.met ≤ R.length → FJ Wb pt D pj nilV Wb.heap.size s u wr →
    Calls Try.prog 37 #[.int .i64 (v : Int), .bool first, .pointer (some ⟨pt, 0, none⟩), .pointer (some ⟨pm, 0, none⟩), .pointer (some ⟨pg, 0, none⟩), .pointer (some ⟨pk, 0, none⟩), .pointer (some ⟨pf, 0, none⟩), .pointer (some ⟨pj, 0, none⟩)] wr
      fun e w' => e = .returned (.int .i64 ((falF R Bk f v first s).1 : Int)) ∧ ∃ u', FJ wr pt D pj u wr.heap.size (falF R Bk f v first s).2 u' w' := by
  induction f with
  | zero =>
    intro v first s wr u hf hs hv hu _ _ _
    have := zc_set (t := 1) (show v < s.met.length by omega) hu (by omega)
    omega
  | succ f ih =>
    intro v first s we u hf hs hv hu ht hj hM
    have HI := Lib.hid ih
    clear ih
    obtain ⟨i0, hi, hz0, hz1, hz2⟩ := info_parts Try.infoInt
    have hc := zc_set (t := s.turn + 1) (show v < s.met.length by omega) hu (by omega)
    have hne := HE.out.ne
    have hltb := HE.out.lt
    have hbs := hM.k.size
    have hfr := hM.fresh
    -- from this call's own beginning
    have hM0 : FJ we pt D pj u (we.heap.size + 1) s u we := ⟨Kept.refl _ _, hM.t, hM.m, hM.j, hM.r, fun k hk => .inl hk⟩
    have hM1 := hM0.turn (x := s.turn + 1) ⟨hne.1, hne.2.1⟩ (fun k hk => by have := hfr k hk; omega)
    have hM2 := hM1.meet (i := v) (x := s.turn + 1) ⟨fun e => hne.1 e.symm, hne.2.2⟩ (fun k hk => by have := hfr k hk; omega)
    have hb1 := hM.turn (x := s.turn + 1) ⟨hne.1, hne.2.1⟩ (fun k hk => by have := hfr k hk; omega)
    have hb2 := hb1.meet (i := v) (x := s.turn + 1) ⟨fun e => hne.1 e.symm, hne.2.2⟩ (fun k hk => by have := hfr k hk; omega)
    have ec : (((s.turn + 1 : Nat)) : Int) = (s.turn : Int) + 1 := by omega
    simp only [ec] at hM1 hM2 hb1 hb2
    have t0 : we.cell? ⟨pt, 0, none⟩ = some (.int .i64 (s.turn : Int)) := by rw [blk_cell hM.t]; rfl
    have ft := blk_free hM.t 0
    have m1 : (we.setCell ⟨pt, 0, none⟩ (.int .i64 ((s.turn : Int) + 1))).cell? ⟨pm, 0, none⟩ = some (.slice (some ⟨D, 0, none⟩) R.length R.length) := hb1.up HE.out.nm HE.out.cm
    have t1 : (we.setCell ⟨pt, 0, none⟩ (.int .i64 ((s.turn : Int) + 1))).cell? ⟨pt, 0, none⟩ = some (.int .i64 ((s.turn : Int) + 1)) := by
      have := hM1.t
      simp only [ec] at this
      rw [blk_cell this]; rfl
    have mD : ∃ y, (we.setCell ⟨pt, 0, none⟩ (.int .i64 ((s.turn : Int) + 1))).cell? ⟨D, v, none⟩ = some y := ⟨_, by rw [blk_cell hM1.m]; exact ic_get (by rw [ints_length]; show v < s.met.length; omega)⟩
    obtain ⟨y, mD⟩ := mD
    have fD := blk_free hM.m v
    obtain ⟨W2, hW2⟩ : ∃ W2, W2 = (we.setCell ⟨pt, 0, none⟩ (.int .i64 ((s.turn : Int) + 1))).setCell ⟨D, v, none⟩ (.int .i64 ((s.turn : Int) + 1)) := ⟨_, rfl⟩
    have t2 : ((we.setCell ⟨pt, 0, none⟩ (.int .i64 ((s.turn : Int) + 1))).setCell ⟨D, v, none⟩ (.int .i64 ((s.turn : Int) + 1))).cell? ⟨pt, 0, none⟩ = some (.int .i64 ((s.turn : Int) + 1)) := by
      have := hM2.t
      simp only [ec] at this
      rw [blk_cell this]; rfl
    rw [← hW2] at hM2 hb2
    have hz2W : W2.heap.size = we.heap.size := by rw [hW2]; simp
    have hturn : s.turn ≤ 1024 := by have := HE.out.n; omega
    have hnR := HE.out.n
    have HM2 := Lib.hid hM2
    have HB2 := Lib.hid hb2
    obtain ⟨g1, gc1, P1, rc1, xb1, xg1, r1, r2, r3⟩ := HE.out.rowR v hv
    obtain ⟨g2, gc2, P2, rc2, xb2, xg2, q1, q2, q3⟩ := HE.out.rowB v hv
    have a1 := hb2.up HE.out.ng HE.out.cg
    have a2 := hb2.up xb1 r1
    have a3 := hb2.up xg1 r2
    have a4 := hb2.up HE.out.nk HE.out.ck
    have a5 := hb2.up xb2 q1
    have a6 := hb2.up xg2 q2
    have HR3 := Lib.hid r3
    have HQ3 := Lib.hid q3
    have HC := Lib.hid hc
    have HF := Lib.hid hf
    have HS := Lib.hid hs
    have HT := Lib.hid ht
    have HJ := Lib.hid hj
    have HFR := Lib.hid hfr
    have HBM := Lib.hid hM
    clear hM hM0 hM1 hM2 hb1 hb2 ec r1 r2 r3 q1 q2 q3 hc hf hs ht hj hu hfr xb1 xg1 xb2 xg2
    obtain ⟨n, hnn⟩ : ∃ n, n = R.length := ⟨_, rfl⟩
    obtain ⟨lR, hlR⟩ : ∃ lR, lR = (row R v).length := ⟨_, rfl⟩
    obtain ⟨lB, hlB⟩ : ∃ lB, lB = (row Bk v).length := ⟨_, rfl⟩
    rw [← hnn] at hv m1 a2 a5 hnR
    rw [← hlR] at a3
    rw [← hlB] at a6
    have HN := Lib.hid hnn
    have HLR := Lib.hid hlR
    have HLB := Lib.hid hlB
    have hll := HE.out.lR v
    rw [← hlR, ← hlB] at hll
    clear hnn hlR hlB
    go_enter Try.func37, Try.ntmps37
    go_wp2
    rw [← hW2]
    clear hW2 t0 ft m1 t1 mD fD t2
    have HA : Hid (∀ w', Still W2 w' → w'.cell? ⟨pg, 0, none⟩ = some (.pointer (some ⟨b, 0, none⟩)) ∧ w'.cell? ⟨b, 0, none⟩ = some (.slice (some ⟨g1, 0, none⟩) n gc1) ∧ w'.cell? ⟨g1, v, none⟩ = some (.slice P1 lR rc1) ∧ w'.cell? ⟨pk, 0, none⟩ = some (.pointer (some ⟨b', 0, none⟩)) ∧ w'.cell? ⟨b', 0, none⟩ = some (.slice (some ⟨g2, 0, none⟩) n gc2) ∧ w'.cell? ⟨g2, v, none⟩ = some (.slice P2 lB rc2)) :=
      fun w' hk => ⟨hk.cell a1 id, hk.cell a2 id, hk.cell a3 id, hk.cell a4 id, hk.cell a5 id, hk.cell a6 id⟩
    clear a1 a2 a3 a4 a5 a6
    go_region_held3 (fun w' => w'.cell? ⟨pg, 0, none⟩ = some (.pointer (some ⟨b, 0, none⟩)) ∧ w'.cell? ⟨b, 0, none⟩ = some (.slice (some ⟨g1, 0, none⟩) n gc1) ∧ w'.cell? ⟨g1, v, none⟩ = some (.slice P1 lR rc1) ∧ w'.cell? ⟨pk, 0, none⟩ = some (.pointer (some ⟨b', 0, none⟩)) ∧ w'.cell? ⟨b', 0, none⟩ = some (.slice (some ⟨g2, 0, none⟩) n gc2) ∧ w'.cell? ⟨g2, v, none⟩ = some (.slice P2 lB rc2)) (first | exact HA.out _ ((Kept.refl _ _).drew) | exact HA.out _ (((Kept.refl _ _).drew).alloc _) | exact HA.out _ (((Kept.refl _ _).alloc _).drew)) (fail)
    go_wp2
    clear HA
    have HM4 : Hid (FMem we pt D pj u (.slice P1 lR rc1) (.slice P2 lB rc2) (FX R Bk f v (s.turn + 1, 0, ⟨s.turn + 1, s.met.set v (s.turn + 1), s.joints⟩) 0) ((W2.alloc (.cells #[.slice P1 lR rc1, .slice P2 lB rc2] 34)).drew)) := by
      refine ⟨u, (HM2.out.still ((Kept.refl _ W2).alloc _)).still ((Kept.refl _ _).drew), ?_⟩
      rw [← hz2W]
      exact heap_alloc_new W2 _
    obtain ⟨x0, hx0⟩ : ∃ x0 : Nat × Nat × FS, x0 = (s.turn + 1, 0, ⟨s.turn + 1, s.met.set v (s.turn + 1), s.joints⟩) := ⟨_, rfl⟩
    have HX0 := Lib.hid hx0
    rw [← hx0] at HM4
    clear hx0 hz2W HM2 HB2
    have hx1 : Value.int .i64 ((s.turn : Int) + 1) = .int .i64 (((FX R Bk f v x0 0).1 : Nat) : Int) := by
      rw [HX0.out]; show _ = Value.int .i64 (((s.turn + 1 : Nat)) : Int); congr 1
    have hx2 : Value.int .i64 0 = .int .i64 (((FX R Bk f v x0 0).2.1 : Nat) : Int) := by rw [HX0.out]; rfl
    have HX1 := Lib.hid hx1
    have HX2 := Lib.hid hx2
    clear hx1 hx2
    have HPT : Hid (∀ a k, a < 2 → k = (if a = 0 then 0 else if a = 1 then lR else lR + lB) → ∃ P ln c, #[Value.slice P1 lR rc1, Value.slice P2 lB rc2][a]? = some (.slice P ln c) ∧ Part Wb pt D pj n (row R v ++ row Bk v) P ln k ∧ ln ≤ 1024 ∧ k + ln = (if a + 1 = 0 then 0 else if a + 1 = 1 then lR else lR + lB)) := by
      intro a k ha hk
      rcases (by omega : a = 0 ∨ a = 1) with rfl | rfl
      · have hk : k = 0 := hk
        subst hk
        refine ⟨P1, lR, rc1, rfl, ⟨by rw [List.length_append, ← HLR.out]; omega, fun i hi => ?_⟩, hll.1, by simp⟩
        have hi' : i < (row R v).length := by rw [← HLR.out]; exact hi
        rw [getD_app1 hi']
        obtain ⟨q, e1, e2, e3⟩ := HR3.out i hi'
        exact ⟨by rw [HN.out]; exact HE.out.hR v _ (by simp [List.getD, hi']), q, e1, e2, e3⟩
      · have hk : k = lR := hk
        subst hk
        refine ⟨P2, lB, rc2, rfl, ⟨by rw [List.length_append, ← HLR.out, ← HLB.out]; exact Nat.le_refl _, fun i hi => ?_⟩, hll.2, by simp⟩
        have hi' : i < (row Bk v).length := by rw [← HLB.out]; exact hi
        rw [HLR.out, getD_app2]
        obtain ⟨q, e1, e2, e3⟩ := HQ3.out i hi'
        exact ⟨by rw [HN.out]; exact HE.out.hB v _ (by simp [List.getD, hi']), q, e1, e2, e3⟩
    clear HR3 HQ3
    rw [HX1.out]
    go_loopw [11, 12, 41] (fun e1 e2 ua wi => ∃ a k : Nat, a ≤ 2 ∧ k = (if a = 0 then 0 else if a = 1 then lR else lR + lB) ∧ ua = .int .i64 (a : Int) ∧ e1 = .int .i64 (((FX R Bk f v x0 k).1 : Nat) : Int) ∧ e2 = .int .i64 (((FX R Bk f v x0 k).2.1 : Nat) : Int) ∧ FMem we pt D pj u (.slice P1 lR rc1) (.slice P2 lB rc2) (FX R Bk f v x0 k) wi) (fun _ _ ua _ => 2 - (intOf ua).toNat)
    case atStart => exact ⟨0, 0, by omega, rfl, rfl, by first | rfl | exact HX1.out, by first | rfl | exact HX2.out, HM4.out⟩
    case round =>
      obtain ⟨a, k, ha, hk, rfl, rfl, rfl, hmem⟩ := hrel
      clear HM4
      by_cases hlt : a < 2
      · obtain ⟨P, ln, c, hsl, hpart, hln, hnext⟩ := HPT.out a k hlt hk
        have HK := Lib.hid hk
        have HNX := Lib.hid hnext
        have HP := Lib.hid hpart
        have HMem := Lib.hid hmem
        obtain ⟨u', hfj, hp⟩ := hmem
        have f1 : wr.cell? ⟨we.heap.size, a, none⟩ = some (.slice P ln c) := by rw [blk_cell hp]; exact hsl
        clear hk hnext hpart hfj hp hsl
        have hdec : decide ((a : Int) < 2) = true := by simp; omega
        go_wp2
        clear hdec
        go_step3
        go_wp2
        go_step3
        go_wp2
        clear f1
        go_loopw [11, 12, 47] (fun e1 e2 ui wj => ∃ i : Nat, i ≤ ln ∧ ui = .int .i64 (i : Int) ∧ e1 = .int .i64 (((FX R Bk f v x0 (k + i)).1 : Nat) : Int) ∧ e2 = .int .i64 (((FX R Bk f v x0 (k + i)).2.1 : Nat) : Int) ∧ FMem we pt D pj u (.slice P1 lR rc1) (.slice P2 lB rc2) (FX R Bk f v x0 (k + i)) wj) (fun _ _ ui _ => ln - (intOf ui).toNat)
        case atStart => exact ⟨0, Nat.zero_le _, rfl, rfl, rfl, HMem.out⟩
        case round =>
          obtain ⟨i, hi', rfl, rfl, rfl, hmem⟩ := hrel
          clear HMem
          by_cases hlt2 : i < ln
          · obtain ⟨hto, q, rfl, xq, r3⟩ := HP.out.2 i hlt2
            have hkl : k + i < (row R v ++ row Bk v).length := by have := HP.out.1; omega
            have hst := FX_succ (R := R) (Bk := Bk) (f := f) (v := v) (x0 := x0) hkl
            have hbd := fb_list HE.out.hR HE.out.hB f v ((row R v ++ row Bk v).take (k + i)) x0 (by rw [HX0.out]; show (s.met.set v (s.turn + 1)).length = _; rw [List.length_set]; exact HS.out) (fun x hx => by
              rcases List.mem_append.1 (List.mem_of_mem_take hx) with h | h
              · exact HE.out.hR v x h
              · exact HE.out.hB v x h)
            have hfx : (FX R Bk f v x0 (k + i)).2.2.met.length = R.length := by
              have h1 := hbd.1.1
              rw [HX0.out] at h1
              have h2 : (s.met.set v (s.turn + 1)).length = R.length := by rw [List.length_set]; exact HS.out
              have h3 : ((row R v ++ row Bk v).take (k + i)).foldl (fal1 R Bk f v) x0 = FX R Bk f v x0 (k + i) := rfl
              rw [← h3, HX0.out]
              exact h1.trans h2
            have hoff : (FX R Bk f v x0 (k + i)).2.1 ≤ 2048 := by
              have h1 := hbd.2.1
              have h3 : x0.2.1 = 0 := by rw [HX0.out]
              have h4 : ((row R v ++ row Bk v).take (k + i)).length ≤ 2048 := by
                rw [List.length_take, List.length_append, ← HLR.out, ← HLB.out]; omega
              have h5 : ((row R v ++ row Bk v).take (k + i)).foldl (fal1 R Bk f v) x0 = FX R Bk f v x0 (k + i) := rfl
              rw [h5, h3] at h1
              omega
            have hzz : zc (FX R Bk f v x0 (k + i)).2.2.met ≤ f ∧ (FX R Bk f v x0 (k + i)).2.2.turn + zc (FX R Bk f v x0 (k + i)).2.2.met ≤ R.length ∧ (FX R Bk f v x0 (k + i)).2.2.joints.length + zc (FX R Bk f v x0 (k + i)).2.2.met ≤ R.length := by
              obtain ⟨⟨_, h1, h2, h3⟩, _⟩ := hbd
              have h4 : x0.2.2.turn = s.turn + 1 := by rw [HX0.out]
              have h5 : x0.2.2.joints = s.joints := by rw [HX0.out]
              have h6 : zc x0.2.2.met + 1 = zc s.met := by rw [HX0.out]; exact HC.out
              have h7 : ((row R v ++ row Bk v).take (k + i)).foldl (fal1 R Bk f v) x0 = FX R Bk f v x0 (k + i) := rfl
              rw [h7] at h1 h2 h3
              rw [h4] at h2
              rw [h5] at h3
              have := HF.out
              have := HT.out
              have := HJ.out
              omega
            have HZZ := Lib.hid hzz
            have HFX := Lib.hid hfx
            have HST := Lib.hid hst
            clear hbd hzz hfx hst hkl
            obtain ⟨u', hfj, hp⟩ := hmem
            have hbase := HBM.out.next (Nat.le_refl _) (by omega) hfj
            have f3 := hbase.up xq r3
            have d1 := hbase.up HE.out.nm HE.out.cm
            rw [← HN.out] at d1
            have mD : wr.cell? ⟨D, (row R v ++ row Bk v).getD (k + i) 0, none⟩ = some (.int .i64 ((nv (FX R Bk f v x0 (k + i)).2.2.met ((row R v ++ row Bk v).getD (k + i) 0) : Nat) : Int)) := by
              rw [blk_cell hfj.m, ic_get (by rw [ints_length, HFX.out, ← HN.out]; exact hto), ints_get]; rfl
            have d6 := hbase.up HE.out.nf HE.out.cf
            have HFJ := Lib.hid hfj
            have HPc := Lib.hid hp
            have HBase := Lib.hid hbase
            clear hfj hp hbase r3 xq
            generalize (row R v ++ row Bk v).getD (k + i) 0 = to at *
            by_cases hpos : 0 < nv (FX R Bk f v x0 (k + i)).2.2.met to
            · have hnx : FX R Bk f v x0 (k + i + 1) = (min (FX R Bk f v x0 (k + i)).1 (nv (FX R Bk f v x0 (k + i)).2.2.met to), (FX R Bk f v x0 (k + i)).2.1, (FX R Bk f v x0 (k + i)).2.2) := by
                rw [HST.out]; unfold fal1; rw [if_pos hpos]
              have HNX2 := Lib.hid hnx
              have HQ : Hid (FMem we pt D pj u (.slice P1 lR rc1) (.slice P2 lB rc2) (FX R Bk f v x0 (k + i + 1)) wr) := by
                show FMem _ _ _ _ _ _ _ _ _
                rw [hnx]; exact ⟨u', HFJ.out, HPc.out⟩
              clear hnx HST
              generalize FX R Bk f v x0 (k + i) = xs at *
              generalize nv xs.2.2.met to = tm at *
              generalize xs.1 = ea at *
              generalize xs.2.1 = ob at *
              go_wp2
              go_roundw
              case rel =>
                refine ⟨i + 1, by omega, by go_num, ?_, ?_, HQ.out⟩
                · rw [show FX R Bk f v x0 (k + (i + 1)) = _ from HNX2.out]
                  show _ = Value.int .i64 ((min ea tm : Nat) : Int)
                  congr 1
                  omega
                · rw [show FX R Bk f v x0 (k + (i + 1)) = _ from HNX2.out]
              case measure => simp [intOf]; omega
            · have htz : nv (FX R Bk f v x0 (k + i)).2.2.met to = 0 := by omega
              have mD0 : wr.cell? ⟨D, to, none⟩ = some (.int .i64 0) := by rw [mD, htz]; rfl
              have hcall := HI.out to false (FX R Bk f v x0 (k + i)).2.2 wr u' HZZ.out.1 HFX.out (by rw [← HN.out]; exact hto) htz HZZ.out.2.1 HZZ.out.2.2 HBase.out
              have hfb := fb R.length HE.out.hR HE.out.hB f to false (FX R Bk f v x0 (k + i)).2.2 HFX.out (by rw [← HN.out]; exact hto) htz
              have hul : ∀ j, u.ownBlock = some j → j < we.heap.size := fun j hj => HBM.out.r.lt hj
              have hwe := HFJ.out.k.size
              have hpl := blk_lt HPc.out
              have HCL : Hid (Calls Try.prog 37 #[.int .i64 (to : Int), .bool false, .pointer (some ⟨pt, 0, none⟩), .pointer (some ⟨pm, 0, none⟩), .pointer (some ⟨pg, 0, none⟩), .pointer (some ⟨pk, 0, none⟩), .pointer (some ⟨pf, 0, none⟩), .pointer (some ⟨pj, 0, none⟩)] wr
                  fun e w' => e = .returned (.int .i64 ((falF R Bk f to false (FX R Bk f v x0 (k + i)).2.2).1 : Int)) ∧ w'.cell? ⟨pm, 0, none⟩ = some (.slice (some ⟨D, 0, none⟩) n n) ∧
                    w'.cell? ⟨D, v, none⟩ = some (.int .i64 ((nv (falF R Bk f to false (FX R Bk f v x0 (k + i)).2.2).2.met v : Nat) : Int)) ∧ FMem we pt D pj u (.slice P1 lR rc1) (.slice P2 lB rc2) (0, 0, (falF R Bk f to false (FX R Bk f v x0 (k + i)).2.2).2) w') := by
                refine hcall.mono ?_
                rintro e w' ⟨rfl, u2, h2⟩
                have hb2 := HBase.out.next (Nat.le_refl _) (by omega) h2
                refine ⟨rfl, by rw [HN.out]; exact hb2.up HE.out.nm HE.out.cm, ?_, u2, HFJ.out.next (by omega) (by omega) h2, ?_⟩
                · rw [blk_cell h2.m, ic_get (by rw [ints_length, hfb.1, HFX.out, ← HN.out]; exact hv), ints_get]; rfl
                · refine (h2.k.block _ hpl ?_).trans HPc.out
                  rintro (e | e | e | e)
                  · omega
                  · omega
                  · omega
                  · rcases HFJ.out.o _ e with h1 | h1
                    · have := hul _ h1; omega
                    · omega
              clear hcall hfb hul hwe hpl mD htz
              have hnx : FX R Bk f v x0 (k + i + 1) = (min (FX R Bk f v x0 (k + i)).1 (falF R Bk f to false (FX R Bk f v x0 (k + i)).2.2).1, if nv (falF R Bk f to false (FX R Bk f v x0 (k + i)).2.2).2.met v ≤ (falF R Bk f to false (FX R Bk f v x0 (k + i)).2.2).1 then (FX R Bk f v x0 (k + i)).2.1 + 1 else (FX R Bk f v x0 (k + i)).2.1, (falF R Bk f to false (FX R Bk f v x0 (k + i)).2.2).2) := by
                rw [HST.out]; unfold fal1; rw [if_neg hpos]
              have HNX2 := Lib.hid hnx
              clear hnx HST HFX HZZ HFJ HBase HPc
              generalize falF R Bk f to false (FX R Bk f v x0 (k + i)).2.2 = st at *
              generalize hmv : nv st.2.met v = mv at *
              have HMV := Lib.hid hmv
              clear hmv
              generalize FX R Bk f v x0 (k + i) = xs at *
              generalize xs.1 = ea at *
              generalize xs.2.1 = ob at *
              clear hpos
              by_cases hle : mv ≤ st.1
              · rw [if_pos hle] at HNX2
                generalize hun : st.1 = un at *
                clear hun
                go_wp2_with fail
                refine HCL.out.mono ?_
                rintro e w' ⟨rfl, z1, z2, hq⟩
                have HQ := Lib.hid hq
                clear hq HCL
                go_wp2
                go_roundw
                case rel =>
                  refine ⟨i + 1, by omega, by go_num, ?_, ?_, ?_⟩
                  · rw [show FX R Bk f v x0 (k + (i + 1)) = _ from HNX2.out]
                    show _ = Value.int .i64 ((min ea un : Nat) : Int)
                    congr 1
                    omega
                  · rw [show FX R Bk f v x0 (k + (i + 1)) = _ from HNX2.out]
                    show _ = Value.int .i64 ((ob + 1 : Nat) : Int)
                    congr 1
                  · rw [show FX R Bk f v x0 (k + (i + 1)) = _ from HNX2.out]
                    exact HQ.out
                case measure => simp [intOf]; omega
              · rw [if_neg hle] at HNX2
                generalize hun : st.1 = un at *
                clear hun
                go_wp2_with fail
                refine HCL.out.mono ?_
                rintro e w' ⟨rfl, z1, z2, hq⟩
                have HQ := Lib.hid hq
                clear hq HCL
                have hlt3 : un < mv := by omega
                go_wp2
                go_roundw
                case rel =>
                  refine ⟨i + 1, by omega, by go_num, ?_, ?_, ?_⟩
                  · rw [show FX R Bk f v x0 (k + (i + 1)) = _ from HNX2.out]
                    show _ = Value.int .i64 ((min ea un : Nat) : Int)
                    congr 1
                    omega
                  · rw [show FX R Bk f v x0 (k + (i + 1)) = _ from HNX2.out]
                  · rw [show FX R Bk f v x0 (k + (i + 1)) = _ from HNX2.out]
                    exact HQ.out
                case measure => simp [intOf]; omega
          · obtain rfl : i = ln := by omega
            have HQ := Lib.hid hmem
            clear hmem
            go_wp2
            try rw [Exit.noGoto_normal]
            go_wp2
            go_roundw
            case rel => exact ⟨a + 1, k + i, by omega, HNX.out, by go_num, rfl, rfl, HQ.out⟩
            case measure => simp [intOf]; omega
      · obtain rfl : a = 2 := by omega
        have hk2 : k = lR + lB := hk
        have hfull : FX R Bk f v x0 k = (row R v ++ row Bk v).foldl (fal1 R Bk f v) x0 := by
          unfold FX
          rw [List.take_of_length_le (by rw [List.length_append, ← HLR.out, ← HLB.out]; omega)]
        have hres : falF R Bk (f + 1) v first s = falE (FX R Bk f v x0 k) v first := by rw [falF_succ, ← HX0.out, hfull]
        obtain ⟨u', hfj, hp⟩ := hmem
        have hpl := blk_lt hp
        have hbase := HBM.out.next (Nat.le_refl _) (by omega) hfj
        have hfr := hbase.fresh
        have hjl : (FX R Bk f v x0 k).2.2.joints.length ≤ 1024 := by
          have hbd := fb_list HE.out.hR HE.out.hB f v (row R v ++ row Bk v) x0 (by rw [HX0.out]; show (s.met.set v (s.turn + 1)).length = _; rw [List.length_set]; exact HS.out) (fun x hx => by
            rcases List.mem_append.1 hx with h | h
            · exact HE.out.hR v x h
            · exact HE.out.hB v x h)
          obtain ⟨⟨_, h1, h2, h3⟩, _⟩ := hbd
          have h5 : x0.2.2.joints = s.joints := by rw [HX0.out]
          have h6 : zc x0.2.2.met + 1 = zc s.met := by rw [HX0.out]; exact HC.out
          rw [← hfull] at h1 h3
          rw [h5] at h3
          have := HJ.out
          have := HE.out.n
          omega
        have cj : wr.cell? ⟨pj, 0, none⟩ = some u' := by rw [blk_cell hfj.j]; rfl
        have HO : Hid (World.ownsRow wr 0 3 1 u' (FX R Bk f v x0 k).2.2.joints.length (nis (FX R Bk f v x0 k).2.2.joints)) := hfj.r
        have HRES := Lib.hid hres
        have HNO : Hid (¬ (1 < (FX R Bk f v x0 k).2.1 ∨ ((FX R Bk f v x0 k).2.1 = 1 ∧ first = false)) → (∃ u2, FJ we pt D pj u we.heap.size (falF R Bk (f + 1) v first s).2 u2 wr)) := by
          intro hn
          rw [hres]
          unfold falE
          rw [if_neg hn]
          exact ⟨u', hfj.k, hfj.t, hfj.m, hfj.j, hfj.r, fun i hi => (hfj.o i hi).imp id (fun h => by omega)⟩
        have HYES : Hid ((1 < (FX R Bk f v x0 k).2.1 ∨ ((FX R Bk f v x0 k).2.1 = 1 ∧ first = false)) → ∀ g2 cap2 w2 o, w2.ownsRow 0 3 1 (.slice (some ⟨g2, 0, none⟩) ((FX R Bk f v x0 k).2.2.joints.length + 1) cap2) ((FX R Bk f v x0 k).2.2.joints.length + 1) (nis (FX R Bk f v x0 k).2.2.joints ++ [.int .i64 (v : Int)]) → (wr.alloc o).grownBy w2 u'.ownBlock → (u'.ownBlock = some g2 ∨ g2 = wr.heap.size + 1) →
            w2.cell? ⟨pj, 0, none⟩ = some u' ∧ w2.frozen? ⟨pj, 0, none⟩ = false ∧ ∃ u2, FJ we pt D pj u we.heap.size (falF R Bk (f + 1) v first s).2 u2 (w2.setCell ⟨pj, 0, none⟩ (.slice (some ⟨g2, 0, none⟩) ((FX R Bk f v x0 k).2.2.joints.length + 1) cap2))) := by
          intro hy g2 cap2 w2 o h1 h2 h3
          obtain ⟨e1, e2, e3⟩ := hfj.found (x := v) ⟨fun e => hne.2.1 e.symm, fun e => hne.2.2 e.symm⟩ ⟨by omega, by omega, by omega⟩ (fun i hi => by have := hfr i hi; omega) (by omega) (by omega) h1 h2 h3
          refine ⟨e1, e2, ?_⟩
          rw [hres]
          unfold falE
          rw [if_pos hy]
          exact ⟨_, e3.k, e3.t, e3.m, e3.j, e3.r, fun i hi => (e3.o i hi).imp id (fun h => by omega)⟩
        have hnew := World.news_of_block (heap_alloc_new wr (.cells #[.int .i64 (v : Int)] 3))
        have HNEW : Hid (∀ j x, [Value.int .i64 (v : Int)][j]? = some x → (wr.alloc (.cells #[.int .i64 (v : Int)] 3)).cell? ((⟨wr.heap.size, 0, none⟩ : Addr).add j) = some x) := by
          show ∀ j x, _
          simpa using hnew
        have HV1 : Hid ((falF R Bk (f + 1) v first s).1 = (FX R Bk f v x0 k).1) := by show _ = _; rw [hres]; rfl
        clear hres hfull hk2 hk hfj hp hpl hbase hfr hnew HPT HX0 HX1 HX2 HRES
        generalize (FX R Bk f v x0 k).2.2.joints.length = r at *
        generalize nis (FX R Bk f v x0 k).2.2.joints = xs at *
        generalize (FX R Bk f v x0 k).1 = ea at *
        generalize (FX R Bk f v x0 k).2.1 = ob at *
        by_cases h1 : 1 < ob
        · have HY := Lib.hid (HYES.out (.inl h1))
          clear HNO HYES
          go_wp2_with (at_builtin; refine wpList_append_lies _ rfl (.tmp 88) (.tmp 90) 34 rfl 0 3 i0 (.int .i64 0) 1 8 Try.underlying34 hi hz0 hz1 hz2 rfl (by decide) u' r xs rfl (HO.out.alloc _) ⟨wr.heap.size, 0, none⟩ 1 1 [.int .i64 (v : Int)] rfl rfl HNEW.out (by intro u hu; simp at hu; subst hu; rfl) (by decide) (by unfold maxLen; omega) (by omega) (Nat.zero_le _) (wr.heap.size + 1) (by simp) ?_; intro g2 cap2 w2 ho2 hg2 hat2 hlt3; obtain ⟨hq1, hq2, hq3⟩ := HY.out _ _ _ _ ho2 hg2 hat2; have HQ3 := Lib.hid hq3; clear hq3 ho2 hg2 hat2 hlt3 HY)
          go_ret
          exact ⟨(congrArg (fun x : Nat => Ending.returned (.int .i64 (x : Int))) HV1.out).symm, HQ3.out⟩
        · by_cases h2 : ob = 1
          · subst h2
            cases first with
            | false =>
              have HY := Lib.hid (HYES.out (.inr ⟨rfl, rfl⟩))
              clear HNO HYES h1
              go_wp2_with (at_builtin; refine wpList_append_lies _ rfl (.tmp 88) (.tmp 90) 34 rfl 0 3 i0 (.int .i64 0) 1 8 Try.underlying34 hi hz0 hz1 hz2 rfl (by decide) u' r xs rfl (HO.out.alloc _) ⟨wr.heap.size, 0, none⟩ 1 1 [.int .i64 (v : Int)] rfl rfl HNEW.out (by intro u hu; simp at hu; subst hu; rfl) (by decide) (by unfold maxLen; omega) (by omega) (Nat.zero_le _) (wr.heap.size + 1) (by simp) ?_; intro g2 cap2 w2 ho2 hg2 hat2 hlt3; obtain ⟨hq1, hq2, hq3⟩ := HY.out _ _ _ _ ho2 hg2 hat2; have HQ3 := Lib.hid hq3; clear hq3 ho2 hg2 hat2 hlt3 HY)
              go_ret
              exact ⟨(congrArg (fun x : Nat => Ending.returned (.int .i64 (x : Int))) HV1.out).symm, HQ3.out⟩
            | true =>
              have HY := Lib.hid (HNO.out (by simp))
              clear HNO HYES h1
              go_wp2
              go_ret
              exact ⟨(congrArg (fun x : Nat => Ending.returned (.int .i64 (x : Int))) HV1.out).symm, HY.out⟩
          · have h0 : ob = 0 := by omega
            subst h0
            have HY := Lib.hid (HNO.out (by simp))
            clear HNO HYES h1 h2
            go_wp2
            go_ret
            exact ⟨(congrArg (fun x : Nat => Ending.returned (.int .i64 (x : Int))) HV1.out).symm, HY.out⟩
end Go.Proofs.Ytlcadkhhpnaofaa
