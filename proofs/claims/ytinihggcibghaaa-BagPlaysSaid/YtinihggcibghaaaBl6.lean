/-
  The document's bag: Spoil of a packet that may be spoilt.
-/
import Derived.Test.YtinihggcibghaaaBl5
import Derived.OwnWalk
namespace Go.Proofs.Ytinihggcibghaaa
set_option maxRecDepth 100000
set_option linter.unusedSimpArgs false
open Go Go.RowKit Bg
attribute [local go_sem] Oper.semAt_some

set_option maxHeartbeats 4000000 in
theorem rspoil_can {w : World} {S : Nat → Prop} {o k i : Nat} {b : St} (h : BagAt 32 w S o b) (hb : Bd k b) (hk : k ≤ 900000) (n a : Int) {v : Nat} (hv : v < 256) (hn : idx b.l n = some i) (hc : canS (b.l.getD i noFl) a v = true) :
    Calls Try.prog 38 #[.pointer (some ⟨o, 0, none⟩), .int .i64 n, .int .i64 a, .int .u8 (v : Nat)] w fun e w' => e = .returned (.int .i64 0) ∧ StepTo 32 w S o { b with l := b.l.set i (spoilt (b.l.getD i noFl) a.toNat v), c := { b.c with spt := b.c.spt + 1 } } w' := by
  have hl := hb.len
  have hd := hb.spt
  have HP := Lib.hid (rfind_any h hl n)
  have hi := (idx_some hn).1
  have e3 : rfV b n = (i : Int) := by rw [rfV, hn]
  rw [e3] at HP
  unfold canS at hc
  simp only [Bool.and_eq_true, Bool.not_eq_true', decide_eq_true_eq] at hc
  obtain ⟨⟨⟨hs, ha0⟩, ha1⟩, hv0⟩ := hc
  obtain ⟨at_, rfl⟩ := Int.eq_ofNat_of_zero_le ha0
  have hat1 : at_ < (b.l.getD i noFl).d.length := by omega
  have hdat := hb.at_ hi
  obtain ⟨P, hP⟩ : ∃ P : Ending → World → Prop, P = fun e w' => e = .returned (.int .i64 0) ∧ StepTo 32 w S o { b with l := b.l.set i (spoilt (b.l.getD i noFl) ((at_ : Nat) : Int).toNat v), c := { b.c with spt := b.c.spt + 1 } } w' := ⟨_, rfl⟩
  obtain ⟨⟨vv, E, hE, ho, hw⟩, hso, hlt⟩ := h
  have hlen : E.length = b.l.length := by rw [← hE]; simp
  have hiE : i < E.length := by omega
  obtain ⟨A0, cap0, rfl, hc1, hc2, hA0⟩ := hw.form
  obtain ⟨g, rfl⟩ := hA0 (by omega)
  obtain ⟨a1, a2, a3, a4⟩ := hw.ent hiE
  obtain ⟨x0, x1, x2, x3, x4⟩ := hw.cells hiE
  have hx := entD hE i
  have hol := blk_lt ho
  have hgS := hw.vo g rfl
  have hgl := hlt g hgS.1
  have hgf := hw.row.frozenAt (i * 5 + 3)
  have hgf4 := hw.row.frozenAt (i * 5 + 4)
  obtain ⟨⟨o0, _, _, _, _, _, o6, _⟩, of⟩ := eight ho
  have of6 := of 6
  clear of
  have HEND : Hid (∀ (w2 : World) (gd cap2 : Nat) (y u : Int), Below w.heap.size w w2 → w2.ownsRow w.heap.size 5 1 (.slice (some ⟨gd, 0, none⟩) (b.l.getD i noFl).d.length cap2) (b.l.getD i noFl).d.length ((b.l.getD i noFl).d.map byV) → y = (((b.l.getD i noFl).d.getD at_ 0 ^^^ v : Nat) : Int) → u = (b.c.spt : Int) + 1 →
      P (.returned (.int .i64 0)) ((((w2.setCell ⟨gd, at_, none⟩ (.int .u8 y)).setCell ⟨g, i * 5 + 3, none⟩ (.slice (some ⟨gd, 0, none⟩) (b.l.getD i noFl).d.length cap2)).setCell ⟨g, i * 5 + 4, none⟩ (.bool true)).setCell ⟨o, 6, none⟩ (.int .i64 u))) := by
    intro w2 gd cap2 y u hB hr hy hu
    rw [hP]
    refine ⟨rfl, ?_⟩
    have hgd := hr.lt gd rfl
    have hr2 := (hr.stored at_ (.int .u8 y)).1
    have h5 : ((b.l.getD i noFl).d.map byV).set at_ (.int .u8 y) = (spoilt (b.l.getD i noFl) at_ v).d.map byV := by
      rw [hy]; simp [spoilt, List.map_set, byV]
    have h6 : (spoilt (b.l.getD i noFl) at_ v).d.length = (b.l.getD i noFl).d.length := by simp [spoilt]
    rw [h5, ← h6] at hr2
    obtain ⟨e', he'⟩ : ∃ e' : Ent, e' = (spoilt (b.l.getD i noFl) at_ v, some ⟨gd, 0, none⟩, cap2) := ⟨_, rfl⟩
    have hve : Ent.v e' = .slice (some ⟨gd, 0, none⟩) (b.l.getD i noFl).d.length cap2 := by rw [he']; unfold Ent.v; rw [h6]
    have kd : Kept (fun k => k = gd) w2 (w2.setCell ⟨gd, at_, none⟩ (.int .u8 y)) := (Kept.refl (fun k => k = gd) w2).setCell (p := ⟨gd, at_, none⟩) (.inl rfl) _
    have hw2 : Own w2 S o (.slice (some ⟨g, 0, none⟩) E.length cap0) E := hw.kept (Kept.of_below (X := fun _ => False) hB (Nat.le_refl _)) (fun _ _ => id)
    have hw3 := hw2.kept kd (fun k hk e => by have := hlt k hk; omega)
    have hset := hw3.setd (e' := e') hiE hlt hol (by rw [he']; unfold Ent.v; exact hr2) (by rw [hx, he']; rfl) (by rw [hx, he']; rfl) (by rw [hx, he']; rfl)
    rw [hve] at hset
    have hes : e'.1.s = true := by rw [he']; rfl
    rw [hes] at hset
    have k1 : Kept S w ((((w2.setCell ⟨gd, at_, none⟩ (.int .u8 y)).setCell ⟨g, i * 5 + 3, none⟩ (.slice (some ⟨gd, 0, none⟩) (b.l.getD i noFl).d.length cap2)).setCell ⟨g, i * 5 + 4, none⟩ (.bool true)).setCell ⟨o, 6, none⟩ (.int .i64 u)) := by
      have q0 : Kept S w w2 := Kept.of_below hB (Nat.le_refl _)
      have q1 : Kept S w (w2.setCell ⟨gd, at_, none⟩ (.int .u8 y)) := q0.trans kd (fun k hk e => by omega)
      exact ((q1.setCell (p := ⟨g, i * 5 + 3, none⟩) (.inl hgS.1) _).setCell (p := ⟨g, i * 5 + 4, none⟩) (.inl hgS.1) _).setCell (p := ⟨o, 6, none⟩) (.inl hso) _
    have hsz : w.heap.size ≤ w2.heap.size := hB.size
    refine ⟨k1, fun k => S k ∨ w.heap.size ≤ k ∧ k < w2.heap.size, ⟨⟨.slice (some ⟨g, 0, none⟩) E.length cap0, E.set i e', ?_, ?_, ?_⟩, .inl hso, ?_⟩, fun k h => .inl h, fun k h => h.imp id (fun h => h.1)⟩
    · rw [List.map_set, hE, he']; rfl
    · have ho2 : w2.heap[o]? = _ := (hB.block o hol).trans ho
      rw [blk_set (cur := objC (.slice (some ⟨g, 0, none⟩) E.length cap0) b) (e := 32) (m := (0, 0))]
      · rw [hu]; simp
      · rw [Below.heap_setCell _ _ _ _ (by simpa using fun e => hgS.2 e.symm), Below.heap_setCell _ _ _ _ (by simpa using fun e => hgS.2 e.symm), Below.heap_setCell _ _ _ _ (by simp; omega)]
        exact ho2
    · refine Own.obj ?_ (setO _ o 6 _)
      refine hset.more (fun k hk => ?_)
      simpa using hk
    · rintro k (h | h)
      · have := hlt k h
        simp; omega
      · simp; omega
  unfold Ent.v at x3
  rw [hx] at x3 x4 a1 a4
  have HBY := Lib.hid a1
  have HNA := Lib.hid a4
  have HDB : Hid ((b.l.getD i noFl).d.getD at_ 0 < 256) := by
    rw [Hid, List.getD_eq_getElem?_getD, List.getElem?_eq_getElem hat1]; exact hdat.2 _ (List.getElem_mem hat1)
  have hd60 := hdat.1
  rw [← hP]
  have hN256 : E.length ≤ 256 := by omega
  clear hP hw hE ho hA0 x0 x1 x2 hx hdat hn e3 hlt hso a1 a2 a3 a4 hlen hi hl
  generalize (E.getD i noE).2.1 = A1 at *
  generalize (E.getD i noE).2.2 = cap1 at *
  generalize b.l.getD i noFl = x at *
  obtain ⟨n1, f1, t1, d1, s1⟩ := x
  simp only at *
  subst hs
  generalize E.length = N at *
  generalize b.c.spt = L at *
  have i0 : (0 : Int) ≤ (i : Int) := by omega
  have i1 : (i : Int) < (N : Int) := by omega
  have i2 : ¬ (i : Int) < 0 := by omega
  have dv : ((v : Int) == 0) = false := by
    have : ¬ (v : Int) = 0 := by
      intro e
      have : v = 0 := by omega
      rw [this] at hv0
      simp at hv0
    simpa using this
  clear hv0
  obtain ⟨DL, hDL⟩ : ∃ DL, DL = d1.length := ⟨_, rfl⟩
  have HDL := Lib.hid hDL
  rw [← hDL] at x3 ha1 hat1 HEND hd60
  clear hDL
  have j0 : ¬ (at_ : Int) < 0 := by omega
  have j1 : ¬ (DL : Int) ≤ (at_ : Int) := by omega
  go_enter Try.func38, Try.ntmps38
  go_wp2_with fail
  refine HP.out.mono ?_
  rintro e w1 ⟨rfl, rfl⟩
  clear HP
  go_wp2_with (at_builtin; go_loud (refine wpList_append_bytes rfl (.tmp 47) (.tmp 55) rfl w.heap.size (n := 0) (L := []) rfl (World.ownsRow_nil _ _ _ _) (m := DL) (news := d1) rfl HBY.out HDL.out HNA.out (by omega) (Nat.le_refl _) ?_))
  intro v2 w2 hr hg
  obtain ⟨gd, cap2, rfl⟩ : ∃ gd cap2, v2 = .slice (some ⟨gd, 0, none⟩) DL cap2 := by
    rcases hr.2 with ⟨rfl, h0⟩ | ⟨g3, cap3, cur3, rfl, _⟩
    · omega
    · exact ⟨_, _, rfl⟩
  have kw2 : Kept (fun _ => False) w w2 := (Kept.refl (fun _ => False) w).grown hg (fun k e => by cases e)
  have hgd := (hr.lt gd rfl).1
  have y1 : w2.cell? ⟨gd, at_, none⟩ = some (.int .u8 ((d1.getD at_ 0 : Nat) : Int)) := by
    have hdl := HDL.out
    rw [hr.cellAt at_ (by simp; omega), List.getElem?_map, List.getElem?_eq_getElem (by omega), List.getD_eq_getElem?_getD, List.getElem?_eq_getElem (by omega)]; rfl
  have y2 := hr.frozenAt at_
  have p0 := kw2.cell o0 id
  have p3 := kw2.cell x3 id
  have p4 := kw2.cell x4 id
  have p6 := kw2.cell o6 id
  have q3 : w2.frozen? ⟨g, i * 5 + 3, none⟩ = false := by rw [kw2.frozen (p := ⟨g, i * 5 + 3, none⟩) hgl id]; exact hgf
  have q4 : w2.frozen? ⟨g, i * 5 + 4, none⟩ = false := by rw [kw2.frozen (p := ⟨g, i * 5 + 4, none⟩) hgl id]; exact hgf4
  have q6 : w2.frozen? ⟨o, 6, none⟩ = false := by rw [kw2.frozen (p := ⟨o, 6, none⟩) hol id]; exact of6
  have HE := Lib.hid (HEND.out w2 gd cap2)
  have HR := Lib.hid hr
  have hbw : Below w.heap.size w w2 := kw2.below (fun _ h => h.elim) (Nat.le_refl _)
  have HB := Lib.hid hbw
  clear hbw
  have n1' : gd ≠ g := by omega
  have n2' : gd ≠ o := by omega
  have n3' : g ≠ o := hgS.2
  have hz := HDB.out
  have hxor := u8_xor_nat (d1.getD at_ 0) v hz hv
  clear HEND hr hg kw2 hgd o0 x3 x4 o6 of6 hgf hgf4 hgS hgl hol HDB
  generalize d1.getD at_ 0 = z at *
  go_wp2
  exact HE.out _ _ HB.out HR.out rfl rfl

theorem rspoil_any {w : World} {S : Nat → Prop} {o k : Nat} {b : St} (h : BagAt 32 w S o b) (hb : Bd k b) (hk : k ≤ 900000) (n a : Int) {v : Nat} (hv : v < 256) :
    Calls Try.prog 38 #[.pointer (some ⟨o, 0, none⟩), .int .i64 n, .int .i64 a, .int .u8 (v : Nat)] w fun e w' => e = .returned (.int .i64 (spoilV b n a v)) ∧ StepTo 32 w S o (spoilS b n a v) w' := by
  have no : spoilV b n a v = 80 → spoilS b n a v = b → Calls Try.prog 38 #[.pointer (some ⟨o, 0, none⟩), .int .i64 n, .int .i64 a, .int .u8 (v : Nat)] w fun e w' => e = .returned (.int .i64 (spoilV b n a v)) ∧ StepTo 32 w S o (spoilS b n a v) w' := fun h1 h2 => by
    refine (rspoil_no h hb n a hv h1).mono ?_
    rintro e w' ⟨rfl, rfl⟩
    rw [h1, h2]
    exact ⟨rfl, StepTo.still h (Below.refl _ _)⟩
  cases hn : idx b.l n with
  | none => exact no (by rw [spoilV, hn]) (by rw [spoilS, hn])
  | some i =>
    cases hc : canS (b.l.getD i noFl) a v with
    | false => exact no (by simp only [spoilV, hn]; rw [hc]; rfl) (by simp only [spoilS, hn]; rw [hc]; rfl)
    | true =>
      refine (rspoil_can h hb hk n a hv hn hc).mono ?_
      rintro e w' ⟨rfl, h2⟩
      have e1 : spoilV b n a v = 0 := by simp only [spoilV, hn]; rw [hc]; rfl
      have e2 : spoilS b n a v = { b with l := b.l.set i (spoilt (b.l.getD i noFl) a.toNat v), c := { b.c with spt := b.c.spt + 1 } } := by simp only [spoilS, hn]; rw [hc]; rfl
      rw [e1, e2]
      exact ⟨rfl, h2⟩
end Go.Proofs.Ytinihggcibghaaa
