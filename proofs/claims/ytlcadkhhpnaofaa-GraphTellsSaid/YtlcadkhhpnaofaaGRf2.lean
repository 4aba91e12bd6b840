/-
  The document's Dist: its walk.
-/
import Derived.Test.YtlcadkhhpnaofaaGRf1
import Derived.Test.YtlcadkhhpnaofaaGSt0
namespace Go.Proofs.Ytlcadkhhpnaofaa
set_option maxRecDepth 100000
open Go Go.RowKit Gq

theorem ic_made (n : Nat) : madeCells #[.int .i64 0] n = ic (List.replicate n 0) := by
  apply Array.toList_inj.1
  rw [toList_madeCells_one]
  simp [ic]

/-- What a step is. -/
def RelR (E : Nat → Nat → Bool) (loose : Bool) (wo : Int) (b c : Nat) : Prop := (E b c = true ∨ (loose = true ∧ E c b = true)) ∧ (c : Int) ≠ wo

/-- The list that is told, in a block of its own. -/
structure DI (w : World) (g : Nat) (D : List Int) (wr : World) : Prop where
  blk : wr.heap[g]? = some (.cells (ic D) 3 (0, 0))
  be : Below w.heap.size w wr
  lo : w.heap.size ≤ g
theorem DI.set {w wr : World} {g : Nat} {D : List Int} (h : DI w g D wr) (i : Nat) (x : Int) : DI w g (D.set i x) (wr.setCell ⟨g, i, none⟩ (.int .i64 x)) := by
  refine ⟨?_, h.be.trans (((Kept.refl (fun k => k = g) wr).setCell (p := ⟨g, i, none⟩) (.inl rfl) _).below (by rintro k rfl; exact h.lo) h.be.size), h.lo⟩
  have := heap_setCell_same wr g i _ 3 (.int .i64 x) h.blk
  rw [ic_set] at this
  exact this

def DistR (w : World) (E : Nat → Nat → Bool) (n a : Nat) (loose : Bool) (wo : Int) (e : Ending) (w' : World) : Prop :=
  ∃ g D, e = .returned (.slice (some ⟨g, 0, none⟩) n n) ∧ DI w g D w' ∧ FarA (RelR E loose wo) n a D

set_option maxHeartbeats 4000000 in
theorem rDist_any {w : World} {r n : Nat} {E : Nat → Nat → Bool} {Z : Nat → Prop} (h : RAt w r n E Z) (hn : n ≤ 1024) {a : Nat} (ha : a < n) (loose : Bool) (wo : Int) :
    Calls Try.prog 14 #[.pointer (some ⟨r, 0, none⟩), .int .i64 (a : Int), .bool loose, .int .i64 wo] w (DistR w E n a loose wo) := by
  have hmk := makeInts_run n (by omega)
  have HN := Lib.hid (node_any h hn (a : Int))
  have e1 : isNode n (a : Int) = true := by simp [isNode, ha]
  rw [e1] at HN
  have H := Lib.hid h
  obtain ⟨A0, cap0, hc0⟩ := h.form
  have HD0 : Hid (DI w w.heap.size (List.replicate n 0) (w.alloc (.cells (madeCells #[.int .i64 0] n) 3))) := by
    refine ⟨?_, (Below.refl _ w).alloc (Nat.le_refl _) _, Nat.le_refl _⟩
    rw [← ic_made]; exact heap_alloc_new w _
  clear h e1
  go_enter Try.func14, Try.ntmps14
  go_wp2_with (with_reducible refine HN.out.mono ?_; rintro e w' ⟨rfl, hw⟩; obtain rfl := hw.symm; clear hw)
  clear hmk hc0
  obtain ⟨g, hg⟩ : ∃ g, g = w.heap.size := ⟨_, rfl⟩
  rw [← hg] at HD0 ⊢
  clear hg
  generalize w.alloc (.cells (madeCells #[.int .i64 0] n) 3) = w0 at *
  go_loopw [11] (fun u wr => ∃ (i : Nat) (D : List Int), i ≤ n ∧ u = .int .i64 (i : Int) ∧ DI w g D wr ∧ D.length = n ∧ ∀ j, j < i → dg D j = -1) (fun u _ => n - (intOf u).toNat)
  case atStart => exact ⟨0, _, Nat.zero_le _, rfl, HD0.out, by simp, fun j hj => by omega⟩
  case round =>
    obtain ⟨i, D, hi, rfl, hd, hl, hD⟩ := hrel
    clear HD0
    have HD := Lib.hid hd
    have HL := Lib.hid hl
    have HM := Lib.hid hD
    clear hd hl hD
    by_cases hlt : i < n
    · have i0 : (0 : Int) ≤ (i : Int) := by omega
      have i1 : (i : Int) < (n : Int) := by omega
      have fc := ic_cell HD.out.blk (i := i) (by rw [HL.out]; exact hlt)
      have fz := blk_free HD.out.blk i
      have HQ : Hid (DI w g (D.set i (-1)) (wr.setCell ⟨g, i, none⟩ (.int .i64 (-1))) ∧ (D.set i (-1)).length = n ∧ ∀ j, j < i + 1 → dg (D.set i (-1)) j = -1) := by
        refine ⟨HD.out.set i (-1), by simpa using HL.out, fun j hj => ?_⟩
        rw [dg_set (by rw [HL.out]; exact hlt)]
        split
        · rfl
        · exact HM.out j (by omega)
      generalize dg D i = y at *
      go_wp2
      go_roundw
      case rel => exact ⟨i + 1, _, by omega, by go_num, HQ.out.1, HQ.out.2.1, HQ.out.2.2⟩
      case measure => simp [intOf]; omega
    · obtain rfl : i = n := by omega
      obtain rfl : D = List.replicate i (-1) := by
        refine dg_ext (by rw [HL.out]; simp) fun j hj => ?_
        rw [HL.out] at hj
        rw [HM.out j hj]
        unfold dg
        simp [List.getD, hj]
      have fc := ic_cell HD.out.blk (i := a) (by rw [HL.out]; exact ha)
      have fz := blk_free HD.out.blk a
      have HQ : Hid (DI w g ((List.replicate i (-1)).set a 0) (wr.setCell ⟨g, a, none⟩ (.int .i64 0))) := HD.out.set a 0
      have i0 : (0 : Int) ≤ (a : Int) := by omega
      have i1 : (a : Int) < (i : Int) := by omega
      generalize dg (List.replicate i (-1)) a = y at *
      clear HD HL HM
      go_wp2
      generalize wr.setCell ⟨g, a, none⟩ (.int .i64 0) = w1 at *
      clear fc fz
      go_loopw [12] (fun u wr => ∃ (far : Nat) (D : List Int), u = .int .i64 (far : Int) ∧ DI w g D wr ∧ LvA (RelR E loose wo) i a far 0 0 false D) (fun u _ => i - (intOf u).toNat)
      case atStart => exact ⟨0, _, rfl, HQ.out, lv_start ha⟩
      case round =>
        obtain ⟨far, D, rfl, hd, hv⟩ := hrel
        clear HQ
        have hfar := hv.lt
        have HD := Lib.hid hd
        have HV := Lib.hid hv
        clear hd hv
        go_wp2
        go_loopw [13, 14] (fun tm u wr => ∃ (b : Nat) (more : Bool) (D : List Int), b ≤ i ∧ u = .int .i64 (b : Int) ∧ tm = .bool more ∧ DI w g D wr ∧ LvA (RelR E loose wo) i a far b 0 more D) (fun _ u _ => i - (intOf u).toNat)
        case atStart => exact ⟨0, false, _, Nat.zero_le _, rfl, rfl, HD.out, HV.out⟩
        case round =>
          obtain ⟨b, more, D, hb, rfl, rfl, hd, hv⟩ := hrel
          clear HD HV
          have HD := Lib.hid hd
          have HV := Lib.hid hv
          clear hd hv
          by_cases hbl : b < i
          · have b0 : (0 : Int) ≤ (b : Int) := by omega
            have b1 : (b : Int) < (i : Int) := by omega
            have fc := ic_cell HD.out.blk (i := b) (by rw [HV.out.len]; exact hbl)
            obtain ⟨y, hy⟩ : ∃ y, y = dg D b := ⟨_, rfl⟩
            rw [← hy] at fc
            by_cases hyf : y = (far : Int)
            · have HB : Hid (dg D b = (far : Int)) := by show _ = _; rw [← hy, hyf]
              have d1 : (y != (far : Int)) = false := by simpa using hyf
              have d2 : (y == (far : Int)) = true := by simpa using hyf
              have d3 : decide (y = (far : Int)) = true := decide_eq_true hyf
              rw [hyf] at fc
              clear hy hyf d1 d2 d3
              go_wp2
              go_loopw [13, 15] (fun tm u wr => ∃ (c : Nat) (more : Bool) (D : List Int), c ≤ i ∧ u = .int .i64 (c : Int) ∧ tm = .bool more ∧ DI w g D wr ∧ LvA (RelR E loose wo) i a far b c more D ∧ dg D b = (far : Int)) (fun _ u _ => i - (intOf u).toNat)
              case atStart => exact ⟨0, more, _, Nat.zero_le _, rfl, rfl, HD.out, HV.out, HB.out⟩
              case round =>
                obtain ⟨c, more, D, hc, rfl, rfl, hd, hv, hdb⟩ := hrel
                clear HD HV HB fc
                have HD := Lib.hid hd
                have HV := Lib.hid hv
                have HB := Lib.hid hdb
                clear hd hv hdb
                by_cases hcl : c < i
                · have c0 : (0 : Int) ≤ (c : Int) := by omega
                  have c1 : (c : Int) < (i : Int) := by omega
                  have fc := ic_cell HD.out.blk (i := c) (by rw [HV.out.len]; exact hcl)
                  have fz := blk_free HD.out.blk c
                  have HR := Lib.hid (H.out.below HD.out.be)
                  obtain ⟨g1, cap1, p1, f1, f2, _, f3⟩ := HR.out.read hbl
                  obtain ⟨g2, cap2, p2, f4, f5, _, f6⟩ := HR.out.read hcl
                  obtain ⟨rfl, rfl⟩ : g1 = g2 ∧ cap1 = cap2 := by
                    rw [f1] at f4
                    simp only [Option.some.injEq, Value.slice.injEq, Addr.mk.injEq] at f4
                    exact ⟨f4.1.1, f4.2.2⟩
                  have f7 := f3 c hcl
                  have f8 := f6 b hbl
                  obtain ⟨y, hy⟩ : ∃ y, y = dg D c := ⟨_, rfl⟩
                  rw [← hy] at fc
                  have HSk : Hid (0 ≤ y ∨ ¬ RelR E loose wo b c → LvA (RelR E loose wo) i a far b (c + 1) more D) := fun h => HV.out.skipC HB.out (by rw [← hy]; exact h)
                  have HPu : Hid (y < 0 → RelR E loose wo b c → DI w g (D.set c ((far : Int) + 1)) (wr.setCell ⟨g, c, none⟩ (.int .i64 ((far : Int) + 1))) ∧ LvA (RelR E loose wo) i a far b (c + 1) true (D.set c ((far : Int) + 1)) ∧ dg (D.set c ((far : Int) + 1)) b = (far : Int)) := fun h1 h2 => by
                    refine ⟨HD.out.set c _, HV.out.put hbl hcl HB.out (by rw [← hy]; exact h1) h2, ?_⟩
                    rw [dg_set (by rw [HV.out.len]; exact hcl), if_neg (fun e => by rw [← e, HB.out] at hy; omega)]
                    exact HB.out
                  clear f3 f4 f6 HR hy HV
                  by_cases hy0 : y < 0
                  · have d1 : decide (y < 0) = true := decide_eq_true hy0
                    by_cases hwo : (c : Int) = wo
                    · have d2 : ((c : Int) != wo) = false := by simpa using hwo
                      have d3 : ((c : Int) == wo) = true := by simpa using hwo
                      have d4 : decide ((c : Int) = wo) = true := decide_eq_true hwo
                      have HQ := Lib.hid (HSk.out (.inr (fun h => h.2 hwo)))
                      clear HSk HPu hwo
                      go_wp2
                      go_roundw
                      case rel => exact ⟨c + 1, more, D, by omega, by go_num, rfl, HD.out, HQ.out, HB.out⟩
                      case measure => simp [intOf]; omega
                    · have d2 : ((c : Int) != wo) = true := by simpa using hwo
                      have d3 : ((c : Int) == wo) = false := by simpa using hwo
                      have d4 : decide ((c : Int) = wo) = false := decide_eq_false hwo
                      have hwx : IntKind.i64.wrap ((far : Int) + 1) = (far : Int) + 1 := IntWalk.i64_in _ (by omega)
                      cases hE : E b c with
                      | true =>
                        rw [hE] at f7
                        have HQ := Lib.hid (HPu.out hy0 ⟨.inl hE, hwo⟩)
                        clear HSk HPu hE hwo
                        go_wp2
                        go_roundw
                        case rel => exact ⟨c + 1, true, _, by omega, by go_num, rfl, HQ.out.1, HQ.out.2.1, HQ.out.2.2⟩
                        case measure => simp [intOf]; omega
                      | false =>
                        rw [hE] at f7
                        cases loose with
                        | false =>
                          have HQ := Lib.hid (HSk.out (.inr (fun h => by have := h.1; simp [hE] at this)))
                          clear HSk HPu hE hwo
                          go_wp2
                          go_roundw
                          case rel => exact ⟨c + 1, more, D, by omega, by go_num, rfl, HD.out, HQ.out, HB.out⟩
                          case measure => simp [intOf]; omega
                        | true =>
                          cases hF : E c b with
                          | true =>
                            rw [hF] at f8
                            have HQ := Lib.hid (HPu.out hy0 ⟨.inr ⟨rfl, hF⟩, hwo⟩)
                            clear HSk HPu hE hF hwo
                            go_wp2
                            go_roundw
                            case rel => exact ⟨c + 1, true, _, by omega, by go_num, rfl, HQ.out.1, HQ.out.2.1, HQ.out.2.2⟩
                            case measure => simp [intOf]; omega
                          | false =>
                            rw [hF] at f8
                            have HQ := Lib.hid (HSk.out (.inr (fun h => by have := h.1; simp [hE, hF] at this)))
                            clear HSk HPu hE hF hwo
                            go_wp2
                            go_roundw
                            case rel => exact ⟨c + 1, more, D, by omega, by go_num, rfl, HD.out, HQ.out, HB.out⟩
                            case measure => simp [intOf]; omega
                  · have d1 : decide (y < 0) = false := decide_eq_false hy0
                    have HQ := Lib.hid (HSk.out (.inl (by omega)))
                    clear HSk HPu f7 f8
                    go_wp2
                    go_roundw
                    case rel => exact ⟨c + 1, more, D, by omega, by go_num, rfl, HD.out, HQ.out, HB.out⟩
                    case measure => simp [intOf]; omega
                · obtain rfl : c = i := by omega
                  have HQ := Lib.hid HV.out.endB
                  clear HV
                  go_wp2
                  go_roundw
                  case rel => exact ⟨b + 1, more, D, by omega, by go_num, rfl, HD.out, HQ.out⟩
                  case measure => simp [intOf]; omega
            · have HQ := Lib.hid (HV.out.skipB (by rw [← hy]; exact hyf))
              have d1 : (y != (far : Int)) = true := by simpa using hyf
              have d2 : (y == (far : Int)) = false := by simpa using hyf
              have d3 : decide (y = (far : Int)) = false := decide_eq_false hyf
              clear HV hy hyf
              go_wp2
              go_roundw
              case rel => exact ⟨b + 1, more, D, by omega, by go_num, rfl, HD.out, HQ.out⟩
              case measure => simp [intOf]; omega
          · obtain rfl : b = i := by omega
            cases more with
            | true =>
              have HQ := Lib.hid HV.out.next
              clear HV
              go_wp2
              go_roundw
              case rel => exact ⟨far + 1, D, by go_num, HD.out, HQ.out⟩
              case measure => simp [intOf]; omega
            | false =>
              have HQ : Hid (DistR w E b a loose wo (.returned (.slice (some ⟨g, 0, none⟩) b b)) wr) := ⟨g, D, rfl, HD.out, HV.out.done⟩
              clear HV HD
              go_wp2
              go_ret
              exact HQ.out
end Go.Proofs.Ytlcadkhhpnaofaa
