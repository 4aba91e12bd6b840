/-
  PROVED HERE: the law PileNames answers true: the chapter's pile tells and leaves what its examples say, Least below 1 and of an empty pile tells nothing, and calls on no pile answer nothing.
  Conditions: none beyond the row's own (the law takes no argument).
-/
import Derived.Test.YtdhpphkkpjldfabPL2
import Derived.ProofKit
import Derived.OpenShut
namespace Go.Proofs.Ytdhpphkkpjldfab
set_option maxRecDepth 100000
open Go Go.RowKit Pq
open Go.ChangeShapes Go.WideShapes Go.ChangeAt

set_option maxHeartbeats 400000 in
theorem push_none (x : It) (w : World) :
    Calls Try.prog 9 #[.pointer none, .agg #[.int .i64 x.c, .int .i64 x.t, .int .i64 x.i]] w fun e w' => e = .returned (.tuple #[]) ∧ Below w.heap.size w w' := by
  go_enter Try.func9, Try.ntmps9
  go_wp2
  refine bodyPost_ret (results_none rfl _ _ _) rfl ?_
  exact ⟨rfl, (Below.refl _ _).alloc (Nat.le_refl _) _⟩

theorem row_nil {w : World} {base : Nat} {e : TypeId} {v : Value} (h : w.ownsRow base e 3 v 0 []) : ∃ a c, v = .slice a 0 c := by
  rcases h.2 with ⟨rfl, _⟩ | ⟨g, cap, cur, rfl, _⟩
  · exact ⟨_, _, rfl⟩
  · exact ⟨_, _, rfl⟩

theorem of_below {B b j : Nat} {r : Option Nat} {w w' : World} (h : Kp b j r w w') (hb : B ≤ b) (hr : ∀ i, some i = r → B ≤ i) (hB : B ≤ w.heap.size) : Below B w w' :=
  h.kept.below (by rintro k (rfl | e); exact hb; exact hr k e) hB

set_option maxHeartbeats 2000000 in
theorem names_any (w : World) : Calls Try.prog 4 #[] w fun e w' => e = .returned (.bool true) ∧ Below w.heap.size w w' := by
  go_enter Try.func4, Try.ntmps4
  go_wp2_with fail
  refine (some_any _).mono ?_
  rintro e w1 ⟨rfl, ⟨r, hp1, hr⟩, hb1⟩
  rw [srt_its] at hp1
  have hs1 := hb1.size
  have HP1 := Lib.hid hp1
  have HB1 := Lib.hid hb1
  have HR := Lib.hid hr
  clear hp1 hb1 hr
  go_wp2_with fail
  refine (least_any HP1.out (by decide) 3).mono ?_
  rintro e w2 ⟨v2, rfl, _, hp2, hk2⟩
  have hb2 := of_below hk2 (Nat.le_refl w.heap.size) HR.out hs1
  have HB2 := Lib.hid (HB1.out.trans hb2)
  have hs2 := hb2.size
  have HP2 : Hid (PileS w2 w.heap.size 0 r [⟨5, 0, 1⟩]) := hp2
  clear hp2 hk2 hb2 HP1
  go_wp2_with fail
  refine (pop_s HP2.out (by decide)).mono ?_
  rintro e w3 ⟨rfl, hp3, hk3⟩
  have hb3 := of_below hk3 (Nat.le_refl w.heap.size) HR.out (by omega)
  have HB3 := Lib.hid (HB2.out.trans hb3)
  have hs3 := hb3.size
  have HP3 : Hid (∀ o, PileS (w3.alloc o) w.heap.size 0 r []) := fun o => hp3.alloc o
  have hlt3 := hp3.lt _ (.inl rfl)
  clear hp3 hk3 hb3 HP2
  go_wp2_with fail
  refine (pop_nil (HP3.out _)).mono ?_
  rintro e w4 ⟨rfl, hb4⟩
  have hx : w4.heap[w3.heap.size]? = some (.cells #[.int .i64 5, .int .i64 0, .int .i64 1] 32 (0, 0)) := by
    rw [hb4.block _ (by simp)]
    exact heap_alloc_new w3 _
  have x0 : w4.cell? ⟨w3.heap.size, 0, none⟩ = some (.int .i64 5) := by rw [blk_cell hx]; rfl
  have x1 : w4.cell? ⟨w3.heap.size, 1, none⟩ = some (.int .i64 0) := by rw [blk_cell hx]; rfl
  have x2 : w4.cell? ⟨w3.heap.size, 2, none⟩ = some (.int .i64 1) := by rw [blk_cell hx]; rfl
  have y0 := cell_a1 x0
  have y1 := cell_a1 x1
  have y2 := cell_a1 x2
  have HB4 : Hid (Below w.heap.size w w4) := HB3.out.trans ((((Below.refl w3.heap.size w3).alloc (Nat.le_refl _) _).mono (by omega)).trans (hb4.mono (by simp; omega)))
  have hs4 : w.heap.size ≤ w4.heap.size := HB4.out.size
  have HP4 : Hid (∀ o, PileS (w4.alloc o) w.heap.size 0 r []) := fun o => ((HP3.out _).below hb4 (Nat.le_refl _)).alloc o
  clear hb4 hx HP3
  go_wp2_with fail
  refine (least_any (HP4.out _) (by decide) (-1)).mono ?_
  rintro e w5 ⟨v5, rfl, ho5, hp5, hk5⟩
  obtain ⟨a5, c5, rfl⟩ := row_nil ho5
  have hb5 := of_below hk5 (Nat.le_refl w.heap.size) HR.out (by simp; omega)
  have HB5 : Hid (Below w.heap.size w w5) := (HB4.out.alloc hs4 _).trans hb5
  have hs5 : w.heap.size ≤ w5.heap.size := HB5.out.size
  have HP5 : Hid (PileS w5 w.heap.size 0 r []) := hp5
  clear hp5 hk5 hb5 HP4 ho5
  go_wp2_with fail
  refine (least_any HP5.out (by decide) _).mono ?_
  rintro e w6 ⟨v6, rfl, ho6, hp6, hk6⟩
  have e6 : ∀ n, ([] : List It).take n = [] := fun n => List.take_nil
  rw [e6] at ho6
  obtain ⟨a6, c6, rfl⟩ := row_nil ho6
  have HB6 : Hid (Below w.heap.size w w6) := HB5.out.trans (of_below hk6 (Nat.le_refl w.heap.size) HR.out hs5)
  clear hp6 hk6 e6 ho6 HP5
  go_wp2_with fail
  refine (push_none ⟨0, 0, 0⟩ _).mono ?_
  rintro e w7 ⟨rfl, hb7⟩
  have HB7 : Hid (Below w.heap.size w w7) := HB6.out.trans (hb7.mono HB6.out.size)
  clear hb7
  go_wp2_with fail
  refine (top_none _).mono ?_
  rintro e w8 ⟨rfl, hb8⟩
  have HB8 : Hid (Below w.heap.size w w8) := HB7.out.trans (hb8.mono HB7.out.size)
  clear hb8
  have hs8 : w.heap.size ≤ w8.heap.size := HB8.out.size
  go_wp2_with fail
  refine (pop_none _).mono ?_
  rintro e w9 ⟨rfl, hb9⟩
  have HB9 : Hid (Below w.heap.size w w9) := (HB8.out.alloc hs8 _).trans (hb9.mono (by simp; omega))
  have hs9 : w.heap.size ≤ w9.heap.size := HB9.out.size
  clear hb9
  go_wp2_with fail
  refine (alive_any _).mono ?_
  rintro e w10 ⟨rfl, hb10⟩
  have HB10 : Hid (Below w.heap.size w w10) := (HB9.out.alloc hs9 _).trans (hb10.mono (by simp; omega))
  have hs10 : w.heap.size ≤ w10.heap.size := HB10.out.size
  clear hb10
  go_wp2_with fail
  refine (len_none _).mono ?_
  rintro e w11 ⟨rfl, rfl⟩
  go_wp2_with fail
  refine (all_none _).mono ?_
  rintro e w12 ⟨rfl, rfl⟩
  go_wp2_with fail
  refine (least_none _ _).mono ?_
  rintro e w13 ⟨rfl, hb13⟩
  have HB13 : Hid (Below w.heap.size w w13) := HB10.out.trans (hb13.mono hs10)
  clear hb13
  go_wp2
  go_ret
  exact ⟨rfl, HB13.out⟩

theorem Try.ownNone : ownKnob Try.prog.godebug = none := by kernel_rfl

set_option maxRecDepth 100000 in
theorem pileNames_lifted (os : Os) (started : os.Started) (H : Type) (enc : TypeId × Value → H) :
    ReturnsInHanded {} Try.checked os 4 .any (Rows.pileNamesSpec.pre6 enc Try.prog Try.f4 Rows.pileNamesRow.domain false) (Rows.pileNamesSpec.post enc Try.prog Try.f4 false true false false) := by
  refine returnsInHanded_of_change (C := Try.checked) Try.ownNone started (by kernel_rfl) Try.func4
    (ChangeSpec.witness6 (enc := enc) (C := Try.checked) false ⟨#[], #[], []⟩ 8 (by kernel_rfl) (by kernel_rfl) (by kernel_rfl) (by kernel_rfl)) ?_
  intro W base args ds gs before hval0 hW hcnd _
  have hW' := hW
  obtain ⟨p, q, hA0, hV, rfl, hfz, hnd⟩ := hW
  have hA : DataW.TrodAll enc Try.prog W 0 (fun _ => true) true Try.f4.params.toList args.toList ds p := hA0
  rw [Try.params4] at hA
  obtain ⟨rfl, rfl, rfl⟩ := trodAll_none hA
  obtain ⟨rfl, rfl⟩ := trodVars_none hV
  clear hA0 hval0
  simp only [List.append_nil] at hW'
  refine (names_any W).mono fun e W' ⟨he, hg⟩ => ?_
  subst he
  exact ⟨_, rfl, _, _, _, [], [], [], hW', trodAll_cons_mk (shut_bool Try.underlying4 _) trodAll_mk0, trodAll_mk0, rfl, hg.frame _, fun h => by cases h⟩

theorem pileNames_holds : Rows.PileNamesSaid :=
  OpenClaim.holds_of_wide 4 Try.f4 rfl rfl rfl rfl rfl rfl rfl ⟨rfl, rfl, rfl, rfl, rfl⟩ rfl rfl rfl rfl rfl (by kernel_rfl) Try.func4 (by kernel_rfl)
    (of_decide_eq_true (by kernel_rfl)) (by unfold Func.isWrapper; first | (rw [if_pos (by decide +kernel)]; kernel_rfl) | (rw [if_neg (by decide +kernel)]; exact ⟨rfl, rfl⟩))
    (fun os started H enc _ => pileNames_lifted os started H enc)
#print axioms pileNames_holds
end Go.Proofs.Ytdhpphkkpjldfab
