/-
  SegmentKinds: its walk, of a map's text.
-/
import Derived.Test.YtkfijjjnidiejaaDoorSgK
namespace Go.Proofs.YtkfijjjnidiejaaDoor
set_option maxRecDepth 100000
set_option linter.unusedSimpArgs false
open Go Go.RowKit

theorem filt_snoc {l : List Nat} {p : Nat → Bool} {k : Nat} (hk : k < l.length) : ((l.take (k + 1)).filter p).length = ((l.take k).filter p).length + if p (l.getD k 0) = true then 1 else 0 := by
  rw [List.take_succ_eq_append_getElem hk, List.filter_append, List.length_append]
  have : l.getD k 0 = l[k] := by simp [List.getD, hk]
  rw [this]
  by_cases h : p l[k] = true
  · simp [h]
  · simp [h]

set_option maxHeartbeats 8000000 in
theorem kd_good (s : ByteArray) (w : World) (hw : Ways w) (hs : s.size ≤ 400) {L : List (List UInt8)} (hv : Pure.verdict s.data.toList = .good L) :
    Calls Tryd.prog 5 #[.string s] w fun e w' => e = .returned (.bool true) ∧ Below w.heap.size w w' := by
  have HA := Lib.hid (salive_any w hw)
  have hG := (Pure.good_of hv).1
  have HO := Lib.hid (fun (w1 : World) (hb : Below w.heap.size w w1) => of_good2 hv hw hb (by unfold maxLen; omega))
  have ho := sgok_of hG
  obtain ⟨R, hR⟩ : ∃ R, R = L.length := ⟨_, rfl⟩
  obtain ⟨C, hCe⟩ : ∃ C, C = Pure.wid L := ⟨_, rfl⟩
  obtain ⟨ms, hms⟩ : ∃ ms, ms = L.flatten := ⟨_, rfl⟩
  rw [← hR, ← hCe, ← hms] at HO ho
  clear hv hG hw hR hCe hms L
  obtain ⟨hI, _⟩ := plan_ok (ms := ms) ho.hC ho.hN
  obtain ⟨n, hn⟩ : ∃ n, n = (planF R C ms).cells.length := ⟨_, rfl⟩
  obtain ⟨F, hF⟩ : ∃ F, F = (frees ms).length := ⟨_, rfl⟩
  obtain ⟨N, hNe⟩ : ∃ N, N = ms.length := ⟨_, rfl⟩
  have hF2 : F ≤ 1024 := by
    have := freeK_le ms ms.length
    have e : F = (freeK ms ms.length).length := hF
    have := ho.small
    omega
  have hn2 : n ≤ 1024 := by
    have h1 := (Sg.plan_lens ms.length (jnF R C ms) (frees ms)).2.1
    have e : n = (Sg.planK ms.length (jnF R C ms) (frees ms)).cells.length := hn
    omega
  have HOk := Lib.hid ho
  have HI := Lib.hid hI
  have HNn := Lib.hid hn
  have HFF := Lib.hid hF
  have HNN := Lib.hid hNe
  clear ho hI hn hF hNe
  go_enter Tryd.func5, Tryd.ntmps5
  go_wp2_with (first
    | (go_at_call 14; (with_reducible refine HA.out.mono ?_); rintro e w1 ⟨rfl, hb⟩)
    | (go_at_call 15; (with_reducible refine (HO.out _ hb).mono ?_); rintro e w2 ⟨p, bm, gm, cm, rfl, hm2⟩; have H2 := Lib.hid hm2; clear hm2)
    | (go_at_call 16; (with_reducible refine (m2_map H2.out).mono ?_); rintro e w' ⟨rfl, rfl⟩)
    | (go_at_call 12; (with_reducible refine (m2_cells H2.out HNN.out).mono ?_); rintro e w' ⟨rfl, rfl⟩))
  · go_ret
    exact ⟨rfl, H2.out.bl⟩
  · go_loopw [6] (fun u wr => ∃ i : Nat, i ≤ n ∧ u = .int .i64 (i : Int) ∧ M2 w bm gm cm R C ms p (planF R C ms) wr) (fun u _ => n - (intOf u).toNat)
    case atStart => exact ⟨0, Nat.zero_le _, rfl, H2.out⟩
    case round =>
      obtain ⟨i, hi, rfl, hm⟩ := hrel
      rename World => W
      have HM := Lib.hid hm
      clear hm H2
      by_cases hin : i < n
      · have hic : i < (planF R C ms).cells.length := by rw [← HNn.out]; exact hin
        have HCl := Lib.hid (m2_cls HOk.out HM.out hic)
        have HKd : Hid (∀ W, M2 w bm gm cm R C ms p (planF R C ms) W → Calls Tryd.prog 25 #[.pointer (some ⟨p, 0, none⟩), .int .i64 (i : Int)] W fun e w' => e = .returned (.int .i64 (((planF R C ms).kinds.getD i 0 : Nat) : Int)) ∧ W = w') := fun W h => m2_kind HOk.out h hic
        have hll := seg_len HOk.out hic
        have HX : Hid (∀ x ∈ (planF R C ms).cells.getD i [], x < ms.length ∧ (((planF R C ms).kinds.getD i 0 = 1 ∧ ((planF R C ms).cells.getD i []).length = 1 ∧ manyK R C ms x (frees ms) ≠ 2) ∨ ((planF R C ms).kinds.getD i 0 = 2 ∧ manyK R C ms x (frees ms) = 2 ∧ ownK R C ms x i (frees ms) ≤ 2) ∨ ((planF R C ms).kinds.getD i 0 = 3 ∧ manyK R C ms x (frees ms) = 2 ∧ ownK R C ms x i (frees ms) = 2 ∧ 4 ≤ ((planF R C ms).cells.getD i []).length))) := fun x hx => by
          obtain ⟨a, ha, _, e, _⟩ := HI.out.ord i hic
          have hxN := (Sg.ord_list (jnF_jn (ms := ms) HOk.out.hC HOk.out.hN) ha).2.2.1
          rw [e] at hxN
          have := kind_ok (ms := ms) HOk.out.hC HOk.out.hN hic hx
          rw [← many_all HOk.out.hC HOk.out.hN, ← own_all HOk.out.hC HOk.out.hN] at this
          exact ⟨hxN x hx, this⟩
        have HRd : Hid (∀ W', M2 w bm gm cm R C ms p (planF R C ms) W' → ∃ i' : Nat, i' ≤ n ∧ Value.int .i64 ((i : Int) + 1) = .int .i64 (i' : Int) ∧ M2 w bm gm cm R C ms p (planF R C ms) W') := fun W' h => ⟨i + 1, by omega, by go_num, h⟩
        have k0 : (i : Int) < (n : Int) := by omega
        clear hic
        generalize (planF R C ms).cells.getD i [] = l at *
        obtain ⟨ll, hle⟩ : ∃ ll, ll = l.length := ⟨_, rfl⟩
        have HLl := Lib.hid hle
        rw [← hle] at HCl HX hll
        clear hle
        go_wp2_with (first
          | (go_at_call 22; (with_reducible refine (m2_len HM.out HNn.out).mono ?_); rintro e w' ⟨rfl, rfl⟩)
          | (go_at_call 21; (with_reducible refine HCl.out.mono ?_); rintro e w3 ⟨a3, c3, rfl, hm3, hl3, _⟩; have H3 := Lib.hid hm3; have HL3 := Lib.hid hl3; clear hm3 hl3))
        go_loopw [45] (fun u wr => ∃ j : Nat, j ≤ ll ∧ u = .int .i64 (j : Int) ∧ M2 w bm gm cm R C ms p (planF R C ms) wr ∧ Lst wr (.slice a3 ll c3) l) (fun u _ => ll - (intOf u).toNat)
        case atStart => exact ⟨0, Nat.zero_le _, rfl, H3.out, HL3.out⟩
        case round =>
          obtain ⟨j, hj, rfl, hm, hl⟩ := hrel
          rename World => U
          have HMu := Lib.hid hm
          have HLu := Lib.hid hl
          clear hm hl H3 HL3
          by_cases hjl : j < ll
          · have hjl' : j < l.length := by rw [← HLl.out]; exact hjl
            have hxm : l.getD j 0 ∈ l := by
              rw [show l.getD j 0 = l[j] by simp [List.getD, hjl']]
              exact List.getElem_mem hjl'
            obtain ⟨hxN, hx⟩ := HX.out _ hxm
            obtain ⟨g, rfl, fx⟩ := lst_at HLu.out hjl'
            have HLx : Hid (∀ W', Lst W' (.slice (some ⟨g, 0, none⟩) ll c3) l → W'.cell? ⟨g, j, none⟩ = some (.int .i64 ((l.getD j 0 : Nat) : Int))) := fun W' h => by
              obtain ⟨g', e, h2⟩ := lst_at h hjl'
              cases e
              exact h2
            have HXx := Lib.hid hx
            have HRj : Hid (∀ W', M2 w bm gm cm R C ms p (planF R C ms) W' → Lst W' (.slice (some ⟨g, 0, none⟩) ll c3) l → ∃ j' : Nat, j' ≤ ll ∧ Value.int .i64 ((j : Int) + 1) = .int .i64 (j' : Int) ∧ M2 w bm gm cm R C ms p (planF R C ms) W' ∧ Lst W' (.slice (some ⟨g, 0, none⟩) ll c3) l) := fun W' h1 h2 => ⟨j + 1, by omega, by go_num, h1, h2⟩
            have j0 : (j : Int) < (ll : Int) := by omega
            have j1 : (0 : Int) ≤ (j : Int) := by omega
            generalize l.getD j 0 = x at *
            clear hxm hx fx hjl'
            go_wp2_with (go_at_call 23; (with_reducible refine (m2_all HOk.out HMu.out HFF.out).mono ?_); rintro e w4 ⟨a4, c4, rfl, hm4, hf4, hb4⟩; have H4 := Lib.hid hm4; have HF4 := Lib.hid hf4; have HL4 := Lib.hid (HLu.out.below hb4); clear hm4 hf4 hb4)
            go_loopw [9, 10, 51] (fun v9 v10 u wr => ∃ k : Nat, k ≤ F ∧ v9 = .int .i64 ((manyK R C ms x ((frees ms).take k) : Nat) : Int) ∧ v10 = .int .i64 ((ownK R C ms x i ((frees ms).take k) : Nat) : Int) ∧ u = .int .i64 (k : Int) ∧ w4 = wr) (fun _ _ u _ => F - (intOf u).toNat)
            case atStart => exact ⟨0, Nat.zero_le _, rfl, rfl, rfl, rfl⟩
            case round =>
              obtain ⟨k, hk, rfl, rfl, rfl, rfl⟩ := hrel
              by_cases hkF : k < F
              · have hkl : k < (frees ms).length := by rw [← HFF.out]; exact hkF
                obtain ⟨g4, rfl, fb⟩ := lst_at HF4.out hkl
                have fx := HLx.out _ HL4.out
                have hbm : (frees ms).getD k 0 ∈ frees ms := by
                  rw [show (frees ms).getD k 0 = (frees ms)[k] by simp [List.getD, hkl]]
                  exact List.getElem_mem hkl
                have hbN : (frees ms).getD k 0 < ms.length := List.mem_range.1 (List.mem_filter.1 hbm).1
                have e1 := filt_snoc (p := fun b => decide (b ∈ jnF R C ms x)) hkl
                have e2 := filt_snoc (p := fun b => decide (b ∈ jnF R C ms x) && decide ((planF R C ms).of.getD b 0 = (i : Int))) hkl
                have hEd := jn_edges (R := R) (C := C) hbN hxN
                have hml : manyK R C ms x ((frees ms).take k) ≤ 1024 := by unfold manyK; have := List.length_filter_le (fun b => decide (b ∈ jnF R C ms x)) ((frees ms).take k); rw [List.length_take] at this; omega
                have hol : ownK R C ms x i ((frees ms).take k) ≤ 1024 := by unfold ownK; have := List.length_filter_le (fun b => decide (b ∈ jnF R C ms x) && decide ((planF R C ms).of.getD b 0 = (i : Int))) ((frees ms).take k); rw [List.length_take] at this; omega
                have HSg := Lib.hid (m2_seg H4.out hbN)
                have hirr : (frees ms).getD k 0 = x → decide ((frees ms).getD k 0 ∈ jnF R C ms x) = false := fun e => by
                  rw [e, decide_eq_false_iff_not]
                  exact (jnF_jn (ms := ms) HOk.out.hC HOk.out.hN).irr
                have HRk : Hid (∀ m1 m2 : Nat, m1 = manyK R C ms x ((frees ms).take (k + 1)) → m2 = ownK R C ms x i ((frees ms).take (k + 1)) → ∃ k' : Nat, k' ≤ F ∧ Value.int .i64 (m1 : Int) = .int .i64 ((manyK R C ms x ((frees ms).take k') : Nat) : Int) ∧ Value.int .i64 (m2 : Int) = .int .i64 ((ownK R C ms x i ((frees ms).take k') : Nat) : Int) ∧ Value.int .i64 ((k : Int) + 1) = .int .i64 (k' : Int) ∧ True) := fun m1 m2 h1 h2 => ⟨k + 1, by omega, by rw [h1], by rw [h2], by go_num, trivial⟩
                have E1 : Hid (manyK R C ms x ((frees ms).take (k + 1)) = manyK R C ms x ((frees ms).take k) + if decide ((frees ms).getD k 0 ∈ jnF R C ms x) = true then 1 else 0) := e1
                have E2 : Hid (ownK R C ms x i ((frees ms).take (k + 1)) = ownK R C ms x i ((frees ms).take k) + if (decide ((frees ms).getD k 0 ∈ jnF R C ms x) && decide ((planF R C ms).of.getD ((frees ms).getD k 0) 0 = (i : Int))) = true then 1 else 0) := e2
                clear e1 e2
                generalize manyK R C ms x ((frees ms).take (k + 1)) = m1' at *
                generalize ownK R C ms x i ((frees ms).take (k + 1)) = m2' at *
                generalize manyK R C ms x ((frees ms).take k) = m1 at *
                generalize ownK R C ms x i ((frees ms).take k) = m2 at *
                generalize (planF R C ms).of.getD ((frees ms).getD k 0) 0 = o at *
                generalize decide ((frees ms).getD k 0 ∈ jnF R C ms x) = dj at *
                generalize (frees ms).getD k 0 = b at *
                obtain ⟨eb1, he1⟩ : ∃ v, (nextZ R C ms (x : Int)).any (fun u => (u : Int) == (b : Int)) = v := ⟨_, rfl⟩
                obtain ⟨eb2, he2⟩ : ∃ v, (nextZ R C ms (b : Int)).any (fun u => (u : Int) == (x : Int)) = v := ⟨_, rfl⟩
                have HE1 := Lib.hid (m2_edge H4.out (x : Int) (b : Int) he1)
                have HE2 := Lib.hid (m2_edge H4.out (b : Int) (x : Int) he2)
                rw [he1, he2] at hEd
                have q1 : (k : Int) < (F : Int) := by omega
                have q2 : (0 : Int) ≤ (k : Int) := by omega
                have wr1 : IntKind.i64.wrap ((m1 : Int) + 1) = (m1 : Int) + 1 := IntWalk.i64_in _ (by omega)
                have wr2 : IntKind.i64.wrap ((m2 : Int) + 1) = (m2 : Int) + 1 := IntWalk.i64_in _ (by omega)
                clear hbm he1 he2 hkl
                by_cases hbx : b = x
                · have hdj := hirr hbx
                  have d1 : ((b : Int) != (x : Int)) = false := by simp [hbx]
                  have HG := Lib.hid (HRk.out m1 m2 (by rw [E1.out, hdj]; simp) (by rw [E2.out, hdj]; simp))
                  clear hirr hEd hdj hbx E1 E2 HRk
                  go_wp2_with fail
                  go_roundw
                  case rel => exact HG.out
                  case measure => simp [intOf]; omega
                · have d1 : ((b : Int) != (x : Int)) = true := by
                    have : ¬ (b : Int) = (x : Int) := by omega
                    simpa using this
                  clear hirr hbx
                  cases dj with
                  | false =>
                    have h12 : eb1 = false ∧ eb2 = false := by
                      cases eb1 <;> cases eb2 <;> first | exact ⟨rfl, rfl⟩ | exact absurd hEd (by decide)
                    obtain ⟨rfl, rfl⟩ := h12
                    have HG := Lib.hid (HRk.out m1 m2 (by rw [E1.out]; simp) (by rw [E2.out]; simp))
                    clear hEd E1 E2 HRk
                    go_wp2_with (first
                      | (go_at_call 24; (with_reducible refine HE1.out.mono ?_); rintro e w' ⟨rfl, rfl⟩)
                      | (go_at_call 24; (with_reducible refine HE2.out.mono ?_); rintro e w' ⟨rfl, rfl⟩))
                    go_roundw
                    case rel => exact HG.out
                    case measure => simp [intOf]; omega
                  | true =>
                    by_cases hoi : o = (i : Int)
                    · have d2 : (o == (i : Int)) = true := by simp [hoi]
                      have HG := Lib.hid (HRk.out (m1 + 1) (m2 + 1) (by rw [E1.out]; simp) (by rw [E2.out]; simp [hoi]))
                      clear E1 E2 HRk
                      cases eb1 with
                      | true =>
                        clear hEd
                        go_wp2_with (first
                          | (go_at_call 24; (with_reducible refine HE1.out.mono ?_); rintro e w' ⟨rfl, rfl⟩)
                          | (go_at_call 19; (with_reducible refine HSg.out.mono ?_); rintro e w' ⟨rfl, rfl⟩))
                        go_roundw
                        case rel => simpa using HG.out
                        case measure => simp [intOf]; omega
                      | false =>
                        have h2 : eb2 = true := by simpa using hEd.symm
                        subst h2
                        clear hEd
                        go_wp2_with (first
                          | (go_at_call 24; (with_reducible refine HE1.out.mono ?_); rintro e w' ⟨rfl, rfl⟩)
                          | (go_at_call 24; (with_reducible refine HE2.out.mono ?_); rintro e w' ⟨rfl, rfl⟩)
                          | (go_at_call 19; (with_reducible refine HSg.out.mono ?_); rintro e w' ⟨rfl, rfl⟩))
                        go_roundw
                        case rel => simpa using HG.out
                        case measure => simp [intOf]; omega
                    · have d2 : (o == (i : Int)) = false := by simpa using hoi
                      have HG := Lib.hid (HRk.out (m1 + 1) m2 (by rw [E1.out]; simp) (by rw [E2.out]; simp [hoi]))
                      clear E1 E2 HRk
                      cases eb1 with
                      | true =>
                        clear hEd
                        go_wp2_with (first
                          | (go_at_call 24; (with_reducible refine HE1.out.mono ?_); rintro e w' ⟨rfl, rfl⟩)
                          | (go_at_call 19; (with_reducible refine HSg.out.mono ?_); rintro e w' ⟨rfl, rfl⟩))
                        go_roundw
                        case rel => simpa using HG.out
                        case measure => simp [intOf]; omega
                      | false =>
                        have h2 : eb2 = true := by simpa using hEd.symm
                        subst h2
                        clear hEd
                        go_wp2_with (first
                          | (go_at_call 24; (with_reducible refine HE1.out.mono ?_); rintro e w' ⟨rfl, rfl⟩)
                          | (go_at_call 24; (with_reducible refine HE2.out.mono ?_); rintro e w' ⟨rfl, rfl⟩)
                          | (go_at_call 19; (with_reducible refine HSg.out.mono ?_); rintro e w' ⟨rfl, rfl⟩))
                        go_roundw
                        case rel => simpa using HG.out
                        case measure => simp [intOf]; omega
              · obtain rfl : k = F := by omega
                have hall : (frees ms).take k = frees ms := List.take_of_length_le (by rw [← HFF.out]; exact Nat.le_refl _)
                rw [hall]
                have hxx := HXx.out
                have HK4 := Lib.hid (HKd.out _ H4.out)
                have HG := Lib.hid (HRj.out _ H4.out HL4.out)
                clear hall
                generalize manyK R C ms x (frees ms) = m1 at *
                generalize ownK R C ms x i (frees ms) = m2 at *
                generalize (planF R C ms).kinds.getD i 0 = kd at *
                rcases hxx with ⟨rfl, hl1, hm⟩ | ⟨rfl, rfl, hm⟩ | ⟨rfl, rfl, rfl, hm⟩
                · have d1 : ((m1 : Int) == 2) = false := by
                    have : ¬ (m1 : Int) = 2 := by omega
                    simpa using this
                  have d2 : ((ll : Int) != 1) = false := by
                    have : (ll : Int) = 1 := by omega
                    simp [this]
                  have d3 : ((ll : Int) == 1) = true := by
                    have : (ll : Int) = 1 := by omega
                    simp [this]
                  clear hm hl1
                  go_wp2_with (go_at_call 25; (with_reducible refine HK4.out.mono ?_); rintro e w' ⟨rfl, rfl⟩)
                  go_roundw
                  case rel => exact HG.out
                  case measure => simp [intOf]; omega
                · have d1 : decide ((2 : Int) < (m2 : Int)) = false := decide_eq_false (by omega)
                  have d2 : decide (2 < m2) = false := decide_eq_false (by omega)
                  clear hm
                  go_wp2_with (go_at_call 25; (with_reducible refine HK4.out.mono ?_); rintro e w' ⟨rfl, rfl⟩)
                  go_roundw
                  case rel => exact HG.out
                  case measure => simp [intOf]; omega
                · have d1 : decide ((ll : Int) < 4) = false := decide_eq_false (by omega)
                  have d2 : decide (ll < 4) = false := decide_eq_false (by omega)
                  clear hm
                  go_wp2_with (go_at_call 25; (with_reducible refine HK4.out.mono ?_); rintro e w' ⟨rfl, rfl⟩)
                  go_roundw
                  case rel => exact HG.out
                  case measure => simp [intOf]; omega
          · obtain rfl : j = ll := by omega
            have HG := Lib.hid (HRd.out _ HMu.out)
            clear HLu
            go_wp2_with fail
            go_roundw
            case rel => exact HG.out
            case measure => simp [intOf]; omega
      · obtain rfl : i = n := by omega
        go_wp2_with (go_at_call 22; (with_reducible refine (m2_len HM.out HNn.out).mono ?_); rintro e w' ⟨rfl, rfl⟩)
        go_ret
        exact ⟨rfl, HM.out.bl⟩
/-- The law, for every text. -/
theorem kd_all (s : ByteArray) (w : World) (hw : Ways w) (hs : s.size ≤ maxLen) :
    Calls Tryd.prog 5 #[.string s] w fun e w' => e = .returned (.bool true) ∧ Below w.heap.size w w' := by
  by_cases h : 400 < s.size
  · exact kd_out s w hw hs h
  · cases hv : Pure.verdict s.data.toList with
    | bad l c => exact kd_bad s w hw (Nat.le_of_not_lt h) hv
    | good L => exact kd_good s w hw (Nat.le_of_not_lt h) hv
end Go.Proofs.YtkfijjjnidiejaaDoor
