/-
  The law PilePlays: its walk.
-/
import Derived.Test.YtdhpphkkpjldfabPPl
namespace Go.Proofs.Ytdhpphkkpjldfab
set_option maxRecDepth 100000
open Go Go.RowKit Pq

set_option maxHeartbeats 1000000 in
theorem plays_long {w : World} {A : Option Addr} {n cap : Nat} (hn : 200 < n) :
    Calls Try.prog 3 #[.slice A n cap] w fun e w' => e = .returned (.bool true) ∧ Below w.heap.size w w' := by
  go_enter Try.func3, Try.ntmps3
  go_wp2
  go_ret
  exact ⟨rfl, Below.refl _ _⟩

/-- Between two calls. -/
def PlRel (w : World) (k : Nat) (wr : World) : Prop := ∃ r s, Both w w.heap.size (w.heap.size + 1) r s s [] [] wr ∧ s.length ≤ k

theorem plays_start (w : World) (t t' : TypeId) : PlRel w 0 ((w.alloc (.cells #[.slice none 0 0] t)).alloc (.cells #[.slice none 0 0] t')) := by
  have h1 := ((Sys.start (B := w.heap.size) (W0 := w) (Nat.le_refl _) (Below.refl _ w)).newPile t).alloc0 (.cells #[.slice none 0 0] t')
  refine ⟨none, [], ⟨none, h1, ?_, by omega, ?_, (fun a e => by cases e), (fun o ho => by simp at ho), (fun v hv => by simp at hv), (fun v hv => by simp at hv)⟩, Nat.le_refl _⟩
  · have hb := heap_alloc_new (w.alloc (.cells #[.slice none 0 0] t)) (.cells #[.slice none 0 0] t')
    rw [World.size_alloc] at hb
    exact ⟨⟨0, by rw [blk_cell hb]; rfl, Nat.le_refl _, fun _ => rfl⟩, blk_free hb 0, (fun k hk => by simp at hk), (fun a e => by cases e)⟩
  · rintro (e | e)
    · omega
    · cases e

/-- While what All told is laid to nothing. -/
def ZRel (w : World) (A : Option Addr) (c n k : Nat) (wr : World) : Prop :=
  ∃ (L : List It) (r : Option Nat) (s : List It), L.length = n ∧ Both w w.heap.size (w.heap.size + 1) r s s [] [(.slice A n c, L)] wr ∧ s.length ≤ k
theorem Both.rowcells {w W : World} {b1 b2 : Nat} {r : Option Nat} {sp sr L : List It} {A : Option Addr} {n c i : Nat} (h : Both w b1 b2 r sp sr [] [(.slice A n c, L)] W) (hn : L.length = n) (hi : i < n) :
    ∃ g c', (Value.slice A n c) = .slice (some ⟨g, 0, none⟩) n c' ∧ W.cell? ⟨g, i * 3, none⟩ = some (.int .i64 (at_ L i).c) ∧ W.cell? ⟨g, i * 3 + 1, none⟩ = some (.int .i64 (at_ L i).t) ∧ W.cell? ⟨g, i * 3 + 2, none⟩ = some (.int .i64 (at_ L i).i) ∧ ∀ o, W.frozen? ⟨g, o, none⟩ = false := by
  have ho := (h.sys.row _ (List.mem_cons_self ..)).1
  dsimp only at ho
  rcases ho.2 with ⟨e, h0⟩ | ⟨g, cap, cur, e, _⟩
  · omega
  · rw [hn] at e
    cases e
    rw [hn] at ho
    subst hn
    obtain ⟨h0, h1, h2⟩ := row_cells ho hi
    exact ⟨g, c, rfl, h0, h1, h2, fun o => ho.frozenAt o⟩
theorem Both.put {w W : World} {b1 b2 : Nat} {r : Option Nat} {sp sr L : List It} {g n c i : Nat} (h : Both w b1 b2 r sp sr [] [(.slice (some ⟨g, 0, none⟩) n c, L)] W) (hn : L.length = n) (hi : i < n) (x : It) :
    Both w b1 b2 r sp sr [] [(.slice (some ⟨g, 0, none⟩) n c, L.set i x)] (put3 W g i x) := by
  subst hn
  have hk : Kept (fun k => some k = (Value.slice (some ⟨g, 0, none⟩) L.length c).ownBlock) W (put3 W g i x) := put3_kept (X := fun k => some k = (Value.slice (some ⟨g, 0, none⟩) L.length c).ownBlock) (Kept.refl _ W) rfl _ _
  have h' := h.row (v := (.slice (some ⟨g, 0, none⟩) L.length c, L)) (List.mem_cons_self ..) hk
  obtain ⟨A, h1, h2, h3, h4, h5, h6, h7, h8⟩ := h
  obtain ⟨g1, g2⟩ := h1.row _ (List.mem_cons_self ..)
  have hrow := put3_row g1 hi x
  obtain ⟨A', i1, i2, i3, i4, i5, i6, i7, i8⟩ := h'
  have hA : RefAt (put3 W g i x) b2 A sr := h2.kept hk (fun e => h7 _ (List.mem_cons_self ..) e.symm) (fun a ea e => h8 _ (List.mem_cons_self ..) a ea e.symm)
  refine ⟨A, ⟨i1.below, i1.size, i1.pile, i1.apart, i1.obj, fun v hv => ?_⟩, hA, h3, h4, h5, h6, fun v hv => ?_, fun v hv a ea => ?_⟩
  · rw [List.mem_singleton] at hv
    subst hv
    refine ⟨by simpa using hrow, fun k p hp gg hgg => g2 k p hp gg hgg⟩
  · rw [List.mem_singleton] at hv
    subst hv
    exact h7 (.slice (some ⟨g, 0, none⟩) L.length c, L) (List.mem_cons_self ..)
  · rw [List.mem_singleton] at hv
    subst hv
    exact h8 (.slice (some ⟨g, 0, none⟩) L.length c, L) (List.mem_cons_self ..) a ea

set_option maxHeartbeats 3000000 in
theorem plays_any {w : World} {A : Option Addr} {kd : Nat → Int} {l : List It} {cap : Nat} (hA : OpsAt w A kd l) (hn : l.length ≤ 200) :
    Calls Try.prog 3 #[.slice A l.length cap] w fun e w' => e = .returned (.bool true) ∧ Below w.heap.size w w' := by
  have HA := Lib.hid hA
  clear hA
  have HS0 := Lib.hid (plays_start w)
  generalize hN : l.length = n at *
  have HN := Lib.hid hN
  clear hN
  go_enter Try.func3, Try.ntmps3
  go_wp2
  go_loopw [28] (fun v wr => ∃ (k : Nat), k ≤ n ∧ v = .int .i64 (k : Int) ∧ PlRel w k wr) (fun v _ => n - (intOf v).toNat)
  case atStart => exact ⟨0, by omega, rfl, HS0.out _ _⟩
  case round =>
    obtain ⟨k, hk, rfl, hS⟩ := hrel
    have HS := Lib.hid hS
    clear hS HS0
    by_cases hlt : k < n
    · have hkl : k < l.length := by rw [HN.out]; exact hlt
      obtain ⟨r, s, hB, hsl⟩ := HS.out
      obtain ⟨a, rfl, hab, k0, c0, c1, c2⟩ := (HA.out.below hB.below (Nat.le_refl _)) k hkl
      have HB := Lib.hid hB
      clear hab hkl hB HS
      generalize at_ l k = x at *
      generalize kd k = kk at *
      obtain ⟨x0, x1, x2⟩ := x
      simp only at *
      have k0' := cell_a1 k0
      have HBx := Lib.hid (HB.out.alloc (.cells #[.int .i64 x0, .int .i64 x1, .int .i64 x2] 32))
      clear HB
      go_upto_block 2 with (fail)
      clear k0 k0' c0 c1 c2
      go_cut [7, 8, 9, 10, 11, 12] from 29 to 136 (fun t _ _ _ _ _ wx => t = .bool true ∧ PlRel w (k + 1) wx)
      case first =>
        obtain ⟨o1, _⟩ := HBx.out.sys.obj _ (List.mem_cons_self ..)
        dsimp only at o1
        have p0 := (blk_cell o1 0).trans (show _ = some (Value.int .i64 x0) from rfl)
        have p1 := (blk_cell o1 1).trans (show _ = some (Value.int .i64 x1) from rfl)
        have p2 := (blk_cell o1 2).trans (show _ = some (Value.int .i64 x2) from rfl)
        clear o1
        have hsl' : s.length ≤ 200 := by omega
        by_cases hk0 : kk = 0
        · subst hk0
          go_wp2_with fail
          refine (push_s HBx.out.pile ⟨x0, x1, x2⟩ (by omega)).mono ?_
          rintro e w2 hq
          obtain ⟨rfl, _⟩ := id hq
          obtain ⟨r', hB2⟩ := HBx.out.push hq
          obtain ⟨A, hR⟩ := hB2.ref
          obtain ⟨o2, _⟩ := hB2.sys.obj _ (List.mem_cons_self ..)
          dsimp only at o2
          have q0 := (blk_cell o2 0).trans (show _ = some (Value.int .i64 x0) from rfl)
          have q1 := (blk_cell o2 1).trans (show _ = some (Value.int .i64 x1) from rfl)
          have q2 := (blk_cell o2 2).trans (show _ = some (Value.int .i64 x2) from rfl)
          have HB2 := Lib.hid hB2
          have HR := Lib.hid hR
          clear hq hB2 hR o2 p0 p1 p2
          go_wp2_with fail
          refine (rpush_any HR.out ⟨x0, x1, x2⟩ (by omega)).mono ?_
          rintro e w3 hq
          obtain ⟨rfl, _⟩ := id hq
          have hB3 := (HB2.out.rpush hq).less (os' := []) (rs' := []) (fun _ h => by cases h) (fun _ h => by cases h)
          have HP : Hid (PlRel w (k + 1) w3) := ⟨r', _, hB3, by rw [ins_length]; omega⟩
          clear hq hB3
          go_wp2
          go_meet
          exact ⟨rfl, HP.out⟩
        · have dk0 : (kk == 0) = false := by rw [beq_eq_false_iff_ne]; exact hk0
          by_cases hk1 : kk = 1
          · subst hk1
            cases s with
            | nil =>
              go_wp2_with fail
              refine (pop_nil HBx.out.pile).mono ?_
              rintro e w2 ⟨rfl, hb2⟩
              have hB2 := (HBx.out.later hb2 (Nat.le_refl _)).alloc (.cells #[.int .i64 0, .int .i64 0, .int .i64 0] 32)
              clear hb2
              obtain ⟨A, hR⟩ := hB2.ref
              have HB2 := Lib.hid hB2
              have HR := Lib.hid hR
              clear hB2 hR p0 p1 p2
              go_wp2_with fail
              refine (rtop_nil HR.out).mono ?_
              rintro e w3 ⟨rfl, hb3⟩
              have hB3 := (HB2.out.later hb3 (Nat.le_refl _)).alloc (.cells #[.int .i64 0, .int .i64 0, .int .i64 0] 37)
              have HB3 := Lib.hid hB3
              clear hB3 hb3 HB2
              go_wp2_with fail
              refine (HB3.out.rleast (by simp at hsl' ⊢; try omega) 1).mono ?_
              rintro e w4 ⟨v4, A4, cap4, rfl, _, _, hB4⟩
              have o1 := (hB4.sys.obj _ (List.mem_cons_self ..)).1
              have o2 := (hB4.sys.obj _ (List.mem_cons_of_mem _ (List.mem_cons_self ..))).1
              dsimp only at o1 o2
              have q0 := (blk_cell o1 0).trans (show _ = some (Value.int .i64 0) from rfl)
              have r0 := (blk_cell o2 0).trans (show _ = some (Value.int .i64 0) from rfl)
              have q1 := (blk_cell o1 1).trans (show _ = some (Value.int .i64 0) from rfl)
              have r1 := (blk_cell o2 1).trans (show _ = some (Value.int .i64 0) from rfl)
              have q2 := (blk_cell o1 2).trans (show _ = some (Value.int .i64 0) from rfl)
              have r2 := (blk_cell o2 2).trans (show _ = some (Value.int .i64 0) from rfl)
              have HP : Hid (PlRel w (k + 1) w4) := ⟨r, [], hB4.less (os' := []) (rs' := []) (fun _ h => by cases h) (fun _ h => by cases h), by simp at hsl ⊢; try omega⟩
              clear hB4 o1 o2 HB3
              go_wp2
              go_meet
              exact ⟨rfl, HP.out⟩
            | cons y rest =>
              go_wp2_with fail
              refine (pop_s HBx.out.pile (by simp at hsl'; omega)).mono ?_
              rintro e w2 hq
              obtain ⟨rfl, _⟩ := id hq
              have hB2 := (HBx.out.pop hq).alloc (.cells #[.int .i64 y.c, .int .i64 y.t, .int .i64 y.i] 32)
              clear hq
              obtain ⟨A, hR⟩ := hB2.ref
              have HB2 := Lib.hid hB2
              have HR := Lib.hid hR
              clear hB2 hR p0 p1 p2
              go_wp2_with fail
              refine (rtop_some HR.out).mono ?_
              rintro e w3 ⟨rfl, hb3⟩
              have hB3 := (HB2.out.later hb3 (Nat.le_refl _)).alloc (.cells #[.int .i64 y.c, .int .i64 y.t, .int .i64 y.i] 37)
              have HB3 := Lib.hid hB3
              clear hB3 hb3 HB2
              go_wp2_with fail
              refine (HB3.out.rleast (by simp at hsl' ⊢; try omega) 1).mono ?_
              rintro e w4 ⟨v4, A4, cap4, rfl, _, _, hB4⟩
              have o1 := (hB4.sys.obj _ (List.mem_cons_self ..)).1
              have o2 := (hB4.sys.obj _ (List.mem_cons_of_mem _ (List.mem_cons_self ..))).1
              dsimp only at o1 o2
              have q0 := (blk_cell o1 0).trans (show _ = some (Value.int .i64 y.c) from rfl)
              have r0 := (blk_cell o2 0).trans (show _ = some (Value.int .i64 y.c) from rfl)
              have q1 := (blk_cell o1 1).trans (show _ = some (Value.int .i64 y.t) from rfl)
              have r1 := (blk_cell o2 1).trans (show _ = some (Value.int .i64 y.t) from rfl)
              have q2 := (blk_cell o1 2).trans (show _ = some (Value.int .i64 y.i) from rfl)
              have r2 := (blk_cell o2 2).trans (show _ = some (Value.int .i64 y.i) from rfl)
              have HP : Hid (PlRel w (k + 1) w4) := ⟨r, rest, hB4.less (os' := []) (rs' := []) (fun _ h => by cases h) (fun _ h => by cases h), by simp at hsl ⊢; try omega⟩
              clear hB4 o1 o2 HB3
              go_wp2
              go_meet
              exact ⟨rfl, HP.out⟩
          · have dk1 : (kk == 1) = false := by rw [beq_eq_false_iff_ne]; exact hk1
            by_cases hk2 : kk = 2
            · subst hk2
              go_wp2_with fail
              refine (least_any HBx.out.pile (by omega) x0).mono ?_
              rintro e w2 hq
              obtain ⟨v2, rfl, hB2⟩ := HBx.out.least hq
              have o1 := (hB2.sys.obj _ (List.mem_cons_self ..)).1
              dsimp only at o1
              have q0 := (blk_cell o1 0).trans (show _ = some (Value.int .i64 x0) from rfl)
              obtain ⟨A2, cap2, rfl, _⟩ := hB2.sys.cells (List.mem_cons_self ..)
              have htl : (s.take x0.toNat).length ≤ 100000 := by rw [List.length_take]; omega
              clear hq
              generalize hT : s.take x0.toNat = t at *
              have HT := Lib.hid hT
              have HB2 := Lib.hid hB2
              clear hT hB2 o1 p0 p1 p2
              go_wp2_with fail
              refine (HB2.out.rleast (by omega) x0).mono ?_
              rintro e w3 ⟨v3, A3, cap3, rfl, rfl, hi3, hB3⟩
              rw [HT.out] at hi3 ⊢
              have ho := (hB3.sys.row _ (List.mem_cons_self ..)).1
              have hi2 : ItemsAt w3 A2 t := by
                rcases ho.2 with ⟨e, h0⟩ | ⟨g, cap, cur, e, _⟩
                · intro j hj
                  simp only at h0
                  omega
                · simp only at e ho
                  cases e
                  exact row_items ho
              have HI2 := Lib.hid hi2
              have HI3 := Lib.hid hi3
              have HB3 := Lib.hid hB3
              clear hi2 hi3 hB3 ho HB2
              go_wp2_with fail
              refine (same_any HI2.out HI3.out htl).mono ?_
              rintro e w4 ⟨rfl, m4, rfl⟩
              have HP : Hid (PlRel w (k + 1) (w3.drewN m4)) := ⟨r, s.drop x0.toNat, (HB3.out.less (os' := []) (rs' := []) (fun _ h => by cases h) (fun _ h => by cases h)).drewN m4, by rw [List.length_drop]; omega⟩
              go_wp2
              go_meet
              exact ⟨rfl, HP.out⟩
            · have dk2 : (kk == 2) = false := by rw [beq_eq_false_iff_ne]; exact hk2
              have HP : Hid (PlRel w (k + 1) (wr.alloc (.cells #[.int .i64 x0, .int .i64 x1, .int .i64 x2] 32))) := ⟨r, s, HBx.out.less (fun _ h => by cases h) (fun _ h => by cases h), by omega⟩
              clear hk0 hk1 hk2
              go_wp2
              go_meet
              exact ⟨rfl, HP.out⟩
      case rest =>
        obtain ⟨rfl, hS⟩ := hcut
        obtain ⟨r2, s2, hB, hl2⟩ := hS
        clear HBx
        cases s2 with
        | nil =>
          have hlen2 : ([] : List It).length ≤ 9999 := by simp at hl2 ⊢; try omega
          go_wp2_with fail
          refine (top_nil hB.pile).mono ?_
          rintro e w2 ⟨rfl, hb2⟩
          have hB2 := (hB.later hb2 (Nat.le_refl _)).alloc (.cells #[.int .i64 0, .int .i64 0, .int .i64 0] 32)
          obtain ⟨A2, hR2⟩ := hB2.ref
          have HB2 := Lib.hid hB2
          have HR2 := Lib.hid hR2
          clear hB hb2 hB2 hR2
          go_wp2_with fail
          refine (rtop_nil HR2.out).mono ?_
          rintro e w3 ⟨rfl, hb3⟩
          have hB3 := (HB2.out.later hb3 (Nat.le_refl _)).alloc (.cells #[.int .i64 0, .int .i64 0, .int .i64 0] 37)
          have HB3 := Lib.hid hB3
          clear hb3 hB3 HR2 HB2
          go_wp2_with fail
          refine (all_any HB3.out.pile hlen2).mono ?_
          rintro e w4 hq4
          obtain ⟨v17, rfl, hB4⟩ := HB3.out.all hq4
          clear hq4 HB3
          generalize hL2 : ([] : List It) = L2 at hB4 hlen2 hl2
          have HL2 := Lib.hid hL2
          clear hL2
          obtain ⟨A17, c17, rfl, _⟩ := hB4.sys.cells (List.mem_cons_self ..)
          have ho17 := (hB4.sys.row _ (List.mem_cons_self ..)).1
          have hi17 : ItemsAt w4 A17 L2 := by
            rcases ho17.2 with ⟨e, h0⟩ | ⟨g, cap, cur, e, _⟩
            · intro j hj
              simp only at h0
              omega
            · simp only at e ho17
              cases e
              exact row_items ho17
          obtain ⟨Ar, hRr⟩ := hB4.ref
          obtain ⟨capr, hcr, _, _⟩ := hRr.cell
          have HLen : Hid (∀ m, Calls Try.prog 18 #[.pointer (some ⟨w.heap.size, 0, none⟩)] (w4.drewN m) fun e w' => e = .returned (.int .i64 (L2.length : Int)) ∧ ∃ m', w' = (w4.drewN m).drewN m') :=
            fun m => (len_s (hB4.drewN m).pile).mono fun e w' ⟨h1, h2⟩ => ⟨h1, 0, by rw [← h2]; rfl⟩
          have HSame : Hid (∀ m, Calls Try.prog 15 #[.slice A17 L2.length c17, .slice Ar L2.length capr] (w4.drewN m) fun e w' => e = .returned (.bool true) ∧ ∃ m', w' = (w4.drewN m).drewN m') :=
            fun m => same_any (hi17.drewN m) (hRr.items.drewN m) (by omega)
          have o1 := (hB4.sys.obj _ (List.mem_cons_self ..)).1
          have o2 := (hB4.sys.obj _ (List.mem_cons_of_mem _ (List.mem_cons_self ..))).1
          dsimp only at o1 o2
          have q0 := (blk_cell o1 0).trans (show _ = some (Value.int .i64 0) from rfl)
          have p0 := (blk_cell o2 0).trans (show _ = some (Value.int .i64 0) from rfl)
          have q1 := (blk_cell o1 1).trans (show _ = some (Value.int .i64 0) from rfl)
          have p1 := (blk_cell o2 1).trans (show _ = some (Value.int .i64 0) from rfl)
          have q2 := (blk_cell o1 2).trans (show _ = some (Value.int .i64 0) from rfl)
          have p2 := (blk_cell o2 2).trans (show _ = some (Value.int .i64 0) from rfl)
          have HB4 := Lib.hid hB4
          have HO := Lib.hid ho17
          clear hB4 o1 o2 ho17 hi17 hRr
          dsimp only at HO
          generalize hn2 : L2.length = n2 at *
          have HN2 := Lib.hid hn2
          clear hn2
          have hne : ((n2 : Int) != (n2 : Int)) = false := by simp
          go_wp2_with fail
          go_quiet ((first | (go_at_call 18; exact Calls.quiet_of (HLen.out _)) | (go_at_call 15; exact Calls.quiet_of (HSame.out _))))
          clear HLen HSame q0 q1 q2 p0 p1 p2 hcr
          go_wp2
          have HS0 : Hid (ZRel w A17 c17 n2 (k + 1) (w4.drewN nq)) := ⟨L2, r2, L2, HN2.out, (HB4.out.less (os' := []) (fun _ h => by cases h) (fun _ h => h)).drewN nq, by rw [HN2.out]; exact hl2⟩
          clear HB4 HO
          go_loopw [128] (fun v wx => ∃ i : Nat, i ≤ n2 ∧ v = .int .i64 (i : Int) ∧ ZRel w A17 c17 n2 (k + 1) wx) (fun v _ => n2 - (intOf v).toNat)
          case atStart => exact ⟨0, by omega, rfl, HS0.out⟩
          case round =>
            obtain ⟨i, hi, rfl, hz⟩ := hrel
            have HZ := Lib.hid hz
            clear HS0
            by_cases hlt2 : i < n2
            · obtain ⟨L, r3, s3, hL, hB3, hl3⟩ := hz
              obtain ⟨g, c', he, z0, z1, z2, zf⟩ := hB3.rowcells hL hlt2
              cases he
              have HP : Hid (ZRel w (some ⟨g, 0, none⟩) c17 n2 (k + 1) (put3 wr g i ⟨0, 0, 0⟩)) := ⟨L.set i ⟨0, 0, 0⟩, r3, s3, by simp [hL], hB3.put hL hlt2 _, hl3⟩
              unfold put3 at HP
              clear hB3 HZ
              go_wp2
              exact ⟨⟨i + 1, by omega, by go_num, HP.out⟩, by simp [intOf]; omega⟩
            · have HP : Hid (PlRel w (k + 1) wr) := by
                obtain ⟨L, r3, s3, hL, hB3, hl3⟩ := hz
                exact ⟨r3, s3, hB3.less (fun _ h => h) (fun _ h => by cases h), hl3⟩
              clear hz HZ
              go_wp2
              exact ⟨⟨k + 1, by omega, by go_num, HP.out⟩, by simp [intOf]; omega⟩
        | cons y t2 =>
          obtain ⟨y0, y1, y2⟩ := y
          have hlen2 : (⟨y0, y1, y2⟩ :: t2 : List It).length ≤ 9999 := by simp at hl2 ⊢; try omega
          go_wp2_with fail
          refine (top_s hB.pile).mono ?_
          rintro e w2 ⟨rfl, hb2⟩
          have hB2 := (hB.later hb2 (Nat.le_refl _)).alloc (.cells #[.int .i64 y0, .int .i64 y1, .int .i64 y2] 32)
          obtain ⟨A2, hR2⟩ := hB2.ref
          have HB2 := Lib.hid hB2
          have HR2 := Lib.hid hR2
          clear hB hb2 hB2 hR2
          go_wp2_with fail
          refine (rtop_some HR2.out).mono ?_
          rintro e w3 ⟨rfl, hb3⟩
          have hB3 := (HB2.out.later hb3 (Nat.le_refl _)).alloc (.cells #[.int .i64 y0, .int .i64 y1, .int .i64 y2] 37)
          have HB3 := Lib.hid hB3
          clear hb3 hB3 HR2 HB2
          go_wp2_with fail
          refine (all_any HB3.out.pile hlen2).mono ?_
          rintro e w4 hq4
          obtain ⟨v17, rfl, hB4⟩ := HB3.out.all hq4
          clear hq4 HB3
          generalize hL2 : (⟨y0, y1, y2⟩ :: t2 : List It) = L2 at hB4 hlen2 hl2
          have HL2 := Lib.hid hL2
          clear hL2
          obtain ⟨A17, c17, rfl, _⟩ := hB4.sys.cells (List.mem_cons_self ..)
          have ho17 := (hB4.sys.row _ (List.mem_cons_self ..)).1
          have hi17 : ItemsAt w4 A17 L2 := by
            rcases ho17.2 with ⟨e, h0⟩ | ⟨g, cap, cur, e, _⟩
            · intro j hj
              simp only at h0
              omega
            · simp only at e ho17
              cases e
              exact row_items ho17
          obtain ⟨Ar, hRr⟩ := hB4.ref
          obtain ⟨capr, hcr, _, _⟩ := hRr.cell
          have HLen : Hid (∀ m, Calls Try.prog 18 #[.pointer (some ⟨w.heap.size, 0, none⟩)] (w4.drewN m) fun e w' => e = .returned (.int .i64 (L2.length : Int)) ∧ ∃ m', w' = (w4.drewN m).drewN m') :=
            fun m => (len_s (hB4.drewN m).pile).mono fun e w' ⟨h1, h2⟩ => ⟨h1, 0, by rw [← h2]; rfl⟩
          have HSame : Hid (∀ m, Calls Try.prog 15 #[.slice A17 L2.length c17, .slice Ar L2.length capr] (w4.drewN m) fun e w' => e = .returned (.bool true) ∧ ∃ m', w' = (w4.drewN m).drewN m') :=
            fun m => same_any (hi17.drewN m) (hRr.items.drewN m) (by omega)
          have o1 := (hB4.sys.obj _ (List.mem_cons_self ..)).1
          have o2 := (hB4.sys.obj _ (List.mem_cons_of_mem _ (List.mem_cons_self ..))).1
          dsimp only at o1 o2
          have q0 := (blk_cell o1 0).trans (show _ = some (Value.int .i64 y0) from rfl)
          have p0 := (blk_cell o2 0).trans (show _ = some (Value.int .i64 y0) from rfl)
          have q1 := (blk_cell o1 1).trans (show _ = some (Value.int .i64 y1) from rfl)
          have p1 := (blk_cell o2 1).trans (show _ = some (Value.int .i64 y1) from rfl)
          have q2 := (blk_cell o1 2).trans (show _ = some (Value.int .i64 y2) from rfl)
          have p2 := (blk_cell o2 2).trans (show _ = some (Value.int .i64 y2) from rfl)
          have HB4 := Lib.hid hB4
          have HO := Lib.hid ho17
          clear hB4 o1 o2 ho17 hi17 hRr
          dsimp only at HO
          generalize hn2 : L2.length = n2 at *
          have HN2 := Lib.hid hn2
          clear hn2
          have hne : ((n2 : Int) != (n2 : Int)) = false := by simp
          go_wp2_with fail
          go_quiet ((first | (go_at_call 18; exact Calls.quiet_of (HLen.out _)) | (go_at_call 15; exact Calls.quiet_of (HSame.out _))))
          clear HLen HSame q0 q1 q2 p0 p1 p2 hcr
          go_wp2
          have HS0 : Hid (ZRel w A17 c17 n2 (k + 1) (w4.drewN nq)) := ⟨L2, r2, L2, HN2.out, (HB4.out.less (os' := []) (fun _ h => by cases h) (fun _ h => h)).drewN nq, by rw [HN2.out]; exact hl2⟩
          clear HB4 HO
          go_loopw [128] (fun v wx => ∃ i : Nat, i ≤ n2 ∧ v = .int .i64 (i : Int) ∧ ZRel w A17 c17 n2 (k + 1) wx) (fun v _ => n2 - (intOf v).toNat)
          case atStart => exact ⟨0, by omega, rfl, HS0.out⟩
          case round =>
            obtain ⟨i, hi, rfl, hz⟩ := hrel
            have HZ := Lib.hid hz
            clear HS0
            by_cases hlt2 : i < n2
            · obtain ⟨L, r3, s3, hL, hB3, hl3⟩ := hz
              obtain ⟨g, c', he, z0, z1, z2, zf⟩ := hB3.rowcells hL hlt2
              cases he
              have HP : Hid (ZRel w (some ⟨g, 0, none⟩) c17 n2 (k + 1) (put3 wr g i ⟨0, 0, 0⟩)) := ⟨L.set i ⟨0, 0, 0⟩, r3, s3, by simp [hL], hB3.put hL hlt2 _, hl3⟩
              unfold put3 at HP
              clear hB3 HZ
              go_wp2
              exact ⟨⟨i + 1, by omega, by go_num, HP.out⟩, by simp [intOf]; omega⟩
            · have HP : Hid (PlRel w (k + 1) wr) := by
                obtain ⟨L, r3, s3, hL, hB3, hl3⟩ := hz
                exact ⟨r3, s3, hB3.less (fun _ h => h) (fun _ h => by cases h), hl3⟩
              clear hz HZ
              go_wp2
              exact ⟨⟨k + 1, by omega, by go_num, HP.out⟩, by simp [intOf]; omega⟩
    · have HBel : Hid (Below w.heap.size w wr) := by
        obtain ⟨r, s, hB, hsl⟩ := HS.out
        exact hB.below
      go_wp2
      go_ret
      exact ⟨rfl, HBel.out⟩
end Go.Proofs.Ytdhpphkkpjldfab
