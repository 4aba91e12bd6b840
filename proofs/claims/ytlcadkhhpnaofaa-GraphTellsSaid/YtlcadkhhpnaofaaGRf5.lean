/-
  The document's Joints: its walk.
-/
import Derived.Test.YtlcadkhhpnaofaaGRf4
import Derived.Test.YtlcadkhhpnaofaaGJn0
namespace Go.Proofs.Ytlcadkhhpnaofaa
set_option maxRecDepth 100000
open Go Go.RowKit Gq

/-- The document's graph says the edges of R. -/
def Says (E : Nat → Nat → Bool) (R : Gr) : Prop := ∀ b c, b < R.length → c < R.length → (E b c = true ↔ c ∈ row R b)

theorem rch_congr {A B : Nat → Nat → Prop} {n a : Nat} (h : ∀ b c, b < n → c < n → (A b c ↔ B b c)) (x : Nat) : RchA A n a x ↔ RchA B n a x := by
  constructor
  · intro hr
    induction hr with
    | refl => exact .refl
    | tail _ hb hc hA ih => exact .tail ih hb hc ((h _ _ hb hc).1 hA)
  · intro hr
    induction hr with
    | refl => exact .refl
    | tail _ hb hc hA ih => exact .tail ih hb hc ((h _ _ hb hc).2 hA)
theorem rel_loose {E : Nat → Nat → Bool} {R : Gr} (hE : Says E R) (hO : Ok R) (wo : Int) {b c : Nat} (hb : b < R.length) (hc : c < R.length) : RelR E true wo b c ↔ c ∈ adj R b ∧ (c : Int) ≠ wo := by
  unfold RelR
  rw [mem_adj hO, hE b c hb hc, hE c b hc hb]
  simp
theorem loose_all {E : Nat → Nat → Bool} {R : Gr} (hE : Says E R) (hO : Ok R) {a : Nat} (x : Nat) : RchA (RelR E true (-1)) R.length a x ↔ Joined R a x := by
  rw [rch_congr (B := fun b c => c ∈ adj R b) (fun b c hb hc => by rw [rel_loose hE hO _ hb hc]; exact ⟨fun h => h.1, fun h => ⟨h, by omega⟩⟩)]
  exact rch_joined hO x
theorem loose_less {E : Nat → Nat → Bool} {R : Gr} (hE : Says E R) (hO : Ok R) {a v : Nat} (ha : a ≠ v) (x : Nat) : RchA (RelR E true (v : Int)) R.length a x ↔ Con R v a x := by
  rw [rch_congr (B := fun b c => c ∈ adj R b ∧ c ≠ v) (fun b c hb hc => by rw [rel_loose hE hO _ hb hc]; exact ⟨fun h => ⟨h.1, by omega⟩, fun h => ⟨h.1, by omega⟩⟩)]
  exact rch_con hO ha x

/-- What the inner loop has found out of node a. -/
def FlS (R : Gr) (a b : Nat) (fi : Int) (fl : Bool) (rv : Value) (wr : World) : Prop :=
  (fi = -1 ∧ fl = false ∧ rv = .slice none 0 0 ∧ ∀ z, z < b → z = a ∨ ¬ Joined R a z) ∨
  ∃ x0 g D, fi = ((x0 : Nat) : Int) ∧ x0 ≠ a ∧ Joined R a x0 ∧ rv = .slice (some ⟨g, 0, none⟩) R.length R.length ∧ wr.heap[g]? = some (.cells (ic D) 3 (0, 0)) ∧ D.length = R.length ∧ (∀ x, 0 ≤ dg D x ↔ Con R a x0 x) ∧
    (fl = true ↔ ∃ z, z < b ∧ z ≠ a ∧ Joined R a z ∧ ¬ Con R a x0 z)
theorem FlS.pass {R : Gr} {a b : Nat} {fi : Int} {fl : Bool} {rv : Value} {wr : World} (h : FlS R a b fi fl rv wr) (hb : b = a ∨ ¬ Joined R a b) : FlS R a (b + 1) fi fl rv wr := by
  rcases h with ⟨h1, h2, h3, h4⟩ | ⟨x0, g, D, h1, h2, h3, h4, h5, h6, h7, h8⟩
  · refine .inl ⟨h1, h2, h3, fun z hz => ?_⟩
    by_cases e : z = b
    · subst e; exact hb
    · exact h4 z (by omega)
  · refine .inr ⟨x0, g, D, h1, h2, h3, h4, h5, h6, h7, h8.trans ⟨?_, ?_⟩⟩
    · rintro ⟨z, hz, h⟩
      exact ⟨z, by omega, h⟩
    · rintro ⟨z, hz, h9, h10, h11⟩
      by_cases e : z = b
      · subst e
        rcases hb with hb | hb
        · exact absurd hb h9
        · exact absurd h10 hb
      · exact ⟨z, by omega, h9, h10, h11⟩
theorem FlS.step {R : Gr} {a b x0 g : Nat} {D : List Int} {fl fl' : Bool} {wr : World} (h1 : x0 ≠ a) (h2 : Joined R a x0) (h3 : wr.heap[g]? = some (.cells (ic D) 3 (0, 0))) (h4 : D.length = R.length) (h5 : ∀ x, 0 ≤ dg D x ↔ Con R a x0 x)
    (h6 : fl = true ↔ ∃ z, z < b ∧ z ≠ a ∧ Joined R a z ∧ ¬ Con R a x0 z) (hba : b ≠ a) (hj : Joined R a b) (hf : fl' = true ↔ fl = true ∨ dg D b < 0) : FlS R a (b + 1) ((x0 : Nat) : Int) fl' (.slice (some ⟨g, 0, none⟩) R.length R.length) wr := by
  refine .inr ⟨x0, g, D, rfl, h1, h2, rfl, h3, h4, h5, hf.trans ?_⟩
  have hneg : dg D b < 0 ↔ ¬ Con R a x0 b := by rw [← h5]; omega
  rw [hneg, h6]
  constructor
  · rintro (⟨z, hz, h⟩ | h)
    · exact ⟨z, by omega, h⟩
    · exact ⟨b, by omega, hba, hj, h⟩
  · rintro ⟨z, hz, h9, h10, h11⟩
    by_cases e : z = b
    · subst e; exact .inr h11
    · exact .inl ⟨z, by omega, h9, h10, h11⟩
theorem FlS.cut {R : Gr} (hO : Ok R) {a : Nat} (ha : a < R.length) {fi : Int} {fl : Bool} {rv : Value} {wr : World} (h : FlS R a R.length fi fl rv wr) : fl = true ↔ Cut R a := by
  have hn : ∀ x, Joined R a x → x < R.length := fun x hj => by
    by_cases e : x = a
    · rw [e]; exact ha
    · have h' := hj.symm hO
      cases h' with
      | refl _ => exact absurd rfl e
      | head _ h1 _ => exact adj_lt hO (adj_symm hO h1)
  rcases h with ⟨_, rfl, _, h4⟩ | ⟨x0, g, D, _, h2, h3, _, _, _, _, h8⟩
  · have := cut_none hO (v := a) (fun x hj => (h4 x (hn x hj)).resolve_right (fun h => h hj))
    simp [this]
  · rw [h8, cut_first hO h2 h3]
    exact ⟨fun ⟨z, _, h⟩ => ⟨z, h⟩, fun ⟨z, h9, h10, h11⟩ => ⟨z, hn z h10, h9, h10, h11⟩⟩

open Classical in
noncomputable def cutK (R : Gr) (k : Nat) : List Nat := (List.range k).filter (fun a => decide (Cut R a))
theorem cutK_hit {R : Gr} {k : Nat} (h : Cut R k) : cutK R (k + 1) = cutK R k ++ [k] := by simp [cutK, List.range_succ, List.filter_append, h]
theorem cutK_miss {R : Gr} {k : Nat} (h : ¬ Cut R k) : cutK R (k + 1) = cutK R k := by simp [cutK, List.range_succ, List.filter_append, h]
theorem cutK_le (R : Gr) (k : Nat) : (cutK R k).length ≤ k := Nat.le_trans (List.length_filter_le _ _) (by simp)
theorem cutK_all {R : Gr} (hO : Ok R) : cutK R R.length = joiF R := by
  refine rise_ext ?_ (joi_rise hO) fun x => ?_
  · exact List.Pairwise.filter _ (by rw [List.range_eq_range']; exact List.pairwise_lt_range' (step := 1))
  · rw [mem_joi hO]
    simp [cutK]

set_option maxHeartbeats 4000000 in
theorem rJoints_any {w : World} {r : Nat} {E : Nat → Nat → Bool} {Z : Nat → Prop} {R : Gr} (h : RAt w r R.length E Z) (hO : Ok R) (hE : Says E R) :
    Calls Try.prog 22 #[.pointer (some ⟨r, 0, none⟩)] w (RefL w (joiF R)) := by
  obtain ⟨i0, hi, hz0, hz1, hz2⟩ := info_parts Try.infoInt
  have hn := hO.size
  have HR := Lib.hid h
  have HO := Lib.hid hO
  have HP : Hid (∀ W', Below w.heap.size w W' → ∀ a, a < R.length → Calls Try.prog 14 #[.pointer (some ⟨r, 0, none⟩), .int .i64 (a : Int), .bool true, .int .i64 (-1)] W' fun e w' => ∃ g D, e = .returned (.slice (some ⟨g, 0, none⟩) R.length R.length) ∧ w'.heap[g]? = some (.cells (ic D) 3 (0, 0)) ∧ D.length = R.length ∧ (∀ x, 0 ≤ dg D x ↔ Joined R a x) ∧ Below W'.heap.size W' w') := by
    intro W' hW' a ha
    refine (rDist_any (h.still (Kept.of_below hW' (Nat.le_refl _))) hn ha true (-1)).mono ?_
    rintro e w' ⟨g, D, rfl, hd, hf⟩
    exact ⟨g, D, rfl, hd.blk, hf.len, fun x => (hf.reach x).trans (loose_all hE hO x), hd.be⟩
  have HL : Hid (∀ W', Below w.heap.size w W' → ∀ a b, a < R.length → b < R.length → b ≠ a → Calls Try.prog 14 #[.pointer (some ⟨r, 0, none⟩), .int .i64 (b : Int), .bool true, .int .i64 (a : Int)] W' fun e w' => ∃ g D, e = .returned (.slice (some ⟨g, 0, none⟩) R.length R.length) ∧ w'.heap[g]? = some (.cells (ic D) 3 (0, 0)) ∧ D.length = R.length ∧ (∀ x, 0 ≤ dg D x ↔ Con R a b x) ∧ dg D b = 0 ∧ Below W'.heap.size W' w') := by
    intro W' hW' a b ha hb hba
    refine (rDist_any (h.still (Kept.of_below hW' (Nat.le_refl _))) hn hb true (a : Int)).mono ?_
    rintro e w' ⟨g, D, rfl, hd, hf⟩
    exact ⟨g, D, rfl, hd.blk, hf.len, fun x => (hf.reach x).trans (loose_less hE hO hba x), (hf.zero b).2 rfl, hd.be⟩
  clear h hO hE
  obtain ⟨n, hnn⟩ : ∃ n, n = R.length := ⟨_, rfl⟩
  rw [← hnn] at HR HP HL hn
  have HN := Lib.hid hnn
  clear hnn
  go_enter Try.func22, Try.ntmps22
  go_wp2
  go_loopw [3, 4] (fun v u wr => ∃ k : Nat, k ≤ n ∧ u = .int .i64 (k : Int) ∧ OwnL w v (cutK R k) wr) (fun _ u _ => n - (intOf u).toNat)
  case atStart => exact ⟨0, Nat.zero_le _, rfl, World.ownsRow_nil _ _ _ _, Below.refl _ _⟩
  case round =>
    obtain ⟨k, hk, rfl, ho⟩ := hrel
    have HW := Lib.hid ho
    clear ho
    obtain ⟨A, cap, hc⟩ := (HR.out.below HW.out.2).form
    have hle := cutK_le R k
    by_cases hlt : k < n
    · rename World => wa
      have HC := Lib.hid (HP.out wa HW.out.2 k hlt)
      go_wp2_with fail
      refine HC.out.mono ?_
      rintro e w1 ⟨g, D, rfl, hd1, hd2, hd3, hb1⟩
      have HD : Hid (w1.heap[g]? = some (.cells (ic D) 3 (0, 0)) ∧ D.length = n ∧ ∀ x, 0 ≤ dg D x ↔ Joined R k x) := ⟨hd1, hd2, hd3⟩
      have HB1 := Lib.hid hb1
      have HBw : Hid (Below w.heap.size w w1) := HW.out.2.trans (hb1.mono HW.out.2.size)
      clear HC hd1 hd2 hd3 hb1 hc
      go_wp2
      go_loopw [6, 7, 8, 9] (fun tf tl tr u W => ∃ (b : Nat) (fi : Int) (fl : Bool), b ≤ n ∧ u = .int .i64 (b : Int) ∧ tf = .int .i64 fi ∧ tl = .bool fl ∧ FlS R k b fi fl tr W ∧ Below w1.heap.size w1 W) (fun _ _ _ u _ => n - (intOf u).toNat)
      case atStart => exact ⟨0, -1, false, Nat.zero_le _, rfl, rfl, rfl, .inl ⟨rfl, rfl, rfl, fun z hz => by omega⟩, Below.refl _ _⟩
      case round =>
        obtain ⟨b, fi, fl, hb, rfl, rfl, rfl, hfl, hbw⟩ := hrel
        rename World => W
        have HF := Lib.hid hfl
        have HBB := Lib.hid hbw
        clear hfl hbw
        by_cases hbl : b < n
        · have b0 : (0 : Int) ≤ (b : Int) := by omega
          have b1 : (b : Int) < (n : Int) := by omega
          have fc : W.cell? ⟨g, b, none⟩ = some (.int .i64 (dg D b)) := ic_cell ((HBB.out.block g (blk_lt HD.out.1)).trans HD.out.1) (by rw [HD.out.2.1]; exact hbl)
          have HJ := Lib.hid (HD.out.2.2 b)
          generalize dg D b = y at *
          by_cases hbk : b = k
          · have d1 : (b == k) = true := by simpa using hbk
            have d2 : decide (b = k) = true := decide_eq_true hbk
            have d3 : ((b : Int) == (k : Int)) = true := by simp [hbk]
            have HQ := Lib.hid (HF.out.pass (.inl hbk))
            clear HF HJ hbk
            go_wp2
            go_roundw
            case rel => exact ⟨b + 1, fi, fl, by omega, by go_num, rfl, rfl, HQ.out, HBB.out⟩
            case measure => simp [intOf]; omega
          · have d1 : (b == k) = false := by simpa using hbk
            have d2 : decide (b = k) = false := decide_eq_false hbk
            have d3 : ((b : Int) == (k : Int)) = false := by simp; omega
            by_cases hy : y < 0
            · have d4 : decide (y < 0) = true := decide_eq_true hy
              have HQ := Lib.hid (HF.out.pass (.inr (fun h => by have := HJ.out.2 h; omega)))
              clear HF HJ hbk
              go_wp2
              go_roundw
              case rel => exact ⟨b + 1, fi, fl, by omega, by go_num, rfl, rfl, HQ.out, HBB.out⟩
              case measure => simp [intOf]; omega
            · have d4 : decide (y < 0) = false := decide_eq_false hy
              have HJo : Hid (Joined R k b) := HJ.out.1 (by omega)
              have HBK : Hid (b ≠ k) := hbk
              clear hbk HJ
              rcases HF.out with ⟨rfl, rfl, rfl, h4⟩ | ⟨x0, g0, D0, rfl, h2, h3, rfl, h5, h6, h7, h8⟩
              · have HZ := Lib.hid h4
                have HC := Lib.hid (HL.out W (HBw.out.trans (HBB.out.mono HBw.out.size)) k b hlt hbl HBK.out)
                clear HF h4
                go_wp2_with fail
                refine HC.out.mono ?_
                rintro e w2 ⟨g2, D2, rfl, hd1, hd2, hd3, hd4, hb2⟩
                have f2 : w2.cell? ⟨g2, b, none⟩ = some (.int .i64 0) := by rw [ic_cell hd1 (by rw [hd2]; exact hbl), hd4]
                have HQ : Hid (FlS R k (b + 1) ((b : Nat) : Int) false (.slice (some ⟨g2, 0, none⟩) n n) w2) := by
                  have h := FlS.step (fl := false) (fl' := false) (b := b) HBK.out HJo.out hd1 (hd2.trans HN.out) hd3 ⟨fun h => (by cases h), fun ⟨z, hz, h9, h10, _⟩ => ((HZ.out z hz).elim (fun e => absurd e h9) (fun e => absurd h10 e))⟩ HBK.out HJo.out (by rw [hd4]; simp)
                  rw [← HN.out] at h
                  exact h
                have HB2 : Hid (Below w1.heap.size w1 w2) := HBB.out.trans (hb2.mono HBB.out.size)
                clear HC HZ hd1 hd2 hd3 hd4 hb2 fc
                go_wp2
                go_roundw
                case rel => exact ⟨b + 1, (b : Int), false, by omega, by go_num, rfl, rfl, HQ.out, HB2.out⟩
                case measure => simp [intOf]; omega
              · have f2 : W.cell? ⟨g0, b, none⟩ = some (.int .i64 (dg D0 b)) := ic_cell h5 (by rw [h6, ← HN.out]; exact hbl)
                have HQ : Hid (∀ fl' : Bool, (fl' = true ↔ fl = true ∨ dg D0 b < 0) → FlS R k (b + 1) ((x0 : Nat) : Int) fl' (.slice (some ⟨g0, 0, none⟩) n n) W) := fun fl' hf => by
                  have h := FlS.step (b := b) h2 h3 h5 h6 h7 h8 HBK.out HJo.out hf
                  rw [← HN.out] at h
                  exact h
                have hx0 : (0 : Int) ≤ (x0 : Int) := by omega
                have hx1 : ¬ (x0 : Int) < 0 := by omega
                have hx2 : decide ((x0 : Int) < 0) = false := decide_eq_false hx1
                rw [← HN.out]
                clear h2 h3 h5 h6 h7 h8 HF
                generalize dg D0 b = z at *
                by_cases hz : z < 0
                · have d5 : decide (z < 0) = true := decide_eq_true hz
                  have HQ2 := Lib.hid (HQ.out true (by simp [hz]))
                  clear HQ
                  go_wp2
                  go_roundw
                  case rel => exact ⟨b + 1, (x0 : Int), true, by omega, by go_num, rfl, rfl, HQ2.out, HBB.out⟩
                  case measure => simp [intOf]; omega
                · have d5 : decide (z < 0) = false := decide_eq_false hz
                  have HQ2 := Lib.hid (HQ.out fl (by simp [hz]))
                  clear HQ
                  go_wp2
                  go_roundw
                  case rel => exact ⟨b + 1, (x0 : Int), fl, by omega, by go_num, rfl, rfl, HQ2.out, HBB.out⟩
                  case measure => simp [intOf]; omega
        · obtain rfl : b = n := by omega
          have HCu : Hid (fl = true ↔ Cut R k) := by
            have h := HF.out
            rw [HN.out] at h
            exact h.cut HO.out (by rw [← HN.out]; exact hlt)
          have HBT : Hid (Below wa.heap.size wa W) := HB1.out.trans (HBB.out.mono HB1.out.size)
          have HOn : Hid (OwnL w u3 (cutK R k) W) := ⟨(Kept.of_below (X := fun _ => False) HBT.out (Nat.le_refl _)).row HW.out.1 (fun _ _ => id), HW.out.2.trans (HBT.out.mono HW.out.2.size)⟩
          clear HF HBB HBT HD HB1 HBw HW
          cases fl with
          | true =>
            have hit := Lib.hid (cutK_hit (HCu.out.1 rfl))
            have hown := HOn.out.1
            have hnew := World.news_of_block (heap_alloc_new W (.cells #[.int .i64 (k : Int)] 3))
            have HNEW : Hid (∀ j x, [ni k][j]? = some x → (W.alloc (.cells #[.int .i64 (k : Int)] 3)).cell? ((⟨W.heap.size, 0, none⟩ : Addr).add j) = some x) := by
              show ∀ j x, _
              simpa [ni] using hnew
            clear hnew
            go_wp2_with (at_builtin; refine wpList_append_own _ rfl _ _ 34 rfl w.heap.size 3 i0 (.int .i64 0) 1 8 Try.underlying34 hi hz0 hz1 hz2 rfl (by decide) _ _ _ rfl (hown.alloc _) ⟨W.heap.size, 0, none⟩ 1 1 [ni k] rfl rfl HNEW.out (by intro u hu; simp at hu; subst hu; rfl) (by unfold maxLen; omega) (by omega) (by have := HOn.out.2.size; simp; omega) ?_; intro v' w2 hown' hgrow _)
            have hnx1 : Below w.heap.size w w2 := (HOn.out.2.alloc HOn.out.2.size _).grown hgrow (by simp; have := HOn.out.2.size; omega) (fun j hj => (hown.lt j hj).1)
            have HQ : Hid (OwnL w v' (cutK R (k + 1)) w2) := ⟨by rw [hit.out]; simpa [nis] using hown', hnx1⟩
            clear hgrow hown' hown hnx1 HOn
            go_wp2
            go_roundw
            case rel => exact ⟨k + 1, by omega, by go_num, HQ.out⟩
            case measure => simp [intOf]; omega
          | false =>
            have hit := Lib.hid (cutK_miss (fun h => by have := HCu.out.2 h; cases this))
            go_wp2
            go_roundw
            case rel => exact ⟨k + 1, by omega, by go_num, by rw [hit.out]; exact HOn.out⟩
            case measure => simp [intOf]; omega
    · obtain rfl : k = n := by omega
      have HQ : Hid (RefL w (joiF R) (.returned u3) wr) := by
        have h1 := HW.out.1
        rw [HN.out, cutK_all HO.out] at h1
        exact ⟨_, rfl, RowAt.isL (row_base h1 (Nat.zero_le _)), HW.out.2⟩
      clear HW
      go_wp2
      go_ret
      exact HQ.out
end Go.Proofs.Ytlcadkhhpnaofaa
