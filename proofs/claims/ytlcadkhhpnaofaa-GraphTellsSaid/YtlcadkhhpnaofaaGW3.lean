/-
  Add.
-/
import Derived.Test.YtlcadkhhpnaofaaGW2
import Derived.Deep.RegionHeld3
namespace Go.Proofs.Ytlcadkhhpnaofaa
set_option maxRecDepth 100000
open Go Go.RowKit Gq

/-- A row's new head is laid into the table. -/
theorem gat_put {w W1 W2 : World} {b a : Nat} {R : Gr} {S : Nat → Prop} {A : Value} {Vs : List Value} {T : Option Nat} {g cap : Nat} {ys : List Nat} {v' : Value}
    (hc : w.cell? ⟨b, 0, none⟩ = some A) (hf : w.frozen? ⟨b, 0, none⟩ = false) (ht : Tab w A Vs R T) (hn : T ≠ some b) (hb : S b) (hT : ∀ g, T = some g → S g)
    (hr : ∀ i, i < R.length → ∀ k, (hd Vs i).ownBlock = some k → S k ∧ k ≠ b) (hlt : ∀ k, S k → k < w.heap.size) (ha : a < R.length)
    (hA : A = .slice (some ⟨g, 0, none⟩) R.length cap) (hg : T = some g) (hs : Still w W1) (hi : InsPost W1 (hd Vs a) ys (.returned v') W2) :
    ∃ S', GAt (W2.setCell ⟨g, a, none⟩ v') b (R.set a ys) S' ∧ (∀ k, S' k → S k ∨ w.heap.size ≤ k) ∧ Kept S w (W2.setCell ⟨g, a, none⟩ v') := by
  obtain ⟨v'', he, hrow, hown, hnn, hk⟩ := hi
  cases he
  have hVl : Vs.length = R.length := by have := ht.own.1; omega
  have hgb : g ≠ b := fun e => hn (by rw [hg, e])
  have hglt : g < w.heap.size := hlt g (hT g hg)
  have hblt : b < w.heap.size := hlt b hb
  have hsz1 := hs.size
  have hsz2 := hk.size
  have hva : ∀ k, (hd Vs a).ownBlock = some k → S k ∧ k ≠ b ∧ k ≠ g := fun k h => ⟨(hr a ha k h).1, (hr a ha k h).2, fun e => ((ht.row a ha).2 k h).1 (by rw [hg, e])⟩
  have hv' : ∀ k, v'.ownBlock = some k → (hd Vs a).ownBlock = some k ∨ k = W1.heap.size := by
    intro k h
    rcases hown with e | e
    · exact .inl (by rw [← e, h])
    · exact .inr (by rw [h] at e; simpa using e)
  have hv'g : ∀ k, v'.ownBlock = some k → k ≠ g ∧ k ≠ b := by
    intro k h
    rcases hv' k h with h1 | h1
    · exact ⟨(hva k h1).2.2, (hva k h1).2.1⟩
    · constructor <;> omega
  have hK1 : Kept (fun k => (hd Vs a).ownBlock = some k) w W2 := hs.trans (X := fun _ => False) (Y := fun _ => False) (Kept.refl _ _) (fun _ _ => id) |>.mono (fun _ _ h => h.elim) |>.trans hk (fun _ _ h => h)
  have hK2 : Kept S w (W2.setCell ⟨g, a, none⟩ v') := (hK1.mono (Y := S) (fun k _ h => (hva k h).1)).setCell (p := ⟨g, a, none⟩) (.inl (hT g hg)) v'
  have hKg : Kept (fun k => k = g) W2 (W2.setCell ⟨g, a, none⟩ v') := (Kept.refl (fun k => k = g) W2).setCell (p := ⟨g, a, none⟩) (.inl rfl) v'
  refine ⟨fun k => S k ∨ v'.ownBlock = some k, ⟨A, Vs.set a v', T, ?_, ?_, ⟨?_, ht.blk, ?_⟩, hn, .inl hb, fun k h => .inl (hT k h), ?_, ?_⟩, ?_, hK2⟩
  · exact hKg.cell (hK1.cell hc (fun h => (hva b h).2.1 rfl)) (fun h => hgb h.symm)
  · rw [hKg.frozen (p := ⟨b, 0, none⟩) (Nat.lt_of_lt_of_le hblt hK1.size) (fun h => hgb h.symm), hK1.frozen (p := ⟨b, 0, none⟩) hblt (fun h => (hva b h).2.1 rfl)]
    exact hf
  · have h1 := hK1.row ht.own (fun k h => by
      intro h2
      have : k = g := by rw [ht.blk, hg] at h; simpa using h.symm
      exact (hva k h2).2.2 this)
    rw [List.length_set]
    rw [hA] at h1 ⊢
    exact (World.ownsRow.stored h1 a v').1
  · intro i hi
    rw [List.length_set] at hi
    rw [hd_set (by omega), row_set ha]
    by_cases e : i = a
    · rw [if_pos e, if_pos e]
      refine ⟨hrow.kept hKg (fun k h => (hv'g k h).1), fun k h => ⟨fun e2 => (hv'g k h).1 (by rw [hg] at e2; simpa using e2.symm), fun j hj hji h2 => ?_⟩⟩
      rw [List.length_set] at hj
      rw [hd_set (by omega), if_neg (by omega)] at h2
      rcases hv' k h with h3 | h3
      · exact ((ht.row a ha).2 k h3).2 j hj (by omega) h2
      · have := ((ht.row j hj).1.lt h2)
        omega
    · rw [if_neg e, if_neg e]
      have h0 := ht.row i hi
      refine ⟨(h0.1.kept hK1 (fun k h h2 => (h0.2 k h).2 a ha (fun e2 => e e2.symm) h2)).kept hKg (fun k h e2 => (h0.2 k h).1 (by rw [hg, e2])), fun k h => ⟨(h0.2 k h).1, fun j hj hji h2 => ?_⟩⟩
      rw [List.length_set] at hj
      rw [hd_set (by omega)] at h2
      split at h2
      · rcases hv' k h2 with h3 | h3
        · exact (h0.2 k h).2 a ha (fun e2 => e e2.symm) h3
        · have := h0.1.lt h
          omega
      · exact (h0.2 k h).2 j hj hji h2
  · intro i hi k h
    rw [List.length_set] at hi
    rw [hd_set (by omega)] at h
    split at h
    · exact ⟨.inr h, (hv'g k h).2⟩
    · exact ⟨.inl (hr i hi k h).1, (hr i hi k h).2⟩
  · intro k h
    rcases h with h | h
    · exact Nat.lt_of_lt_of_le (hlt k h) hK2.size
    · have := hrow.lt h
      simpa [World.setCell] using this
  · intro k h
    rcases h with h | h
    · exact .inl h
    · rcases hv' k h with h1 | h1
      · exact .inl (hva k h1).1
      · exact .inr (by omega)

/-- Behind Add. -/
def AddPost (w : World) (b : Nat) (R' : Gr) (S : Nat → Prop) (e : Ending) (w' : World) : Prop :=
  e = .returned (.int .i64 0) ∧ ∃ S', GAt w' b R' S' ∧ (∀ k, S' k → S k ∨ w.heap.size ≤ k) ∧ Kept S w w'

theorem add_out {w : World} {b : Nat} {R : Gr} {S : Nat → Prop} (h : GAt w b R S) {a x : Int} (hax : ¬ (isNode R.length a = true ∧ isNode R.length x = true ∧ a ≠ x)) :
    Calls Try.prog 8 #[.pointer (some ⟨b, 0, none⟩), .int .i64 a, .int .i64 x] w fun e w' => e = .returned (.int .i64 20) ∧ w' = w := by
  have HA := Lib.hid (has_any h a)
  have HX := Lib.hid (has_any h x)
  clear h
  generalize R.length = n at *
  cases h1 : isNode n a with
  | false =>
    rw [h1] at HA
    clear hax h1
    go_enter Try.func8, Try.ntmps8
    go_wp2_with fail
    refine HA.out.mono ?_
    rintro e w' ⟨rfl, rfl⟩
    go_wp2
    go_ret
    exact ⟨rfl, rfl⟩
  | true =>
    rw [h1] at HA
    cases h2 : isNode n x with
    | false =>
      rw [h2] at HX
      clear hax h1 h2
      go_enter Try.func8, Try.ntmps8
      go_wp2_with fail
      refine HA.out.mono ?_
      rintro e w' ⟨rfl, rfl⟩
      go_wp2_with fail
      refine HX.out.mono ?_
      rintro e w' ⟨rfl, rfl⟩
      go_wp2
      go_ret
      exact ⟨rfl, rfl⟩
    | true =>
      rw [h2] at HX
      have e : a = x := by
        rcases Decidable.em (a = x) with h3 | h3
        · exact h3
        · exact absurd ⟨h1, h2, h3⟩ hax
      clear hax h1 h2
      subst e
      go_enter Try.func8, Try.ntmps8
      go_wp2_with fail
      refine HA.out.mono ?_
      rintro e w' ⟨rfl, rfl⟩
      go_wp2_with fail
      refine HX.out.mono ?_
      rintro e w' ⟨rfl, rfl⟩
      go_wp2
      go_ret
      exact ⟨rfl, rfl⟩
theorem add_nil (w : World) (a x : Int) :
    Calls Try.prog 8 #[.pointer none, .int .i64 a, .int .i64 x] w fun e w' => e = .returned (.int .i64 20) ∧ w' = w := by
  go_enter Try.func8, Try.ntmps8
  go_wp2_with fail
  refine (has_nil _ _).mono ?_
  rintro e w' ⟨rfl, rfl⟩
  go_wp2
  go_ret
  exact ⟨rfl, rfl⟩

set_option maxHeartbeats 2000000 in
theorem add_any {w : World} {b : Nat} {R : Gr} {S : Nat → Prop} (h : GAt w b R S) (hO : Ok R) {a x : Nat} (ha : a < R.length) (hx : x < R.length) (hne : a ≠ x) :
    Calls Try.prog 8 #[.pointer (some ⟨b, 0, none⟩), .int .i64 (a : Int), .int .i64 (x : Int)] w (AddPost w b (addE R a x) S) := by
  have hna : isNode R.length (a : Int) = true := by simp [isNode, ha]
  have hnx : isNode R.length (x : Int) = true := by simp [isNode, hx]
  have HA := Lib.hid (has_any h (a : Int))
  have HX := Lib.hid (has_any h (x : Int))
  rw [hna] at HA
  rw [hnx] at HX
  have h' := h
  obtain ⟨A, Vs, T, hc, hf, ht, hn, hb, hT, hr, hlt⟩ := h
  obtain ⟨g, cap, hA, hg, hc2, hf2⟩ := ht.head ha
  have hlen := hO.len a
  have hsize := hO.size
  have HR := Lib.hid (search_any (ht.row a ha).1 (by omega) (hO.rise a) x)
  have hgb : g ≠ b := fun e => hn (by rw [hg, e])
  have hdec : decide ((a : Int) = (x : Int)) = false := by simp; omega
  by_cases hmem : x ∈ row R a
  · -- it is there already
    have HD : Hid (∀ q, AddPost w b (addE R a x) S (.returned (.int .i64 0)) (w.drewN q)) := by
      intro q
      refine ⟨rfl, S, ?_, fun k hk => .inl hk, (Kept.refl S w).drewN q⟩
      have : addE R a x = R := by
        unfold addE
        rw [insN_same (hO.rise a) hmem]
        apply List.ext_getElem?
        intro i
        rw [List.getElem?_set]
        split
        · rename_i e
          subst e
          simp [ha, row, List.getD]
        · rfl
      rw [this]
      exact h'.drewN q
    have hm : decide (x ∈ row R a) = true := decide_eq_true hmem
    rw [hm] at HR
    subst hA
    clear h' ht hf hf2 hO hr hlt hT hb hna hnx hmem hm
    generalize R.length = n at *
    generalize hd Vs a = v at *
    go_enter Try.func8, Try.ntmps8
    go_wp2_with fail
    refine HA.out.mono ?_
    rintro e w' ⟨rfl, rfl⟩
    go_wp2_with fail
    refine HX.out.mono ?_
    rintro e w' ⟨rfl, rfl⟩
    go_wp2_with fail
    refine HR.out.mono ?_
    rintro e w' ⟨rfl, q, rfl⟩
    go_wp2
    go_ret
    exact HD.out q
  · have hm : decide (x ∈ row R a) = false := decide_eq_false hmem
    rw [hm] at HR
    have hkl : (row R a).countP (· < x) ≤ (row R a).length := List.countP_le_length
    have HI : Hid (∀ q, Calls Try.prog 28 #[hd Vs a, .int .i64 (((row R a).countP (· < x) : Nat) : Int), .slice (some ⟨w.heap.size, 0, none⟩) 1 1] ((w.drewN (q + 1)).alloc (.cells #[.int .i64 (x : Int)] 3))
        fun e W2 => ∃ g' n' c', e = .returned (.slice (some ⟨g', 0, none⟩) n' c') ∧ W2.cell? ⟨b, 0, none⟩ = some A ∧ W2.cell? ⟨g, a, none⟩ = some (hd Vs a) ∧ W2.frozen? ⟨g, a, none⟩ = false ∧ AddPost w b (addE R a x) S (.returned (.int .i64 0)) (W2.setCell ⟨g, a, none⟩ (.slice (some ⟨g', 0, none⟩) n' c'))) := by
      intro q
      have hs : Still w ((w.drewN (q + 1)).alloc (.cells #[.int .i64 (x : Int)] 3)) := ((Kept.refl _ w).drewN (q + 1)).alloc _
      refine (insert_any (((ht.row a ha).1).still hs) hkl (by omega) (heap_alloc_new (w.drewN (q + 1)) _) (fun e => by
        have := (ht.row a ha).1.lt e
        exact Nat.lt_irrefl _ this) 1).mono fun e W2 hi => ?_
      have hi' := hi
      obtain ⟨v', rfl, hrow, hown, hnn, hk⟩ := hi'
      obtain ⟨g', c', rfl⟩ : ∃ g' c', v' = .slice (some ⟨g', 0, none⟩) ((row R a).take ((row R a).countP (· < x)) ++ x :: (row R a).drop ((row R a).countP (· < x))).length c' := by
        rcases hrow.2 with ⟨rfl, _⟩ | ⟨g', c', _, rfl, _⟩
        · exact absurd rfl hnn
        · exact ⟨g', c', rfl⟩
      have hK1 : Kept (fun k => (hd Vs a).ownBlock = some k) w W2 := (hs.mono (fun _ _ h => h.elim)).trans hk (fun _ _ h => h)
      have hag : ¬ (hd Vs a).ownBlock = some g := fun h2 => ((ht.row a ha).2 g h2).1 hg
      refine ⟨g', _, c', rfl, hK1.cell hc (fun h2 => (hr a ha b h2).2 rfl), ?_, ?_, rfl, ?_⟩
      · exact hK1.cell hc2 hag
      · rw [hK1.frozen (p := ⟨g, a, none⟩) (hlt g (hT g hg)) hag]; exact hf2
      · have := gat_put hc hf ht hn hb hT hr hlt ha hA hg hs hi
        unfold addE
        rw [insN_new (hO.rise a) hmem]
        exact this
    have hA1 : ∀ k o, ((w.drewN k).alloc o).cell? ⟨b, 0, none⟩ = some A := fun k o => (((Kept.refl (fun _ => False) w).drewN k).alloc o).cell hc id
    have hA2 : ∀ k o, ((w.drewN k).alloc o).cell? ⟨g, a, none⟩ = some (hd Vs a) := fun k o => (((Kept.refl (fun _ => False) w).drewN k).alloc o).cell hc2 id
    subst hA
    clear h' ht hf hO hr hlt hT hb hna hnx hmem hm
    generalize R.length = n at *
    generalize hd Vs a = v at *
    generalize (row R a).countP (· < x) = k at *
    go_enter Try.func8, Try.ntmps8
    go_wp2_with fail
    refine HA.out.mono ?_
    rintro e w' ⟨rfl, rfl⟩
    go_wp2_with fail
    refine HX.out.mono ?_
    rintro e w' ⟨rfl, rfl⟩
    go_wp2_with fail
    refine HR.out.mono ?_
    rintro e w' ⟨rfl, q, rfl⟩
    have HI2 := Lib.hid (HI.out q)
    clear HI HR HA HX
    go_wp2_with fail
    go_region_with (with_reducible refine HI2.out.mono ?_; rintro e W2 ⟨g', n', c', rfl, hcb, hcg, hfg, hpost⟩; have HPOST := Lib.hid hpost; clear hpost)
    all_goals
      go_wp2
      go_ret
      exact HPOST.out
end Go.Proofs.Ytlcadkhhpnaofaa
