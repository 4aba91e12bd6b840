/-
  segment.ordered: a segment's cells, in order.
-/
import Derived.Test.YtekhlaodlagbdaaGreatDoorSgO
namespace Go.Proofs.YtekhlaodlagbdaaGreatDoor
set_option maxRecDepth 100000
set_option linter.unusedSimpArgs false
open Go Go.RowKit

theorem JX.pre {bm gm cm R C : Nat} {ms : List UInt8} {w w' : World} {o : Obj} (hE : EM bm gm cm R C ms w) (h : JX bm gm cm R C ms (w.alloc o) w') : JX bm gm cm R C ms w w' := by
  have hk := (Kept.refl (fun _ => False) w).alloc o
  obtain ⟨_, ht⟩ := hE.keptX hk (fun _ _ => id)
  have hlt := hE.lt
  have hd : DoneC bm (w.alloc o) ↔ DoneC bm w := by
    unfold DoneC
    rw [World.cell?_of_block (a := ⟨bm, 3, none⟩) (hk.block bm hlt id)]
  refine ⟨h.em, fun k hk' => ?_, ?_, h.done⟩
  · rcases h.ts k hk' with h1 | ⟨h1, h2⟩
    · exact .inl (ht k h1)
    · exact .inr ⟨Nat.le_trans hk.size h1, fun h3 => h2 (hd.2 h3)⟩
  · exact (hk.mono (fun _ _ h => h.elim)).trans h.kept (fun i _ hx => ⟨hx.1, fun h3 => hx.2 (hd.2 h3)⟩)
/-- A world in which nothing below B has turned since the map was asked. -/
theorem JX.over {bm gm cm R C : Nat} {ms : List UInt8} {w w' w'' : World} {B : Nat} (h : JX bm gm cm R C ms w w') (hb : Below B w' w'') (hT : ∀ k, TS bm gm w' k → k < B) (hB : w.heap.size ≤ B) : JX bm gm cm R C ms w w'' ∧ ∀ k, TS bm gm w'' k → k < B := by
  have hk : Kept (fun k => B ≤ k) w' w'' := ⟨hb.os, hb.tape, hb.output, hb.size, fun k _ hn => hb.block k (by omega)⟩
  have hd : ∀ k, TS bm gm w' k → ¬ B ≤ k := fun k h => by have := hT k h; omega
  exact ⟨h.own hk hd (fun k h => by omega), fun k h1 => hT k (h.ownT hk hd k h1)⟩

/-- A list that is not empty: its cells. -/
theorem row_cells {w : World} {B : Nat} {v : Value} {l : List Nat} (h : w.ownsRow B 3 1 v l.length (l.map natV)) (h0 : 0 < l.length) : ∃ g c, v = .slice (some ⟨g, 0, none⟩) l.length c ∧ B ≤ g ∧ ∀ j, j < l.length → w.cell? ⟨g, j, none⟩ = some (.int .i64 ((l.getD j 0 : Nat) : Int)) := by
  rcases h.2 with ⟨_, h1⟩ | ⟨g, cap, cur, rfl, h1, _⟩
  · omega
  · exact ⟨g, cap, rfl, h1, int_cells h⟩
theorem own_ne {W : World} {q B n : Nat} {u v : Value} {xs : List Value} (h1 : W.heap[q]? = some (.cells #[u] 36 (0, 0))) (h2 : W.ownsRow B 3 1 v n xs) : v.ownBlock ≠ some q := by
  intro e
  rcases h2.2 with ⟨rfl, _⟩ | ⟨g', cap, cur, rfl, _, hgg, _⟩
  · cases e
  · have : g' = q := by simpa [Value.ownBlock] using e
    subst this
    rw [h1] at hgg
    injection hgg with hgg
    injection hgg with _ h _
    exact absurd h (by decide)
/-- The list in the variable turns: all below it stays. -/
theorem own_below {B n : Nat} {v : Value} {xs : List Value} {w w' : World} {e : TypeId} (h : w.ownsRow B e 1 v n xs) (hk : Kept (fun k => v.ownBlock = some k) w w') (hB : B ≤ w.heap.size) : Below B w w' := hk.below (fun k hk => (h.lt k hk).1) hB
/-- What ordered leaves. -/
def OrdP (bm gm cm R C : Nat) (ms : List UInt8) (a : Nat) (w : World) (e : Ending) (w' : World) : Prop :=
  ∃ v B, e = .returned (.tuple #[v, .int .i64 (((Sg.ordF ms.length (jnF R C ms) a).2 : Nat) : Int)]) ∧ JX bm gm cm R C ms w w' ∧ w.heap.size ≤ B ∧ B ≤ w'.heap.size ∧ (∀ k, TS bm gm w' k → k < B) ∧
    w'.ownsRow B 3 1 v (Sg.ordF ms.length (jnF R C ms) a).1.length ((Sg.ordF ms.length (jnF R C ms) a).1.map natV)

/-- The beginning: the cell alone, in a list of the call's own. -/
theorem one_own (w : World) (a : Nat) : (w.alloc (.cells #[.int .i64 (a : Int)] 3)).ownsRow w.heap.size 3 1 (.slice (some ⟨w.heap.size, 0, none⟩) 1 1) 1 [natV a] :=
  ⟨rfl, .inr ⟨w.heap.size, 1, #[natV a], rfl, Nat.le_refl _, heap_alloc_new w _, Nat.le_refl _, by unfold maxLen; omega, rfl, rfl⟩⟩

set_option maxHeartbeats 2000000 in
theorem ordered_any {bm gm cm R C : Nat} {ms : List UInt8} {w : World} (hE : EM bm gm cm R C ms w) {a : Nat} (ha : a < ms.length) :
    Calls Tryz.prog 54 #[.pointer (some ⟨bm, 0, none⟩), .int .i64 (a : Int)] w (OrdP bm gm cm R C ms a w) := by
  have hJn := jnF_jn (ms := ms) hE.hC hE.hN
  have hlen := hE.len
  obtain ⟨wa, hwa⟩ : ∃ wa, wa = (w.alloc (.cells #[.pointer (some ⟨bm, 0, none⟩)] 23)).alloc (.cells #[.int .i64 (a : Int)] 3) := ⟨_, rfl⟩
  have hkw : Kept (fun _ => False) w (w.alloc (.cells #[.pointer (some ⟨bm, 0, none⟩)] 23)) := (Kept.refl _ w).alloc _
  have hE1 := (hE.keptX hkw (fun _ _ => id)).1
  have hka : Kept (fun _ => False) w wa := by rw [hwa]; exact hkw.alloc _
  have hEa := (hE.keptX hka (fun _ _ => id)).1
  have hsa : wa.heap.size = w.heap.size + 2 := by rw [hwa]; simp
  have fa1 : wa.cell? ⟨w.heap.size, 0, none⟩ = some (.pointer (some ⟨bm, 0, none⟩)) := by
    rw [hwa]
    exact ((Kept.refl (fun _ => False) (w.alloc (.cells #[.pointer (some ⟨bm, 0, none⟩)] 23))).alloc (.cells #[.int .i64 (a : Int)] 3)).cell (p := ⟨w.heap.size, 0, none⟩) (by rw [blk_cell (heap_alloc_new w _)]; rfl) id
  have fa2 : wa.cell? ⟨w.heap.size + 1, 0, none⟩ = some (.int .i64 (a : Int)) := by
    rw [hwa]
    have := heap_alloc_new (w.alloc (.cells #[.pointer (some ⟨bm, 0, none⟩)] 23)) (.cells #[.int .i64 (a : Int)] 3)
    rw [World.size_alloc] at this
    rw [blk_cell this]; rfl
  have HJo := Lib.hid (joined_any hEa ha)
  have HPre : Hid (∀ w', JX bm gm cm R C ms wa w' → JX bm gm cm R C ms w w') := fun w' h => (JX.pre hE1 (hwa ▸ h)).pre hE
  have HFa1 := Lib.hid fa1
  have HFa2 := Lib.hid fa2
  have HKa := Lib.hid hka
  have HSa := Lib.hid hsa
  have HLt := Lib.hid hE.lt
  clear hkw hE1 hka hEa hE
  go_enter Tryz.func54, Tryz.ntmps54
  go_wp2_with fail
  rw [← hwa]
  refine HJo.out.mono ?_
  rintro e w1 ⟨v1, B1, rfl, hx1, hb1, hs1, ht1, ho1⟩
  have HX1 := Lib.hid (HPre.out w1 hx1)
  have HT1 : Hid (∀ k, TS bm gm w1 k → k < w1.heap.size) := fun k hk => Nat.lt_of_lt_of_le (ht1 k hk) hs1
  have hbma : bm < w.heap.size := HLt.out
  have g1 := hx1.kept.cell HFa1.out (fun hx => by have := hx.1; simp at this; omega)
  have g2 := hx1.kept.cell HFa2.out (fun hx => by have := hx.1; simp at this; omega)
  have hsz1 := hx1.kept.size
  obtain ⟨L, hL⟩ : ∃ L, L = jnF R C ms a := ⟨_, rfl⟩
  rw [← hL] at ho1
  have hBw : w.heap.size + 2 ≤ w1.heap.size := by omega
  obtain ⟨W2, hW2⟩ : ∃ W2, W2 = (w1.alloc (.cells #[.int .i64 (a : Int)] 3)).alloc (.cells #[.slice (some ⟨w1.heap.size, 0, none⟩) 1 1] 36) := ⟨_, rfl⟩
  have hb2 : Below w1.heap.size w1 W2 := by rw [hW2]; exact ((Below.refl _ w1).alloc (Nat.le_refl _) _).alloc (by simp) _
  have hq2 : W2.heap[w1.heap.size + 1]? = some (.cells #[.slice (some ⟨w1.heap.size, 0, none⟩) 1 1] 36 (0, 0)) := by
    rw [hW2]
    have := heap_alloc_new (w1.alloc (.cells #[.int .i64 (a : Int)] 3)) (.cells #[.slice (some ⟨w1.heap.size, 0, none⟩) 1 1] 36)
    rwa [World.size_alloc] at this
  have ho2 : W2.ownsRow w1.heap.size 3 1 (.slice (some ⟨w1.heap.size, 0, none⟩) 1 1) 1 [natV a] := by rw [hW2]; exact (one_own w1 a).alloc _
  have hx2 := HX1.out.over hb2 HT1.out (by omega)
  have HX2 := Lib.hid hx2.1
  have HT2 := Lib.hid hx2.2
  have HO2 := Lib.hid ho2
  have HQ2 := Lib.hid hq2
  have HB2 := Lib.hid hb2
  by_cases h2 : L.length = 2
  · obtain ⟨g, c, rfl, hg, hc0, hc1⟩ := two_cells ho1 h2
    have hgl : g < w1.heap.size := World.block_lt_of_cell? w1 ⟨g, 0, none⟩ hc0
    have hs : L.getD 0 0 ∈ L := (Sg.two_mem h2).2 (.inl rfl)
    have ht : L.getD 1 0 ∈ L := (Sg.two_mem h2).2 (.inr rfl)
    have hj2 : (jnF R C ms a).length = 2 := hL ▸ h2
    have hs' : L.getD 0 0 ∈ jnF R C ms a := by rw [← hL]; exact hs
    have ht' : L.getD 1 0 ∈ jnF R C ms a := by rw [← hL]; exact ht
    obtain ⟨k0, hr0, er0⟩ := Sg.row_all hJn ha hj2 hs'
    obtain ⟨k1', hr1, er1⟩ := Sg.row_all hJn ha hj2 ht'
    have hOrd : Sg.ordF ms.length (jnF R C ms) a = (if (a :: Sg.rowF (jnF R C ms) a ms.length a (L.getD 0 0)).getD ((a :: Sg.rowF (jnF R C ms) a ms.length a (L.getD 0 0)).length - 1) 0 = L.getD 1 0 then (a :: Sg.rowF (jnF R C ms) a ms.length a (L.getD 0 0), 3)
        else if ((a :: Sg.rowF (jnF R C ms) a ms.length a (L.getD 0 0)).reverse ++ Sg.rowF (jnF R C ms) a ms.length a (L.getD 1 0)).getD (((a :: Sg.rowF (jnF R C ms) a ms.length a (L.getD 0 0)).reverse ++ Sg.rowF (jnF R C ms) a ms.length a (L.getD 1 0)).length - 1) 0 < ((a :: Sg.rowF (jnF R C ms) a ms.length a (L.getD 0 0)).reverse ++ Sg.rowF (jnF R C ms) a ms.length a (L.getD 1 0)).getD 0 0
          then (((a :: Sg.rowF (jnF R C ms) a ms.length a (L.getD 0 0)).reverse ++ Sg.rowF (jnF R C ms) a ms.length a (L.getD 1 0)).reverse, 2) else ((a :: Sg.rowF (jnF R C ms) a ms.length a (L.getD 0 0)).reverse ++ Sg.rowF (jnF R C ms) a ms.length a (L.getD 1 0), 2)) := by
      unfold Sg.ordF
      rw [if_pos hj2, ← hL]
    have hm0 := hr0.trail.lt hJn ha
    have hm1 := hr1.trail.lt hJn ha
    generalize L.getD 0 0 = s at *
    generalize L.getD 1 0 = t at *
    have hP0 : ∀ W B v l q, EM bm gm cm R C ms W → DoneC bm W → W.cell? ⟨w.heap.size, 0, none⟩ = some (.pointer (some ⟨bm, 0, none⟩)) → W.cell? ⟨w.heap.size + 1, 0, none⟩ = some (.int .i64 (a : Int)) → W.heap[q]? = some (.cells #[v] 36 (0, 0)) → W.ownsRow B 3 1 v l.length (l.map natV) → (∀ k, TS bm gm W k → k < B) → B ≤ q → B ≤ W.heap.size → l.length ≤ 10000 → Calls Tryz.prog 87 #[.int .i64 (s : Int), .pointer (some ⟨w.heap.size, 0, none⟩), .pointer (some ⟨w.heap.size + 1, 0, none⟩), .pointer (some ⟨q, 0, none⟩)] W (PutP W B q (l ++ Sg.rowF (jnF R C ms) a ms.length a s)) := fun W B v l q h1 h2 h3 h4 h5 h6 h7 h8 h9 h10 => er0 ▸ put_any h1 h2 h3 h4 h5 h6 h7 h8 h9 ha hr0 h10
    have hP1 : ∀ W B v l q, EM bm gm cm R C ms W → DoneC bm W → W.cell? ⟨w.heap.size, 0, none⟩ = some (.pointer (some ⟨bm, 0, none⟩)) → W.cell? ⟨w.heap.size + 1, 0, none⟩ = some (.int .i64 (a : Int)) → W.heap[q]? = some (.cells #[v] 36 (0, 0)) → W.ownsRow B 3 1 v l.length (l.map natV) → (∀ k, TS bm gm W k → k < B) → B ≤ q → B ≤ W.heap.size → l.length ≤ 10000 → Calls Tryz.prog 87 #[.int .i64 (t : Int), .pointer (some ⟨w.heap.size, 0, none⟩), .pointer (some ⟨w.heap.size + 1, 0, none⟩), .pointer (some ⟨q, 0, none⟩)] W (PutP W B q (l ++ Sg.rowF (jnF R C ms) a ms.length a t)) := fun W B v l q h1 h2 h3 h4 h5 h6 h7 h8 h9 h10 => er1 ▸ put_any h1 h2 h3 h4 h5 h6 h7 h8 h9 ha hr1 h10
    have hl0 : (Sg.rowF (jnF R C ms) a ms.length a s).length = k0 := by rw [er0]; simp
    have hl1 : (Sg.rowF (jnF R C ms) a ms.length a t).length = k1' := by rw [er1]; simp
    generalize Sg.rowF (jnF R C ms) a ms.length a s = r0 at *
    generalize Sg.rowF (jnF R C ms) a ms.length a t = r1 at *
    have HP0 := Lib.hid hP0
    have HP1 := Lib.hid hP1
    have HOr := Lib.hid hOrd
    have e1 := hb2.cell (p := ⟨w.heap.size, 0, none⟩) (by show w.heap.size < _; omega) |>.trans g1
    have e2 := hb2.cell (p := ⟨w.heap.size + 1, 0, none⟩) (by show w.heap.size + 1 < _; omega) |>.trans g2
    have e3 := hb2.cell (p := ⟨g, 1, none⟩) hgl |>.trans hc1
    have HE1 := Lib.hid e1
    have HE2 := Lib.hid e2
    have HE3 := Lib.hid e3
    have hf0 := hc0
    clear hx1 hb1 hs1 ht1 ho1 HFa1 HFa2 HKa HPre HJo hb2 hq2 ho2 hx2 hP0 hP1 hOrd e1 e2 e3 h2 hs ht hj2 hr0 hr1 er0 er1 hL hJn hc0 hbma hs' ht'
    go_wp2_with fail
    rw [← hW2]
    clear hW2
    refine (HP0.out W2 w1.heap.size _ [a] _ HX2.out.em HX2.out.done HE1.out HE2.out HQ2.out HO2.out HT2.out (by omega) HB2.out.size (by simp)).mono ?_
    rintro e w3 ⟨rfl, v3, hq3, ho3, hb3⟩
    obtain ⟨c1, hc1'⟩ : ∃ c1, c1 = a :: r0 := ⟨_, rfl⟩
    have ho3' : w3.ownsRow w1.heap.size 3 1 v3 c1.length (c1.map natV) := by rw [hc1']; exact ho3
    have hx3 := HX2.out.over hb3 HT2.out (by omega)
    have hn1 : 1 ≤ c1.length := by rw [hc1']; simp
    have hn2 : c1.length ≤ 1025 := by rw [hc1', List.length_cons]; omega
    have hor := HOr.out
    rw [← hc1'] at hor
    obtain ⟨g3, cap3, rfl, hg3, hcl3⟩ := row_cells ho3' hn1
    have q3 : w3.cell? ⟨w1.heap.size + 1, 0, none⟩ = some (.slice (some ⟨g3, 0, none⟩) c1.length cap3) := by rw [blk_cell hq3]; rfl
    have l3 := hcl3 (c1.length - 1) (by omega)
    have s3 := hb3.cell (p := ⟨g, 1, none⟩) hgl |>.trans HE3.out
    have HE3' := Lib.hid s3
    have HE1' := Lib.hid (hb3.cell (p := ⟨w.heap.size, 0, none⟩) (by show w.heap.size < _; omega) |>.trans HE1.out)
    have HE2' := Lib.hid (hb3.cell (p := ⟨w.heap.size + 1, 0, none⟩) (by show w.heap.size + 1 < _; omega) |>.trans HE2.out)
    have HX3 := Lib.hid hx3.1
    have HT3 := Lib.hid hx3.2
    have HO3 := Lib.hid ho3'
    have HQ3 := Lib.hid hq3
    have HS3 := Lib.hid (Nat.le_trans HB2.out.size hb3.size)
    clear HE1 HE2 HE3 hf0 HX2 HT2 HO2 HQ2 HB2 hx3 ho3' ho3 hq3 hb3 hcl3 HOr HP0 HX1 HT1
    have hBw' : w.heap.size ≤ w1.heap.size := by omega
    obtain ⟨n1, hn1e⟩ : ∃ n1, n1 = c1.length := ⟨_, rfl⟩
    have HN1 := Lib.hid hn1e
    rw [← hn1e] at hn1 hn2 hor q3 l3
    have hwr : IntKind.i64.wrap ((n1 : Int) - 1) = (n1 : Int) - 1 := IntWalk.i64_in _ (by omega)
    have k0 : (0 : Int) ≤ (n1 : Int) - 1 := by omega
    have k1 : (n1 : Int) - 1 < (n1 : Int) := by omega
    obtain ⟨y, hy⟩ : ∃ y, y = c1.getD (n1 - 1) 0 := ⟨_, rfl⟩
    rw [← hy] at hor l3
    clear hn1e hy
    by_cases hyt : y = t
    · rw [if_pos hyt] at hor
      have hd : ((y : Int) == (t : Int)) = true := by simp [hyt]
      have HOr := Lib.hid hor
      clear hor hyt
      have HF : Hid (OrdP bm gm cm R C ms a w (.returned (.tuple #[.slice (some ⟨g3, 0, none⟩) n1 cap3, .int .i64 3])) w3.drew) := by
        refine ⟨.slice (some ⟨g3, 0, none⟩) n1 cap3, w1.heap.size, ?_, HX3.out.drew, hBw', ?_, ?_, ?_⟩
        · rw [HOr.out]; rfl
        · simpa using HS3.out
        · exact fun k hk => HT3.out k (HX3.out.ownT ((Kept.refl (fun _ => False) w3).drew) (fun _ _ => id) k hk)
        · rw [HOr.out]
          show World.ownsRow _ _ _ _ _ c1.length _
          have := HO3.out.drew
          rw [HN1.out]
          exact this
      go_wp2_with fail
      go_region
      clear hwr k0 k1 l3 s3
      go_wp2
      exact bodyPost_ret (v := .tuple #[.slice (some ⟨g3, 0, none⟩) n1 cap3, .int .i64 3]) (by simp [results, Tryz.results54, go_sem]) rfl HF.out
    · rw [if_neg hyt] at hor
      have hd : ((y : Int) == (t : Int)) = false := by
        have : ¬ (y : Int) = (t : Int) := by omega
        simpa using this
      have HOr := Lib.hid hor
      have HRv := Lib.hid (reverseQ_any (HO3.out.drew) (by rw [← HN1.out]; omega))
      have hne3 : Value.ownBlock (.slice (some ⟨g3, 0, none⟩) c1.length cap3) ≠ some (w1.heap.size + 1) := own_ne HQ3.out HO3.out
      rw [← HN1.out] at HRv
      clear hor hyt
      go_wp2_with fail
      go_region
      clear hwr k0 k1 l3 s3 hd
      have q3' : w3.drew.cell? ⟨w1.heap.size + 1, 0, none⟩ = some (.slice (some ⟨g3, 0, none⟩) n1 cap3) := q3
      have HX3d := Lib.hid HX3.out.drew
      have HT3d : Hid (∀ k, TS bm gm w3.drew k → k < w1.heap.size) := fun k hk => HT3.out k (HX3.out.ownT ((Kept.refl (fun _ => False) w3).drew) (fun _ _ => id) k hk)
      have HQ3d : Hid (w3.drew.heap[w1.heap.size + 1]? = some (.cells #[.slice (some ⟨g3, 0, none⟩) c1.length cap3] 36 (0, 0))) := HQ3.out
      have HO3d := Lib.hid HO3.out.drew
      have HE1d : Hid (w3.drew.cell? ⟨w.heap.size, 0, none⟩ = some (.pointer (some ⟨bm, 0, none⟩))) := HE1'.out
      have HE2d : Hid (w3.drew.cell? ⟨w.heap.size + 1, 0, none⟩ = some (.int .i64 (a : Int))) := HE2'.out
      have HE3d : Hid (w3.drew.cell? ⟨g, 1, none⟩ = some (.int .i64 (t : Int))) := HE3'.out
      have HS3d : Hid (w1.heap.size ≤ w3.drew.heap.size) := HS3.out
      clear HX3 HT3 HQ3 HO3 HE1' HE2' HE3' HS3 q3
      generalize w3.drew = w3d at *
      go_wp2_with (go_at_call 89; (with_reducible refine HRv.out.mono ?_); rintro e w4 ⟨rfl, ho4, hk4⟩; have hb4 := own_below HO3d.out hk4 HS3d.out; have hx4 := HX3d.out.over hb4 HT3d.out hBw'; have hq4 := (hk4.block (w1.heap.size + 1) (blk_lt HQ3d.out) hne3).trans HQ3d.out; have s4 := hb4.cell (p := ⟨g, 1, none⟩) hgl |>.trans HE3d.out; have HE1 := Lib.hid (hb4.cell (p := ⟨w.heap.size, 0, none⟩) (by show w.heap.size < _; omega) |>.trans HE1d.out); have HE2 := Lib.hid (hb4.cell (p := ⟨w.heap.size + 1, 0, none⟩) (by show w.heap.size + 1 < _; omega) |>.trans HE2d.out); have HX4 := Lib.hid hx4.1; have HT4 := Lib.hid hx4.2; have HQ4 := Lib.hid hq4; have HO4 := Lib.hid ho4; have HS4 := Lib.hid (Nat.le_trans HS3d.out hb4.size); clear hk4 hb4 hx4 hq4 ho4 HX3d HT3d HQ3d HO3d HE1d HE2d HE3d HS3d HRv q3' hne3)
      have ho4' : w4.ownsRow w1.heap.size 3 1 (.slice (some ⟨g3, 0, none⟩) n1 cap3) c1.reverse.length (c1.reverse.map natV) := by rw [List.length_reverse, HN1.out]; have := HO4.out; rw [HN1.out] at this; exact this
      have hq4' : w4.heap[w1.heap.size + 1]? = some (.cells #[.slice (some ⟨g3, 0, none⟩) n1 cap3] 36 (0, 0)) := by rw [HN1.out]; exact HQ4.out
      refine (HP1.out w4 w1.heap.size _ c1.reverse _ HX4.out.em HX4.out.done HE1.out HE2.out hq4' ho4' HT4.out (by omega) HS4.out (by rw [List.length_reverse, ← HN1.out]; omega)).mono ?_
      rintro e w5 ⟨rfl, v5, hq5, ho5, hb5⟩
      have hx5 := HX4.out.over hb5 HT4.out hBw'
      have hc2l : (c1.reverse ++ r1).length = n1 + k1' := by rw [List.length_append, List.length_reverse, ← HN1.out, hl1]
      obtain ⟨c2, hc2⟩ : ∃ c2, c2 = c1.reverse ++ r1 := ⟨_, rfl⟩
      have hor2 := HOr.out
      rw [← hc2] at hor2 ho5 hc2l
      obtain ⟨n2, hn2⟩ : ∃ n2, n2 = c2.length := ⟨_, rfl⟩
      have hn21 : 1 ≤ n2 := by omega
      have hn22 : n2 ≤ 4000 := by omega
      obtain ⟨g5, cap5, rfl, hg5, hcl5⟩ := row_cells ho5 (by omega)
      have q5 : w5.cell? ⟨w1.heap.size + 1, 0, none⟩ = some (.slice (some ⟨g5, 0, none⟩) c2.length cap5) := by rw [blk_cell hq5]; rfl
      have l5 := hcl5 (c2.length - 1) (by omega)
      have f5 := hcl5 0 (by omega)
      have hne5 : Value.ownBlock (.slice (some ⟨g5, 0, none⟩) c2.length cap5) ≠ some (w1.heap.size + 1) := own_ne hq5 ho5
      have HX5 := Lib.hid hx5.1
      have HT5 := Lib.hid hx5.2
      have HO5 := Lib.hid ho5
      have HQ5 := Lib.hid hq5
      have HS5 := Lib.hid (Nat.le_trans HS4.out hb5.size)
      have HN2 := Lib.hid hn2
      have HRv := Lib.hid (reverseQ_any (HO5.out.drew) (by omega))
      have hd5 : ∀ k, TS bm gm w5.drew k → k < w1.heap.size := fun k hk => HT5.out k (HX5.out.ownT ((Kept.refl (fun _ => False) w5).drew) (fun _ _ => id) k hk)
      have HT5d := Lib.hid hd5
      rw [← hn2] at hor2 q5 l5 hne5 HRv
      clear hx5 ho5 hq5 hb5 HX4 HT4 HQ4 HO4 HS4 HE1 HE2 hcl5 s4 ho4' hq4' HOr hc2 hc2l hn2 hd5
      have hwr : IntKind.i64.wrap ((n2 : Int) - 1) = (n2 : Int) - 1 := IntWalk.i64_in _ (by omega)
      have j0 : (0 : Int) ≤ (n2 : Int) - 1 := by omega
      have j1 : (n2 : Int) - 1 < (n2 : Int) := by omega
      have j2 : (0 : Int) < (n2 : Int) := by omega
      obtain ⟨y1, hy1⟩ : ∃ y, y = c2.getD (n2 - 1) 0 := ⟨_, rfl⟩
      obtain ⟨y0, hy0⟩ : ∃ y, y = c2.getD 0 0 := ⟨_, rfl⟩
      rw [← hy1] at hor2 l5
      rw [← hy0] at hor2 f5
      clear hy1 hy0
      by_cases hlt : y1 < y0
      · rw [if_pos hlt] at hor2
        have hd : decide ((y1 : Int) < (y0 : Int)) = true := decide_eq_true (by omega)
        have hd' : decide (y1 < y0) = true := decide_eq_true hlt
        have HOr := Lib.hid hor2
        have HF : Hid (∀ w', w'.ownsRow w1.heap.size 3 1 (.slice (some ⟨g5, 0, none⟩) n2 cap5) n2 (c2.reverse.map natV) → Kept (fun k => (Value.slice (some ⟨g5, 0, none⟩) n2 cap5).ownBlock = some k) w5.drew w' → OrdP bm gm cm R C ms a w (.returned (.tuple #[.slice (some ⟨g5, 0, none⟩) n2 cap5, .int .i64 2])) w' ∧ w'.cell? ⟨w1.heap.size + 1, 0, none⟩ = some (.slice (some ⟨g5, 0, none⟩) n2 cap5)) := by
          intro w' ho hk
          have hb := own_below (HO5.out.drew) (by rw [← HN2.out]; exact hk) HS5.out
          have hx := HX5.out.drew.over hb HT5d.out hBw'
          refine ⟨⟨.slice (some ⟨g5, 0, none⟩) n2 cap5, w1.heap.size, ?_, hx.1, hBw', Nat.le_trans HS5.out hb.size, hx.2, ?_⟩, ?_⟩
          · rw [HOr.out]; rfl
          · rw [HOr.out]
            show World.ownsRow _ _ _ _ _ c2.reverse.length _
            rw [List.length_reverse, ← HN2.out]
            exact ho
          · have hq := (hk.block (w1.heap.size + 1) (blk_lt HQ5.out) (by exact hne5)).trans HQ5.out
            rw [blk_cell hq, HN2.out]; rfl
        clear hor2 hlt HX5 HT5 HT5d HO5 HQ5 HS5
        go_wp2_with fail
        go_region
        clear hwr j0 j1 j2 l5 f5 hd
        have q5' : w5.drew.cell? ⟨w1.heap.size + 1, 0, none⟩ = some (.slice (some ⟨g5, 0, none⟩) n2 cap5) := q5
        clear q5
        generalize w5.drew = w5d at *
        go_wp2_with (go_at_call 89; (with_reducible refine HRv.out.mono ?_); rintro e w6 ⟨rfl, ho6, hk6⟩; obtain ⟨hf6, q6⟩ := HF.out w6 ho6 hk6; have HF6 := Lib.hid hf6; clear ho6 hk6 hf6 HF HRv q5')
        exact bodyPost_ret (v := .tuple #[.slice (some ⟨g5, 0, none⟩) n2 cap5, .int .i64 2]) (by simp [results, Tryz.results54, go_sem]) rfl HF6.out
      · rw [if_neg hlt] at hor2
        have hd : decide ((y1 : Int) < (y0 : Int)) = false := decide_eq_false (by omega)
        have hd' : decide (y1 < y0) = false := decide_eq_false hlt
        have HOr := Lib.hid hor2
        have HF : Hid (OrdP bm gm cm R C ms a w (.returned (.tuple #[.slice (some ⟨g5, 0, none⟩) n2 cap5, .int .i64 2])) w5.drew) := by
          refine ⟨.slice (some ⟨g5, 0, none⟩) n2 cap5, w1.heap.size, ?_, HX5.out.drew, hBw', HS5.out, HT5d.out, ?_⟩
          · rw [HOr.out]; rfl
          · rw [HOr.out, HN2.out]
            exact HO5.out.drew
        clear hor2 hlt HX5 HT5 HT5d HO5 HQ5 HS5 HRv
        go_wp2_with fail
        go_region
        clear hwr j0 j1 j2 l5 f5 hd
        go_wp2
        exact bodyPost_ret (v := .tuple #[.slice (some ⟨g5, 0, none⟩) n2 cap5, .int .i64 2]) (by simp [results, Tryz.results54, go_sem]) rfl HF.out
  · have hlb : L.length ≤ ms.length := by rw [hL]; unfold jnF; exact Nat.le_trans (List.length_filter_le _ _) (by simp)
    obtain ⟨ga, gc, rfl⟩ := row_slice ho1
    have d2 : ((L.length : Int) != 2) = true := by
      have : ¬ (L.length : Int) = 2 := by omega
      simpa using this
    have hord := Sg.ord_one (N := ms.length) (jn := jnF R C ms) (a := a) (by rw [← hL]; exact h2)
    have HF : Hid (OrdP bm gm cm R C ms a w (.returned (.tuple #[.slice (some ⟨w1.heap.size, 0, none⟩) 1 1, .int .i64 1])) W2) := by
      refine ⟨.slice (some ⟨w1.heap.size, 0, none⟩) 1 1, w1.heap.size, ?_, HX2.out, by omega, HB2.out.size, HT2.out, ?_⟩
      · rw [hord]; rfl
      · rw [hord]; exact HO2.out
    clear hx1 hb1 hs1 ht1 ho1 HFa1 HFa2 HKa HPre HJo hL h2 hord HX1 HT1 HX2 HT2 HO2 HQ2 HB2 hb2 hq2 ho2 hx2 g1
    generalize L.length = ln at *
    go_wp2_with fail
    rw [← hW2]
    exact bodyPost_ret (v := .tuple #[.slice (some ⟨w1.heap.size, 0, none⟩) 1 1, .int .i64 1]) (by simp [results, Tryz.results54, go_sem]) rfl HF.out
end Go.Proofs.YtekhlaodlagbdaaGreatDoor
