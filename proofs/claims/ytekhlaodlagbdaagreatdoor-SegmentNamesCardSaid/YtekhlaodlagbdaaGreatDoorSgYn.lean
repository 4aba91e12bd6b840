/-
  segment.Plan.Next: the segments to which doors go.
-/
import Derived.Test.YtekhlaodlagbdaaGreatDoorSgYt
import Derived.Test.YtekhlaodlagbdaaGreatDoorSgZ
import Derived.Test.YtekhlaodlagbdaaGreatDoorSgO
import Derived.Test.YtekhlaodlagbdaaGreatDoorTk
namespace Go.Proofs.YtekhlaodlagbdaaGreatDoor
set_option maxRecDepth 100000
set_option linter.unusedSimpArgs false
open Go Go.RowKit
attribute [local go_sem] Oper.semAt_some

/-- A drawn region in a round, loads first. -/
theorem wpIn_held_rnd {l n id : Nat} {P : Program} {Q : Exit → Act → World → Prop} {a : Act} {w : World} {ls : List Oper} {S : World → Prop} (hm : P.follows .mixedOrders = true) (hnd : noDefer ls.toArray = true) (hS : S w.drew)
    (h : S w.drew → wpAnyH P .any ls.toArray (Calm Q) S ls.toArray.size (Array.replicate ls.toArray.size false) a w.drew) : (Code.region id ls.toArray true).wpIn (Fence.wide.inRound l) n P Q a w :=
  wpIn_region_any hm (wpAnyIn_of_any hnd _ _ _ _ (wpAny_of_held _ _ _ _ (h hS)))

/-- segment.Plan.doors: the iterator, made. -/
def doorW (w : World) (p s : Nat) : World := (w.alloc (.cells #[.pointer (some ⟨p, 0, none⟩)] 31)).alloc (.cells #[.int .i64 (s : Int)] 3)
theorem doors_any (w : World) (p s : Nat) :
    Calls Tryz.prog 63 #[.pointer (some ⟨p, 0, none⟩), .int .i64 (s : Int)] w fun e w' => e = .returned (.func (.func 92) #[] #[.pointer (some ⟨w.heap.size, 0, none⟩), .pointer (some ⟨w.heap.size + 1, 0, none⟩)]) ∧ w' = doorW w p s := by
  go_enter Tryz.func63, Tryz.ntmps63
  go_wp2
  go_ret
  exact ⟨rfl, rfl⟩
theorem heap4 (w : World) (o1 o2 o3 o4 : Obj) : ((((w.alloc o1).alloc o2).alloc o3).alloc o4).heap[w.heap.size]? = some o1 ∧ ((((w.alloc o1).alloc o2).alloc o3).alloc o4).heap[w.heap.size + 1]? = some o2 ∧ ((((w.alloc o1).alloc o2).alloc o3).alloc o4).heap[w.heap.size + 1 + 1]? = some o3 ∧ ((((w.alloc o1).alloc o2).alloc o3).alloc o4).heap[w.heap.size + 1 + 1 + 1]? = some o4 := by
  refine ⟨?_, ?_, ?_, ?_⟩
  · rw [Below.heap_alloc _ _ _ (by simp only [World.size_alloc]; omega), Below.heap_alloc _ _ _ (by simp only [World.size_alloc]; omega), Below.heap_alloc _ _ _ (by simp only [World.size_alloc]; omega)]
    exact World.alloc_heap_new w _
  · rw [Below.heap_alloc _ _ _ (by simp only [World.size_alloc]; omega), Below.heap_alloc _ _ _ (by simp only [World.size_alloc]; omega)]
    have := World.alloc_heap_new (w.alloc o1) o2
    rwa [World.size_alloc] at this
  · rw [Below.heap_alloc _ _ _ (by simp only [World.size_alloc]; omega)]
    have := World.alloc_heap_new ((w.alloc o1).alloc o2) o3
    rwa [World.size_alloc, World.size_alloc] at this
  · have := World.alloc_heap_new (((w.alloc o1).alloc o2).alloc o3) o4
    rwa [World.size_alloc, World.size_alloc, World.size_alloc] at this

/-- A list of memory of its own. -/
def NxP (w : World) (l : List Nat) (e : Ending) (w' : World) : Prop := ∃ v, e = .returned v ∧ w'.ownsRow w.heap.size 3 1 v l.length (l.map natV) ∧ Below w.heap.size w w'

set_option maxHeartbeats 4000000 in
theorem pnext_any {bm gm cm R C p s : Nat} {ms : List UInt8} {st : Sg.Pl} {w : World} (h : PlanS bm gm cm R C ms p st w) (hN : R * C = ms.length) (hs : s < st.cells.length) (hl0 : 0 < (st.cells.getD s []).length) (hll : (st.cells.getD s []).length ≤ 1024) (hlN : ∀ a ∈ st.cells.getD s [], a < ms.length)
    (hof : ∀ d ∈ dorF R C ms st s, d.2 < ms.length ∧ 0 ≤ st.of.getD d.2 0 ∧ (st.of.getD d.2 0).toNat < st.cells.length) :
    Calls Tryz.prog 25 #[.pointer (some ⟨p, 0, none⟩), .int .i64 (s : Int)] w (NxP w (nxF R C ms st s)) := by
  obtain ⟨i0, hi, hz0, hz1, hz2⟩ := info_parts Tryz.infoInt
  obtain ⟨bo, g, gl, cap, cl, hD⟩ := dor_cells h hs hl0
  have hD0 := hD w (Below.refl _ w)
  have hpw : p < w.heap.size := World.block_lt_of_cell? w _ hD0.c0
  have hbow : bo < w.heap.size := by
    have := hD0.co 0 (by obtain ⟨a, ha⟩ := List.exists_mem_of_length_pos hl0; have := hlN a ha; omega)
    exact World.block_lt_of_cell? w _ this
  obtain ⟨gF, hgF⟩ : ∃ gF : Nat × Nat → Nat, gF = fun d => (st.of.getD d.2 0).toNat := ⟨_, rfl⟩
  obtain ⟨m, hm1, hm2⟩ := nxF_of (R := R) (C := C) (ms := ms) (st := st) (s := s) (fun t ht => by
    unfold nxL at ht
    obtain ⟨d, hd, rfl⟩ := List.mem_map.1 ht
    exact (hof d hd).2.2)
  have hml := nxF_len (R := R) (C := C) (ms := ms) (st := st) (s := s)
  have hnl := nxL_len (R := R) (C := C) (ms := ms) (st := st) (s := s)
  rw [← hm2] at hml ⊢
  have hnx : (dorF R C ms st s).map gF = nxL R C ms st s := by rw [hgF]; rfl
  clear hm2
  refine (callsIn_wide (n := 9)).1 ?_
  refine callsIn_of_wp_marks Tryz.func25 rfl trivial ?_ rfl
  simp only [Tryz.ntmps25, List.size_toArray, List.length_cons, List.length_nil, Nat.reduceAdd, Nat.reduceSub, Array.replicate_succ, Array.replicate_zero, List.push_toArray, List.append_toArray, List.nil_append, List.cons_append]
  gi_wp2_with fail
  refine ⟨trivial, (callsIn_wide.2 (doors_any _ _ _)).mono ?_⟩
  rintro e W0 ⟨rfl, hW0⟩
  have hz : W0.heap.size = w.heap.size + 4 := by rw [hW0]; simp [doorW]
  have hk0 : Kept (fun _ => False) w W0 := by rw [hW0]; exact ((((Kept.refl _ w).alloc _).alloc _).alloc _).alloc _
  obtain ⟨b1, b2, b3, b4⟩ := heap4 w (.cells #[.pointer (some ⟨p, 0, none⟩)] 31) (.cells #[.slice none 0 0] 36) (.cells #[.pointer (some ⟨p, 0, none⟩)] 31) (.cells #[.int .i64 (s : Int)] 3)
  rw [show (((w.alloc (.cells #[.pointer (some ⟨p, 0, none⟩)] 31)).alloc (.cells #[.slice none 0 0] 36)).alloc (.cells #[.pointer (some ⟨p, 0, none⟩)] 31)).alloc (.cells #[.int .i64 (s : Int)] 3) = W0 from hW0.symm] at b1 b2 b3 b4
  have hsz1 : ((w.alloc (.cells #[.pointer (some ⟨p, 0, none⟩)] 31)).alloc (.cells #[.slice none 0 0] 36)).heap.size = w.heap.size + 1 + 1 := by simp
  rw [hsz1]
  clear hW0 hsz1
  have hb0 : Below w.heap.size w W0 := hk0.below (fun _ h => h.elim) (Nat.le_refl _)
  obtain ⟨q, hq⟩ : ∃ q, w.heap.size + 1 = q := ⟨_, rfl⟩
  obtain ⟨X, hX⟩ : ∃ X : Nat → Prop, X = fun k => k = q := ⟨_, rfl⟩
  have hq0 : q < W0.heap.size := by omega
  have hXq : X q := by rw [hX]
  rw [hq] at b2 b3 b4
  have hTells := doors_tells (9 - 1) (by omega) hb0 (bp := q + 1) (bs := q + 1 + 1) (q := q) hq0 (fun k hk => by
    rcases hk with e | ⟨u, hu, e⟩
    · omega
    · rw [blk_cell b2] at hu
      have : (Value.slice none 0 0) = u := by simpa using hu
      subst this
      cases e) hD rfl (by rw [blk_cell b3]; rfl) (by rw [blk_cell b4]; rfl) (X := X) (fun k hk => by rw [hX] at hk; omega) (by rw [hX]; omega) (by rw [hX]; omega) hs hl0 hll hlN hN
  have h00 : PutI w.heap.size (.slice none 0 0) [] W0.heap.size X q W0 ([].map gF) W0 := ⟨⟨.slice none 0 0, b2, World.ownsRow_nil _ _ _ _, .inl rfl⟩, KpQ.refl _ _ _ _⟩
  have hkX : ∀ V, KpQ W0.heap.size X q W0 V → Kept X w V := fun V hV => (hk0.mono (fun _ _ h => h.elim)).trans ((Kept.refl X W0).kpq hV) (fun _ _ h => h)
  have hbX : ∀ V, KpQ W0.heap.size X q W0 V → Below w.heap.size w V := fun V hV => (hkX V hV).below (fun k hk => by rw [hX] at hk; omega) (Nat.le_refl _)
  have HBX := Lib.hid hbX
  gi_wp2_with fail
  try rw [hq]
  refine range_stateP (by omega) (gf := 92) (lb := #[.pointer (some ⟨q + 1, 0, none⟩), .pointer (some ⟨q + 1 + 1, 0, none⟩)]) rfl (enters_of Tryz.func92 (by kernel_rfl) rfl)
    (encs := fun x : Nat × Nat => #[.int .i64 (x.1 : Int), .int .i64 (x.2 : Int)]) (fun _ => rfl) hTells (Below.refl _ _)
    (fun A C ht => ⟨ht.size, fun k o _ ho hc => (ht.block k (blk_lt ho)).trans ho⟩) (fun h k => h.trans k)
    (fun W l' o o' hl' h1 h2 => KpQ.putObj W o' h1 h2 hl' (by omega))
    (fun pre W => PutI w.heap.size (.slice none 0 0) [] W0.heap.size X q W0 (pre.map gF) W) (fun pre W W' row hh hg hr => PutI.from rfl hq0 trivial _ _ _ _ hh hg hr) (fun xs A C hh ht => hh.take hq0 ht hh.kp.size) (fun xs A C row hh _ _ => hh) h00
    (fun x a' _ => a' = { tmps := #[.pointer (some ⟨p, 0, none⟩), .int .i64 (s : Int), .pointer (some ⟨w.heap.size, 0, none⟩), undef, .slice none 0 0, .pointer (some ⟨q, 0, none⟩), undef, .int .i64 (x.2 : Int), .pointer (some ⟨p, 0, none⟩), .int .i64 (s : Int), .func (.func 92) #[] #[.pointer (some ⟨q + 1, 0, none⟩), .pointer (some ⟨q + 1 + 1, 0, none⟩)], .int .i64 (x.1 : Int), .int .i64 (x.2 : Int), undef, undef, undef, undef, undef, undef, undef, undef, undef, undef, undef, undef, undef, undef], defers := [] })
    (fun x a' _ A C row h _ _ => h) ?assign ?body ?done
  case assign =>
    intro l' pre x W K hI hK
    gi_wp2
    exact hK _ _ (KeepsFrom.refl _ _) (KpQ.refl _ _ _ _) hI rfl
  case body =>
    rintro l' pre x a' W hl' ⟨⟨v1, h1, h2, h3⟩, h4⟩ rfl hpre
    have hx : x ∈ dorF R C ms st s := hpre.subset (by simp)
    obtain ⟨x1, x2, _⟩ := hof x hx
    obtain ⟨t, ht⟩ := Int.eq_ofNat_of_zero_le x2
    have hgx : gF x = t := by rw [hgF]; show (st.of.getD x.2 0).toNat = t; rw [ht]; rfl
    have hpm : (pre ++ [x]).map gF = pre.map gF ++ [t] := by rw [List.map_append, List.map_cons, List.map_nil, hgx]
    have hDW := hD W (hbX W h4)
    have f1 := hDW.c1
    have f2 := hDW.co _ x1
    rw [ht] at f2
    have f0 : W.cell? ⟨w.heap.size, 0, none⟩ = some (.pointer (some ⟨p, 0, none⟩)) := by
      rw [blk_cell ((h4.low _ (by omega) (by rw [hX]; omega)).trans b1)]; rfl
    have hWF : W0.heap.size ≤ W.heap.size := h4.size
    have hvF : ∀ k, v1.ownBlock = some k → W0.heap.size ≤ k := fun k e => by
      rcases h3 with h5 | h5
      · rw [h5] at e; cases e
      · exact h5 k e
    have HSK : ∀ W', Kept (fun k => k = q ∨ v1.ownBlock = some k) W W' → W'.cell? ⟨w.heap.size, 0, none⟩ = some (.pointer (some ⟨p, 0, none⟩)) ∧ W'.cell? ⟨p, 1, none⟩ = some (.slice (some ⟨bo, 0, none⟩) ms.length ms.length) ∧ W'.cell? ⟨bo, x.2, none⟩ = some (.int .i64 (t : Int)) := fun W' hk =>
      ⟨hk.cell f0 (by rintro (e | e); · exact absurd e (by show ¬ w.heap.size = q; omega)
                      · have := hvF _ e; have e2 : W0.heap.size ≤ w.heap.size := this; omega),
       hk.cell f1 (by rintro (e | e); · exact absurd e (by show ¬ p = q; omega)
                      · have := hvF _ e; have e2 : W0.heap.size ≤ p := this; omega),
       hk.cell f2 (by rintro (e | e); · exact absurd e (by show ¬ bo = q; omega)
                      · have := hvF _ e; have e2 : W0.heap.size ≤ bo := this; omega)⟩
    obtain ⟨xs, hxs⟩ : ∃ xs, xs = (pre.map gF).map natV := ⟨_, rfl⟩
    obtain ⟨N, hNn⟩ : ∃ N, N = (pre.map gF).length := ⟨_, rfl⟩
    have hNb : N ≤ 5000 := by
      have e1 := hpre.length_le
      rw [List.length_append] at e1
      have e2 := dorK_len (R := R) (C := C) (ms := ms) (st := st) (s := s) (st.cells.getD s []) (st.cells.getD s []).length
      rw [hNn, List.length_map]
      omega
    have h2' : W.ownsRow w.heap.size 3 1 v1 N xs := by rw [hNn, hxs]; exact h2
    have hqW : q < W.heap.size := blk_lt h1
    have HV : Hid (W.drew.ownsRow w.heap.size 3 1 v1 N xs) := ((Kept.refl (fun _ => False) W).drew).row h2' (fun _ _ => id)
    have P4 : KpQ W0.heap.size X q W W.drew := KpQ.of_kept ((Kept.refl (fun _ => False) W).drew) hWF hqW (fun _ => id)
    have HR : Hid (∀ (W2 : World) g2 cap2, (W.drew.alloc (.cells #[.int .i64 (t : Int)] 3)).grownBy W2 v1.ownBlock → W2.ownsRow w.heap.size 3 1 (.slice (some ⟨g2, 0, none⟩) (N + 1) cap2) (N + 1) (xs ++ [.int .i64 (t : Int)]) → (v1.ownBlock = some g2 ∨ g2 = W.drew.heap.size + 1) →
        (W2.cell? ⟨q, 0, none⟩ = some v1 ∧ W2.frozen? ⟨q, 0, none⟩ = false) ∧ (W2.cell? ⟨w.heap.size, 0, none⟩ = some (.pointer (some ⟨p, 0, none⟩)) ∧ W2.cell? ⟨p, 1, none⟩ = some (.slice (some ⟨bo, 0, none⟩) ms.length ms.length) ∧ W2.cell? ⟨bo, x.2, none⟩ = some (.int .i64 (t : Int))) ∧ ((W2.setCell ⟨q, 0, none⟩ (.slice (some ⟨g2, 0, none⟩) (N + 1) cap2)).cell? ⟨w.heap.size, 0, none⟩ = some (.pointer (some ⟨p, 0, none⟩)) ∧ (W2.setCell ⟨q, 0, none⟩ (.slice (some ⟨g2, 0, none⟩) (N + 1) cap2)).cell? ⟨p, 1, none⟩ = some (.slice (some ⟨bo, 0, none⟩) ms.length ms.length) ∧ (W2.setCell ⟨q, 0, none⟩ (.slice (some ⟨g2, 0, none⟩) (N + 1) cap2)).cell? ⟨bo, x.2, none⟩ = some (.int .i64 (t : Int))) ∧
          roundEnd W0.heap.size (KpQ W0.heap.size X q) (fun pre W => PutI w.heap.size (.slice none 0 0) [] W0.heap.size X q W0 (pre.map gF) W) (pre ++ [x]) W .normal { tmps := #[], defers := [] } (W2.setCell ⟨q, 0, none⟩ (.slice (some ⟨g2, 0, none⟩) (N + 1) cap2))) := by
      intro W2 g2 cap2 hg ho' hat
      have K1 : Kept (fun k => k = q ∨ v1.ownBlock = some k) W W2 := (((Kept.refl _ W).drew).alloc _).grown hg (fun k e => .inl (.inr e))
      have K2 : Kept (fun k => k = q ∨ v1.ownBlock = some k) W (W2.setCell ⟨q, 0, none⟩ (.slice (some ⟨g2, 0, none⟩) (N + 1) cap2)) := K1.setCell (p := ⟨q, 0, none⟩) (.inl (.inl rfl)) _
      rw [hNn, hxs] at ho'
      have hr := put_round (F := W0.heap.size) (q := q) (v0 := .slice none 0 0) (l := []) (pre := pre.map gF) (x := t) (W := W.drew) (W0 := W0) (X := X) (a := { tmps := #[], defers := [] }) rfl hq0 hXq (fun k e => by cases e) h1 (by rw [hNn, hxs] at h2'; exact ((Kept.refl (fun _ => False) W).drew).row h2' (fun _ _ => id)) h3 (h4.trans P4) hg ho' (by
        rcases hat with e | e
        · exact .inl (by rw [e]; rfl)
        · exact .inr (by rw [e, World.size_alloc]; rfl))
      rw [← hNn] at hr
      obtain ⟨hr1, hr2, hr3, hr4⟩ := hr
      refine ⟨hr1, HSK _ K1, HSK _ K2, ⟨hr2.size, fun k o hk ho hc => hr2.same k o hk ho hc⟩, P4.trans hr3, ?_⟩
      show PutI _ _ _ _ _ _ _ ((pre ++ [x]).map gF) _
      rw [hpm]
      exact hr4
    have HNe := Lib.hid (World.news_of_block (heap_alloc_new W.drew (.cells #[.int .i64 (t : Int)] 3)))
    have HSd : Hid (W.drew.cell? ⟨w.heap.size, 0, none⟩ = some (.pointer (some ⟨p, 0, none⟩)) ∧ W.drew.cell? ⟨p, 1, none⟩ = some (.slice (some ⟨bo, 0, none⟩) ms.length ms.length) ∧ W.drew.cell? ⟨bo, x.2, none⟩ = some (.int .i64 (t : Int))) := HSK _ ((Kept.refl _ W).drew)
    have HSa : Hid ((W.drew.alloc (.cells #[.int .i64 (t : Int)] 3)).cell? ⟨w.heap.size, 0, none⟩ = some (.pointer (some ⟨p, 0, none⟩)) ∧ (W.drew.alloc (.cells #[.int .i64 (t : Int)] 3)).cell? ⟨p, 1, none⟩ = some (.slice (some ⟨bo, 0, none⟩) ms.length ms.length) ∧ (W.drew.alloc (.cells #[.int .i64 (t : Int)] 3)).cell? ⟨bo, x.2, none⟩ = some (.int .i64 (t : Int))) := HSK _ (((Kept.refl _ W).drew).alloc _)
    have c5 : W.drew.cell? ⟨q, 0, none⟩ = some v1 := by
      have : W.cell? ⟨q, 0, none⟩ = some v1 := by rw [blk_cell h1]; rfl
      exact this
    have c6 : (W.drew.alloc (.cells #[.int .i64 (t : Int)] 3)).cell? ⟨q, 0, none⟩ = some v1 := (((Kept.refl (fun _ => False) W).drew).alloc _).cell (show W.cell? ⟨q, 0, none⟩ = some v1 by rw [blk_cell h1]; rfl) id
    have c7 : (W.alloc (.cells #[.int .i64 (t : Int)] 3)).cell? ⟨q, 0, none⟩ = some v1 := ((Kept.refl (fun _ => False) W).alloc _).cell (show W.cell? ⟨q, 0, none⟩ = some v1 by rw [blk_cell h1]; rfl) id
    have HSZ : Hid (w.heap.size ≤ (W.drew.alloc (.cells #[.int .i64 (t : Int)] 3)).heap.size) := by show _ ≤ _; rw [World.size_alloc]; have : W.drew.heap.size = W.heap.size := rfl; omega
    have i1 : ((x.2 : Nat) : Int) < (ms.length : Int) := by omega
    have i2 : (0 : Int) ≤ ((x.2 : Nat) : Int) := by omega
    clear hTells h00 hkX hbX h1 h2 h3 h4 h2' hDW f0 f1 f2 HSK hpm hgx ht hxs hNn hqW hWF hvF P4 hl' hx hpre hD hof b1 b2 b3 b4 hk0 hb0 hD0 hm1 hml hnl hnx x1 x2
    generalize x.2 = b at *
    generalize x.1 = a1 at *
    generalize ms.length = M at *
    gi_wp2_with fail
    refine wpIn_held_rnd (S := fun W' => W'.cell? ⟨w.heap.size, 0, none⟩ = some (.pointer (some ⟨p, 0, none⟩)) ∧ W'.cell? ⟨p, 1, none⟩ = some (.slice (some ⟨bo, 0, none⟩) M M) ∧ W'.cell? ⟨bo, b, none⟩ = some (.int .i64 (t : Int))) (by kernel_rfl) (by kernel_rfl) HSd.out (fun hHeld => ?_)
    simp only [List.size_toArray, List.length_cons, List.length_nil, Nat.reduceAdd, Array.replicate_succ, Array.replicate_zero, List.push_toArray, List.nil_append, List.cons_append, List.append_toArray]
    refine take_op (i := 1) (v := ?_) rfl (by kernel_rfl) (by kernel_rfl) (by kernel_rfl) (fun _ _ _ h => h) (Or.inl ⟨by rfl, ?_⟩) (by assumption) ?_
    rotate_left
    · (intro w' hSw; (try dsimp only at hSw); go_simp; (try with_reducible rfl))
    (try simp only [Act.put, List.setIfInBounds_toArray, List.set_cons_zero, List.set_cons_succ])
    refine take_op (i := 2) (v := ?_) rfl (by kernel_rfl) (by kernel_rfl) (by kernel_rfl) (fun _ _ _ h => h) (Or.inl ⟨by rfl, ?_⟩) (by assumption) ?_
    rotate_left
    · (intro w' hSw; (try dsimp only at hSw); go_simp; (try with_reducible rfl))
    (try simp only [Act.put, List.setIfInBounds_toArray, List.set_cons_zero, List.set_cons_succ])
    refine take_op (i := 3) (v := ?_) rfl (by kernel_rfl) (by kernel_rfl) (by kernel_rfl) (fun _ _ _ h => h) (Or.inl ⟨by rfl, ?_⟩) (by assumption) ?_
    rotate_left
    · (intro w' hSw; (try dsimp only at hSw); go_simp; (try with_reducible rfl))
    (try simp only [Act.put, List.setIfInBounds_toArray, List.set_cons_zero, List.set_cons_succ])
    refine take_op (i := 4) (v := ?_) rfl (by kernel_rfl) (by kernel_rfl) (by kernel_rfl) (fun _ _ _ h => h) (Or.inl ⟨by rfl, ?_⟩) (by assumption) ?_
    rotate_left
    · (intro w' hSw; (try dsimp only at hSw); go_simp; (try with_reducible rfl))
    (try simp only [Act.put, List.setIfInBounds_toArray, List.set_cons_zero, List.set_cons_succ])
    refine take_op (i := 5) (v := ?_) rfl (by kernel_rfl) (by kernel_rfl) (by kernel_rfl) (fun _ _ _ h => h) (Or.inl ⟨by rfl, ?_⟩) (by assumption) ?_
    rotate_left
    · (intro w' hSw; (try dsimp only at hSw); go_simp; (try with_reducible rfl))
    (try simp only [Act.put, List.setIfInBounds_toArray, List.set_cons_zero, List.set_cons_succ])
    refine take_op (i := 6) (v := ?_) rfl (by kernel_rfl) (by kernel_rfl) (by kernel_rfl) (fun _ _ _ h => h) (Or.inl ⟨by rfl, ?_⟩) (by assumption) ?_
    rotate_left
    · (intro w' hSw; (try dsimp only at hSw); go_simp; (try with_reducible rfl))
    (try simp only [Act.put, List.setIfInBounds_toArray, List.set_cons_zero, List.set_cons_succ])
    refine take_op (i := 7) (v := ?_) rfl (by kernel_rfl) (by kernel_rfl) (by kernel_rfl) (fun _ _ _ h => h) (Or.inl ⟨by rfl, ?_⟩) (by assumption) ?_
    rotate_left
    · (intro w' hSw; (try dsimp only at hSw); go_simp; (try with_reducible rfl))
    (try simp only [Act.put, List.setIfInBounds_toArray, List.set_cons_zero, List.set_cons_succ])
    refine wpAnyH_ready (rs := [0, 8]) (by kernel_rfl) (by simp) ?_
    refine (cons_op rfl (fun K hK => ?_) (cons_op rfl (fun K hK => ?_) AllReadyH.nil))
    · go_simp
      refine hK.out _ _ HSd.out (fun hHeld => ?_)
      clear hK K
      (try simp only [Act.put, List.setIfInBounds_toArray, List.set_cons_zero, List.set_cons_succ])
      refine wpAnyH_ready (rs := [8]) (by kernel_rfl) (by simp) ?_
      refine (cons_op rfl (fun K hK => ?_) AllReadyH.nil)
      go_simp
      refine hK.out _ _ HSa.out (fun hHeld => ?_)
      clear hK K
      (try simp only [Act.put, List.setIfInBounds_toArray, List.set_cons_zero, List.set_cons_succ])
      refine wpAnyH_ready (rs := [9]) (by kernel_rfl) (by simp) ?_
      refine (cons_op rfl (fun K hK => ?_) AllReadyH.nil)
      refine step_append_lies _ rfl (.tmp 13) (.tmp 21) 36 rfl w.heap.size 3 i0 (.int .i64 0) 1 8 Tryz.underlying36 hi hz0 hz1 hz2 rfl (by decide) v1 N xs (by simp [Act.eval]) (HV.out.alloc _) ⟨W.drew.heap.size, 0, none⟩ 1 1 [.int .i64 (t : Int)] (by simp [Act.eval]) rfl HNe.out (by intro u hu; simp at hu; subst hu; rfl) (by decide) (by unfold maxLen; omega) (by omega) HSZ.out (W.drew.heap.size + 1) (by simp) ?_
      intro g2 cap2 w3 ho3 hg3 hat3 _
      obtain ⟨⟨hq1, hq2⟩, hS3, hS4, hfin⟩ := HR.out w3 g2 cap2 hg3 ho3 hat3
      have HZ := Lib.hid hfin
      clear ho3 hg3 hat3 hfin
      refine hK.out _ _ hS3 (fun hHeld => ?_)
      clear hK K
      (try simp only [Act.put, List.setIfInBounds_toArray, List.set_cons_zero, List.set_cons_succ])
      refine wpAnyH_ready (rs := [10]) (by kernel_rfl) (by simp) ?_
      refine (cons_op rfl (fun K hK => ?_) AllReadyH.nil)
      go_simp
      refine hK.out _ _ hS4 (fun hHeld => ?_)
      clear hK K
      (try simp only [Act.put, List.setIfInBounds_toArray, List.set_cons_zero, List.set_cons_succ])
      refine wpAnyH_done (by kernel_rfl) ?_ _
      exact HZ.out
    · go_simp
      refine hK.out _ _ HSa.out (fun hHeld => ?_)
      clear hK K
      (try simp only [Act.put, List.setIfInBounds_toArray, List.set_cons_zero, List.set_cons_succ])
      refine wpAnyH_ready (rs := [0]) (by kernel_rfl) (by simp) ?_
      refine (cons_op rfl (fun K hK => ?_) AllReadyH.nil)
      go_simp
      refine hK.out _ _ HSa.out (fun hHeld => ?_)
      clear hK K
      (try simp only [Act.put, List.setIfInBounds_toArray, List.set_cons_zero, List.set_cons_succ])
      refine wpAnyH_ready (rs := [9]) (by kernel_rfl) (by simp) ?_
      refine (cons_op rfl (fun K hK => ?_) AllReadyH.nil)
      refine step_append_lies _ rfl (.tmp 13) (.tmp 21) 36 rfl w.heap.size 3 i0 (.int .i64 0) 1 8 Tryz.underlying36 hi hz0 hz1 hz2 rfl (by decide) v1 N xs (by simp [Act.eval]) (HV.out.alloc _) ⟨W.drew.heap.size, 0, none⟩ 1 1 [.int .i64 (t : Int)] (by simp [Act.eval]) rfl HNe.out (by intro u hu; simp at hu; subst hu; rfl) (by decide) (by unfold maxLen; omega) (by omega) HSZ.out (W.drew.heap.size + 1) (by simp) ?_
      intro g2 cap2 w3 ho3 hg3 hat3 _
      obtain ⟨⟨hq1, hq2⟩, hS3, hS4, hfin⟩ := HR.out w3 g2 cap2 hg3 ho3 hat3
      have HZ := Lib.hid hfin
      clear ho3 hg3 hat3 hfin
      refine hK.out _ _ hS3 (fun hHeld => ?_)
      clear hK K
      (try simp only [Act.put, List.setIfInBounds_toArray, List.set_cons_zero, List.set_cons_succ])
      refine wpAnyH_ready (rs := [10]) (by kernel_rfl) (by simp) ?_
      refine (cons_op rfl (fun K hK => ?_) AllReadyH.nil)
      go_simp
      refine hK.out _ _ hS4 (fun hHeld => ?_)
      clear hK K
      (try simp only [Act.put, List.setIfInBounds_toArray, List.set_cons_zero, List.set_cons_succ])
      refine wpAnyH_done (by kernel_rfl) ?_ _
      exact HZ.out
  case done =>
    rintro D xs W hD rfl hI hK
    obtain ⟨⟨v', h1, h2, _⟩, h3⟩ := hI
    have hnx' : (dorK R C ms st s (st.cells.getD s []) (st.cells.getD s []).length).map gF = nxL R C ms st s := hnx
    rw [hnx', List.nil_append] at h2
    obtain ⟨NL, hNL⟩ : ∃ NL, NL = nxL R C ms st s := ⟨_, rfl⟩
    rw [← hNL] at h2 hm1 hml hnl
    have hlen : NL.length ≤ 100000 := by omega
    have HM := Lib.hid hm1
    have HML := Lib.hid hml
    have HL := Lib.hid hlen
    have HRow := Lib.hid h2
    have hqW := blk_lt h1
    have cq : W.cell? ⟨q, 0, none⟩ = some v' := by rw [blk_cell h1]; rfl
    have hvq : v'.ownBlock ≠ some q := fun e => by
      rcases h2.2 with ⟨rfl, _⟩ | ⟨g', cap', cur, rfl, _, hgg, _⟩
      · cases e
      · have : g' = q := by simpa [Value.ownBlock] using e
        subst this
        rw [h1] at hgg
        injection hgg with hgg
        injection hgg with _ hh _
        exact absurd hh (by decide)
    have hvD : v'.ownBlock ≠ some D := fun e => by
      rcases h2.2 with ⟨rfl, _⟩ | ⟨g', cap', cur, rfl, _, hgg, _⟩
      · cases e
      · have : g' = D := by simpa [Value.ownBlock] using e
        subst this
        rw [hK] at hgg
        cases hgg
    have hbW := hbX W h3
    have hvw : ∀ k, v'.ownBlock = some k → w.heap.size ≤ k := fun k e => (h2.lt k e).1
    have HF : Hid (∀ w4 w5 : World, Kept (fun k => v'.ownBlock = some k) W w4 → Kept (fun k => v'.ownBlock = some k) w4 w5 → w4.cell? ⟨q, 0, none⟩ = some v' ∧ w5.heap[D]? = some (.deferred (some [])) ∧ ∀ v5 : Value, w5.ownsRow w.heap.size 3 1 v5 m.length (m.map natV) → (v5.ownBlock = v'.ownBlock) → NxP w m (.returned v5) (w5.putObj D (.deferred none))) := by
      intro w4 w5 k4 k5
      have k45 := k4.trans k5 (fun _ _ h => h)
      refine ⟨k4.cell cq hvq, (k45.block D (blk_lt hK) hvD).trans hK, fun v5 ho5 hv5 => ⟨v5, rfl, ?_, ?_⟩⟩
      · refine ho5.kept (grownBy_putObj' w5 D (.deferred none)) ?_
        exact .inr (fun e => hvD (by rw [← hv5]; exact e))
      · have hb5 : Below w.heap.size w w5 := hbW.trans (k45.below (fun k hk => hvw k hk) hbW.size)
        exact hb5.trans ⟨rfl, rfl, rfl, by simp [World.putObj], fun k hk => World.putObj_heap_other (by omega)⟩
    clear hTells h00 hkX hbX h1 h2 h3 hD hof b1 b2 b3 b4 hk0 hb0 hD0 hm1 hml hnl hnx hnx' hvq hvD hbW hvw hlen hqW hNL
    gi_wp2_with fail
    refine ⟨trivial, (callsIn_wide.2 (sortQ_any HRow.out HL.out)).mono ?_⟩
    rintro e w4 ⟨rfl, ho4, hk4⟩
    have HO4 := Lib.hid ho4
    have HK4 := Lib.hid hk4
    have c4 := (HF.out w4 w4 hk4 (Kept.refl _ _)).1
    have HL4 : Hid ((srtQ NL).length ≤ 100000) := by show _ ≤ _; rw [srtQ_length]; exact HL.out
    clear ho4 hk4 cq
    gi_wp2_with fail
    refine ⟨trivial, (callsIn_wide.2 (compactQ_any HO4.out HL4.out HM.out HML.out)).mono ?_⟩
    rintro e w5 ⟨v5, rfl, hv5, ho5, hk5⟩
    obtain ⟨_, hD5, hfin⟩ := HF.out w4 w5 HK4.out hk5
    have HFin := Lib.hid (hfin v5 ho5 hv5)
    clear c4 hk5 ho5 hv5 hfin
    gi_wp2
    refine ⟨by simp, .inl ⟨_, _, rfl, run_takeDeferred hD5, ?_⟩⟩
    exact ⟨v5, results_tmp (fn := Tryz.f25) (t := 4) rfl _ _ _, HFin.out⟩
end Go.Proofs.YtekhlaodlagbdaaGreatDoor
