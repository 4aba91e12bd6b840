/-
  The law WireReads.
-/
import Derived.Test.YtmfbokaaoffdnaaDoorWrGd
import Derived.Test.YtmfbokaaoffdnaaDoorWrGe
import Derived.Test.YtmfbokaaoffdnaaDoorWrGf
import Derived.Test.YtmfbokaaoffdnaaDoorWrY
import Derived.Test.YtmfbokaaoffdnaaDoorWrT
import Derived.Test.YtmfbokaaoffdnaaDoorWrM
import Derived.Test.YtmfbokaaoffdnaaDoorTk
namespace Go.Proofs.YtmfbokaaoffdnaaDoor
set_option maxRecDepth 100000
set_option linter.unusedSimpArgs false
open Go Go.RowKit Wr

/-- The document's Read answers as Read. -/
theorem rread_any {w : World} {A : Option Addr} {l : List Nat} (cap : Nat) (hB : BytesAt w A l) (hlt : ∀ c ∈ l, c < 256) (hl : l.length ≤ 1000) :
    Calls Tryd.prog 13 #[.slice A l.length cap] w (ReadPost w l) := by
  cases hOK : okP (gss l) with
  | false => exact rread_no cap hB hlt hl hOK
  | true =>
    by_cases hbe : Wr.bytes (gss l) = l
    · exact rread_eq cap hB hlt hl hOK hbe
    · exact rread_ne cap hB hlt hl hOK hbe

/-- What is read, or the packet that is none's. -/
def rdK (l : List Nat) : Pkt := (readF l).getD ⟨0, 0, 0, 0, 0, 0, ⟨0, 0, 0, 0, 0, 0, 0, 0, []⟩⟩
def rdE (l : List Nat) : Int := if (readF l).isSome then 0 else 70
theorem read_both {w : World} {l : List Nat} {e : Ending} {w' : World} (h : ReadPost w l e w') : ∃ A cap, e = .returned (.tuple #[pktA (rdK l) A (rdK l).msg.claims.length cap, .int .i64 (rdE l)]) ∧ ClaimsAt w' A (rdK l).msg.claims ∧ Below w.heap.size w w' := by
  obtain ⟨hb, ⟨h, rfl⟩ | ⟨p, A, cap, h, rfl, hc⟩⟩ := h
  · refine ⟨none, 0, ?_, ?_, hb⟩
    · simp [rdK, rdE, h]
    · simp only [rdK, h, Option.getD_none]; exact fun k hk => by simp at hk
  · refine ⟨A, cap, ?_, ?_, hb⟩
    · simp [rdK, rdE, h]
    · simpa [rdK, h] using hc
theorem rdK_len {l : List Nat} (hlt : ∀ c ∈ l, c < 256) : (rdK l).msg.claims.length ≤ 16 := by
  unfold rdK
  cases h : readF l with
  | none => simp
  | some p => exact okM_claims (okP_msg (read_some hlt h).2.1)
theorem wordI_str (k : Int) : ∃ S, wordI k = .string S := by
  unfold wordI
  split
  · rename_i h
    obtain ⟨j, rfl⟩ := Int.eq_ofNat_of_zero_le h.1
    have : j < 12 := by omega
    clear h
    simp only [Int.toNat_natCast]
    match j, this with
    | 0, _ | 1, _ | 2, _ | 3, _ | 4, _ | 5, _ | 6, _ | 7, _ | 8, _ | 9, _ | 10, _ | 11, _ => exact ⟨_, rfl⟩
  · exact ⟨_, rfl⟩

set_option maxHeartbeats 8000000 in
theorem wreads_small {w : World} (hT : Tab w) {B : Option Addr} {l : List Nat} (cb : Nat) (hB : BytesAt w B l) (hlt : ∀ c ∈ l, c < 256) (hcb : l.length ≤ cb) (hl : l.length ≤ 500) (k : Int) (m n : Msg) {A1 A2 : Option Addr} (c1 c2 : Nat) (h1 : ClaimsAt w A1 m.claims) (h2 : ClaimsAt w A2 n.claims) (hm : FitM m) (hn : FitM n) (hl1 : m.claims.length ≤ 100) (hl2 : n.claims.length ≤ 100) :
    Calls Tryd.prog 4 #[.slice B l.length cb, .int .i64 k, msgA m A1 m.claims.length c1, msgA n A2 n.claims.length c2] w fun e w' => e = .returned (.bool true) ∧ Below w.heap.size w w' := by
  obtain ⟨P, hP⟩ : ∃ P : Ending → World → Prop, P = fun e w' => e = .returned (.bool true) ∧ Below w.heap.size w w' := ⟨_, rfl⟩
  have HQ : Hid (∀ w', Below w.heap.size w w' → P (.returned (.bool true)) w') := by rw [hP]; exact fun w' h => ⟨rfl, h⟩
  rw [← hP]
  clear hP
  obtain ⟨W0, hW0⟩ : ∃ W0, W0 = (w.alloc (.cells (msgC2 m A1 m.claims.length c1) 26)).alloc (.cells (msgC2 n A2 n.claims.length c2) 26) := ⟨_, rfl⟩
  have HWB : Hid (Below w.heap.size w W0) := by rw [hW0]; exact ((Below.refl _ w).alloc (Nat.le_refl _) _).alloc (by simp) _
  have hb1 : W0.heap[w.heap.size]? = some (.cells (msgC2 m A1 m.claims.length c1) 26 (0, 0)) := by rw [hW0]; exact (Below.heap_alloc _ _ _ (by simp)).trans (World.alloc_heap_new w _)
  have hb2 : W0.heap[w.heap.size + 1]? = some (.cells (msgC2 n A2 n.claims.length c2) 26 (0, 0)) := by
    rw [hW0]
    have := World.alloc_heap_new (w.alloc (.cells (msgC2 m A1 m.claims.length c1) 26)) (.cells (msgC2 n A2 n.claims.length c2) 26)
    rwa [World.size_alloc] at this
  have HBW : Hid (∀ W, Below W0.heap.size W0 W → Below w.heap.size w W) := fun W h => HWB.out.trans (h.mono HWB.out.size)
  have HM0 : Hid (∀ W, Below W0.heap.size W0 W → W.heap[w.heap.size]? = some (.cells (msgC2 m A1 m.claims.length c1) 26 (0, 0))) := fun W h => (h.block _ (blk_lt hb1)).trans hb1
  have HN0 : Hid (∀ W, Below W0.heap.size W0 W → W.heap[w.heap.size + 1]? = some (.cells (msgC2 n A2 n.claims.length c2) 26 (0, 0))) := fun W h => (h.block _ (blk_lt hb2)).trans hb2
  have HPL : Hid ((rdK l).msg.claims.length ≤ 16) := rdK_len hlt
  obtain ⟨L, hL⟩ : ∃ L, L = l.length := ⟨_, rfl⟩
  have K1 : Hid (∀ W, Below W0.heap.size W0 W → Calls Tryd.prog 12 #[.slice B L cb] W fun e w' => ∃ A cap, e = .returned (.tuple #[pktA (rdK l) A (rdK l).msg.claims.length cap, .int .i64 (rdE l)]) ∧ ClaimsAt w' A (rdK l).msg.claims ∧ Below W.heap.size W w') := fun W h => by
    have h' := HBW.out W h
    rw [hL]
    exact (read_any (hT.below h') (hB.below h') hcb hlt (by omega)).mono fun e w' hr => read_both hr
  have K2 : Hid (∀ W, Below W0.heap.size W0 W → Calls Tryd.prog 13 #[.slice B L cb] W fun e w' => ∃ A cap, e = .returned (.tuple #[pktA (rdK l) A (rdK l).msg.claims.length cap, .int .i64 (rdE l)]) ∧ ClaimsAt w' A (rdK l).msg.claims ∧ Below W.heap.size W w') := fun W h => by
    have h' := HBW.out W h
    rw [hL]
    exact (rread_any cb (hB.below h') hlt (by omega)).mono fun e w' hr => read_both hr
  obtain ⟨S, hS⟩ := wordI_str k
  have KA0 : Hid (∀ W, Below W0.heap.size W0 W → Calls Tryd.prog 15 #[.int .i64 k] W fun e w' => e = .returned (.string S) ∧ w' = W) := fun W h => by rw [← hS]; exact name_any (hT.below (HBW.out W h)) k
  have KB0 : Hid (∀ W, Calls Tryd.prog 16 #[.int .i64 k] W fun e w' => e = .returned (.string S) ∧ w' = W) := fun W => by rw [← hS]; exact rname_any W k
  obtain ⟨b, hbq⟩ : ∃ b, b = decide (m = n) := ⟨_, rfl⟩
  obtain ⟨n1, hn1⟩ : ∃ n1, n1 = m.claims.length := ⟨_, rfl⟩
  obtain ⟨n2, hn2⟩ : ∃ n2, n2 = n.claims.length := ⟨_, rfl⟩
  have KC0 : Hid (∀ W, Below W0.heap.size W0 W → Calls Tryd.prog 17 #[msgA m A1 n1 c1, msgA n A2 n2 c2] W fun e w' => e = .returned (.bool b) ∧ Below W.heap.size W w') := fun W h => by
    have h' := HBW.out W h
    rw [hbq, hn1, hn2]
    exact same_any m n c1 c2 (h1.below h') (h2.below h') (by omega) (by omega) hm hn
  have KD0 : Hid (∀ W, Below W0.heap.size W0 W → Calls Tryd.prog 18 #[msgA m A1 n1 c1, msgA n A2 n2 c2] W fun e w' => e = .returned (.bool b) ∧ Below W.heap.size W w') := fun W h => by
    have h' := HBW.out W h
    rw [hbq, hn1, hn2]
    exact rsame_any m n c1 c2 (h1.below h') (h2.below h') (by omega) (by omega)
  have KF0 : Hid (∀ W, Below W0.heap.size W0 W → Calls Tryd.prog 17 #[msgA m A1 n1 c1, msgA m A1 n1 c1] W fun e w' => e = .returned (.bool true) ∧ Below W.heap.size W w') := fun W h => by
    have h' := HBW.out W h
    rw [hn1]
    have := same_any m m c1 c1 (h1.below h') (h1.below h') (by omega) (by omega) hm hm
    rwa [decide_eq_true (rfl : m = m)] at this
  have hl500 : L ≤ 500 := by omega
  have hn1b : n1 ≤ 100 := by omega
  have hn2b : n2 ≤ 100 := by omega
  rw [← hL, ← hn1, ← hn2]
  rw [← hn1] at HM0 hW0
  rw [← hn2] at HN0 hW0
  generalize rdE l = E at *
  generalize rdK l = p at *
  obtain ⟨np, hnp⟩ : ∃ np, np = p.msg.claims.length := ⟨_, rfl⟩
  have KE0 : Hid (∀ W Ax Ay cx cy, ClaimsAt W Ax p.msg.claims → ClaimsAt W Ay p.msg.claims → Calls Tryd.prog 14 #[pktA p Ax np cx, pktA p Ay np cy] W fun e w' => e = .returned (.bool true) ∧ Below W.heap.size W w') := fun W Ax Ay cx cy hx hy => by
    have hp := HPL.out
    rw [hnp]
    have := requal_any p p cx cy hx hy (by omega) (by omega)
    rwa [decide_eq_true (rfl : p = p)] at this
  rw [← hnp] at K1 K2
  have HNP := Lib.hid hnp
  clear hT hB hlt hcb hl h1 h2 hm hn hl1 hl2 hb1 hb2 hL hS hbq hn1 hn2 hnp HPL
  simp only [pktA, msgA] at K1 K2 KC0 KD0 KF0 KE0 ⊢
  go_enter Tryd.func4, Tryd.ntmps4
  go_wp2_with fail
  simp only [msgC2] at hW0
  rw [← hW0]
  clear hW0
  refine (K1.out _ (Below.refl _ W0)).mono ?_
  rintro e w1 ⟨Ax, cx, rfl, hCx, hb1⟩
  have HCX := Lib.hid hCx
  have HV1 := Lib.hid hb1
  clear K1 hCx hb1
  go_wp2_with fail
  obtain ⟨W1, hW1⟩ : ∃ W1, w1.alloc (.cells (pktC p Ax np cx) 28) = W1 := ⟨_, rfl⟩
  have HX1 : Hid (W1.heap[w1.heap.size]? = some (.cells (pktC p Ax np cx) 28 (0, 0))) := by rw [← hW1]; exact World.alloc_heap_new w1 _
  have HW1 : Hid (Below w1.heap.size w1 W1) := by rw [← hW1]; exact (Below.refl _ w1).alloc (Nat.le_refl _) _
  simp only [pktC] at hW1
  rw [hW1]
  clear hW1
  have HV1' : Hid (Below W0.heap.size W0 W1) := HV1.out.trans (HW1.out.mono HV1.out.size)
  refine (K2.out _ HV1'.out).mono ?_
  rintro e w2 ⟨Ay, cy, rfl, hCy, hb2⟩
  have HCY := Lib.hid hCy
  have HV2 := Lib.hid hb2
  clear K2 hCy hb2
  go_wp2_with fail
  obtain ⟨W2, hW2⟩ : ∃ W2, w2.alloc (.cells (pktC p Ay np cy) 28) = W2 := ⟨_, rfl⟩
  have hY2 : W2.heap[w2.heap.size]? = some (.cells (pktC p Ay np cy) 28 (0, 0)) := by rw [← hW2]; exact World.alloc_heap_new w2 _
  have hw2 : Below w2.heap.size w2 W2 := by rw [← hW2]; exact (Below.refl _ w2).alloc (Nat.le_refl _) _
  simp only [pktC] at hW2
  rw [hW2]
  clear hW2
  have h12 : Below W1.heap.size W1 W2 := HV2.out.trans (hw2.mono HV2.out.size)
  have h02 : Below W0.heap.size W0 W2 := HV1'.out.trans (h12.mono HV1'.out.size)
  have hx2 : W2.heap[w1.heap.size]? = some (.cells (pktC p Ax np cx) 28 (0, 0)) := (h12.block _ (blk_lt HX1.out)).trans HX1.out
  have HB02 : Hid (∀ W, Below W2.heap.size W2 W → Below W0.heap.size W0 W) := fun W h => h02.trans (h.mono h02.size)
  have HX : Hid (∀ W, Below W2.heap.size W2 W → W.heap[w1.heap.size]? = some (.cells (pktC p Ax np cx) 28 (0, 0))) := fun W h => (h.block _ (blk_lt hx2)).trans hx2
  have HY : Hid (∀ W, Below W2.heap.size W2 W → W.heap[w2.heap.size]? = some (.cells (pktC p Ay np cy) 28 (0, 0))) := fun W h => (h.block _ (blk_lt hY2)).trans hY2
  have HM : Hid (∀ W, Below W2.heap.size W2 W → W.heap[w.heap.size]? = some (.cells (msgC2 m A1 n1 c1) 26 (0, 0))) := fun W h => HM0.out W (HB02.out W h)
  have HN : Hid (∀ W, Below W2.heap.size W2 W → W.heap[w.heap.size + 1]? = some (.cells (msgC2 n A2 n2 c2) 26 (0, 0))) := fun W h => HN0.out W (HB02.out W h)
  have KE : Hid (∀ W, Below W2.heap.size W2 W → Calls Tryd.prog 14 #[pktA p Ax np cx, pktA p Ay np cy] W fun e w' => e = .returned (.bool true) ∧ Below W2.heap.size W2 w') := fun W h =>
    (KE0.out W Ax Ay cx cy ((HCX.out.below (HW1.out)).below (h12.trans (h.mono h12.size))) ((HCY.out.below hw2).below h)).mono fun e w' hr => ⟨hr.1, h.trans (hr.2.mono h.size)⟩
  have KA : Hid (∀ W, Below W2.heap.size W2 W → Calls Tryd.prog 15 #[.int .i64 k] W fun e w' => e = .returned (.string S) ∧ Below W2.heap.size W2 w') := fun W h => (KA0.out W (HB02.out W h)).mono fun e w' hr => ⟨hr.1, by rw [hr.2]; exact h⟩
  have KB : Hid (∀ W, Below W2.heap.size W2 W → Calls Tryd.prog 16 #[.int .i64 k] W fun e w' => e = .returned (.string S) ∧ Below W2.heap.size W2 w') := fun W h => (KB0.out W).mono fun e w' hr => ⟨hr.1, by rw [hr.2]; exact h⟩
  have KC : Hid (∀ W, Below W2.heap.size W2 W → Calls Tryd.prog 17 #[msgA m A1 n1 c1, msgA n A2 n2 c2] W fun e w' => e = .returned (.bool b) ∧ Below W2.heap.size W2 w') := fun W h => (KC0.out W (HB02.out W h)).mono fun e w' hr => ⟨hr.1, h.trans (hr.2.mono h.size)⟩
  have KD : Hid (∀ W, Below W2.heap.size W2 W → Calls Tryd.prog 18 #[msgA m A1 n1 c1, msgA n A2 n2 c2] W fun e w' => e = .returned (.bool b) ∧ Below W2.heap.size W2 w') := fun W h => (KD0.out W (HB02.out W h)).mono fun e w' hr => ⟨hr.1, h.trans (hr.2.mono h.size)⟩
  have KF : Hid (∀ W, Below W2.heap.size W2 W → Calls Tryd.prog 17 #[msgA m A1 n1 c1, msgA m A1 n1 c1] W fun e w' => e = .returned (.bool true) ∧ Below W2.heap.size W2 w') := fun W h => (KF0.out W (HB02.out W h)).mono fun e w' hr => ⟨hr.1, h.trans (hr.2.mono h.size)⟩
  have HFB : Hid (∀ W, Below W2.heap.size W2 W → Below w.heap.size w W) := fun W h => HBW.out W (HB02.out W h)
  simp only [pktA, msgA] at KE KC KD KF
  have hEE : (E == E) = true := by simp
  have hss : (S.toList == S.toList) = true := by simp
  have hbb : (b == b) = true := by simp
  have d0 : Below W2.heap.size W2 W2.drew := (Below.refl _ _).drew
  clear KE0 KA0 KB0 KC0 KD0 KF0 HM0 HN0 HBW HB02 HX1 HW1 HV1 HV1' HV2 HCX HCY hY2 hw2 h12 h02 hx2 HNP HWB
  refine wp_region_held_drew (S := Below W2.heap.size W2) (by kernel_rfl) d0 (fun hHeld => ?_)
  simp only [List.size_toArray, List.length_cons, List.length_nil, Nat.reduceAdd, Array.replicate_succ, Array.replicate_zero, List.push_toArray, List.nil_append, List.cons_append, List.append_toArray]
  refine take_op (i := 0) (v := ?_) rfl (by kernel_rfl) (by kernel_rfl) (by kernel_rfl) (fun _ _ _ h => h) (Or.inl ⟨by rfl, ?_⟩) (by assumption) ?_
  rotate_left
  · (intro w' hSw; (try dsimp only at hSw); go_simp; (try with_reducible rfl))
  simp only [Act.put, List.setIfInBounds_toArray, List.set_cons_zero, List.set_cons_succ]
  refine take_op (i := 1) (v := ?_) rfl (by kernel_rfl) (by kernel_rfl) (by kernel_rfl) (fun _ _ _ h => h) (Or.inl ⟨by rfl, ?_⟩) (by assumption) ?_
  rotate_left
  · (intro w' hSw; (try dsimp only at hSw); go_simp; (try with_reducible rfl))
  simp only [Act.put, List.setIfInBounds_toArray, List.set_cons_zero, List.set_cons_succ]
  refine take_op (i := 2) (v := ?_) rfl (by kernel_rfl) (by kernel_rfl) (by kernel_rfl) (fun _ _ _ h => h) (Or.inl ⟨by rfl, ?_⟩) (by assumption) ?_
  rotate_left
  · (intro w' hSw; (try dsimp only at hSw); go_simp; (try with_reducible rfl))
  simp only [Act.put, List.setIfInBounds_toArray, List.set_cons_zero, List.set_cons_succ]
  refine take_op (i := 3) (v := ?_) rfl (by kernel_rfl) (by kernel_rfl) (by kernel_rfl) (fun _ _ _ h => h) (Or.inl ⟨by rfl, ?_⟩) (by assumption) ?_
  rotate_left
  · (intro w' hSw; (try dsimp only at hSw); go_simp; (try with_reducible rfl))
  simp only [Act.put, List.setIfInBounds_toArray, List.set_cons_zero, List.set_cons_succ]
  refine take_op (i := 4) (v := ?_) rfl (by kernel_rfl) (by kernel_rfl) (by kernel_rfl) (fun _ _ _ h => h) (Or.inl ⟨by rfl, ?_⟩) (by assumption) ?_
  rotate_left
  · (intro w' hSw; obtain ⟨z0, z1, z2, z3, z4, z5, z6, z7, z8, z9, z10, z11, z12, z13, z14⟩ := pkt_cells (HX.out _ hSw); go_simp; (try with_reducible rfl))
  simp only [Act.put, List.setIfInBounds_toArray, List.set_cons_zero, List.set_cons_succ]
  refine take_op (i := 5) (v := ?_) rfl (by kernel_rfl) (by kernel_rfl) (by kernel_rfl) (fun _ _ _ h => h) (Or.inl ⟨by rfl, ?_⟩) (by assumption) ?_
  rotate_left
  · (intro w' hSw; obtain ⟨z0, z1, z2, z3, z4, z5, z6, z7, z8, z9, z10, z11, z12, z13, z14⟩ := pkt_cells (HY.out _ hSw); go_simp; (try with_reducible rfl))
  simp only [Act.put, List.setIfInBounds_toArray, List.set_cons_zero, List.set_cons_succ]
  refine wpAnyH_ready (rs := [6]) (by kernel_rfl) (by simp) ?_
  refine cons_op rfl (fun K hK => ?_) AllReadyH.nil
  go_simp
  with_reducible refine (KE.out _ d0).mono ?_
  rintro e w6 ⟨rfl, hb6⟩
  (try go_wp2_with fail)
  refine hK.out _ _ hb6 (fun hHeld => ?_)
  clear hK K
  (try simp only [Act.put, List.setIfInBounds_toArray, List.set_cons_zero, List.set_cons_succ])
  refine take_op (i := 7) (v := ?_) rfl (by kernel_rfl) (by kernel_rfl) (by kernel_rfl) (fun _ _ _ h => h) (Or.inl ⟨by rfl, ?_⟩) (by assumption) ?_
  rotate_left
  · (intro w' hSw; (try dsimp only at hSw); go_simp; (try with_reducible rfl))
  simp only [Act.put, List.setIfInBounds_toArray, List.set_cons_zero, List.set_cons_succ]
  refine take_op (i := 8) (v := ?_) rfl (by kernel_rfl) (by kernel_rfl) (by kernel_rfl) (fun _ _ _ h => h) (Or.inl ⟨by rfl, ?_⟩) (by assumption) ?_
  rotate_left
  · (intro w' hSw; (try dsimp only at hSw); go_simp; (try with_reducible rfl))
  simp only [Act.put, List.setIfInBounds_toArray, List.set_cons_zero, List.set_cons_succ]
  refine take_op (i := 9) (v := ?_) rfl (by kernel_rfl) (by kernel_rfl) (by kernel_rfl) (fun _ _ _ h => h) (Or.inl ⟨by rfl, ?_⟩) (by assumption) ?_
  rotate_left
  · (intro w' hSw; (try dsimp only at hSw); go_simp; (try with_reducible rfl))
  simp only [Act.put, List.setIfInBounds_toArray, List.set_cons_zero, List.set_cons_succ]
  refine take_op (i := 11) (v := ?_) rfl (by kernel_rfl) (by kernel_rfl) (by kernel_rfl) (fun _ _ _ h => h) (Or.inl ⟨by rfl, ?_⟩) (by assumption) ?_
  rotate_left
  · (intro w' hSw; (try dsimp only at hSw); go_simp; (try with_reducible rfl))
  simp only [Act.put, List.setIfInBounds_toArray, List.set_cons_zero, List.set_cons_succ]
  refine wpAnyH_ready (rs := [10]) (by kernel_rfl) (by simp) ?_
  refine cons_op rfl (fun K hK => ?_) AllReadyH.nil
  go_simp
  with_reducible refine (KA.out _ hb6).mono ?_
  rintro e w10 ⟨rfl, hb10⟩
  (try go_wp2_with fail)
  refine hK.out _ _ hb10 (fun hHeld => ?_)
  clear hK K
  (try simp only [Act.put, List.setIfInBounds_toArray, List.set_cons_zero, List.set_cons_succ])
  refine wpAnyH_ready (rs := [12]) (by kernel_rfl) (by simp) ?_
  refine cons_op rfl (fun K hK => ?_) AllReadyH.nil
  go_simp
  with_reducible refine (KB.out _ hb10).mono ?_
  rintro e w12 ⟨rfl, hb12⟩
  (try go_wp2_with fail)
  refine hK.out _ _ hb12 (fun hHeld => ?_)
  clear hK K
  (try simp only [Act.put, List.setIfInBounds_toArray, List.set_cons_zero, List.set_cons_succ])
  refine take_op (i := 13) (v := ?_) rfl (by kernel_rfl) (by kernel_rfl) (by kernel_rfl) (fun _ _ _ h => h) (Or.inl ⟨by rfl, ?_⟩) (by assumption) ?_
  rotate_left
  · (intro w' hSw; (try dsimp only at hSw); go_simp; (try with_reducible rfl))
  simp only [Act.put, List.setIfInBounds_toArray, List.set_cons_zero, List.set_cons_succ]
  refine take_op (i := 14) (v := ?_) rfl (by kernel_rfl) (by kernel_rfl) (by kernel_rfl) (fun _ _ _ h => h) (Or.inl ⟨by rfl, ?_⟩) (by assumption) ?_
  rotate_left
  · (intro w' hSw; (try dsimp only at hSw); go_simp; (try with_reducible rfl))
  simp only [Act.put, List.setIfInBounds_toArray, List.set_cons_zero, List.set_cons_succ]
  refine take_op (i := 15) (v := ?_) rfl (by kernel_rfl) (by kernel_rfl) (by kernel_rfl) (fun _ _ _ h => h) (Or.inl ⟨by rfl, ?_⟩) (by assumption) ?_
  rotate_left
  · (intro w' hSw; (try dsimp only at hSw); go_simp; (try with_reducible rfl))
  simp only [Act.put, List.setIfInBounds_toArray, List.set_cons_zero, List.set_cons_succ]
  refine take_op (i := 16) (v := ?_) rfl (by kernel_rfl) (by kernel_rfl) (by kernel_rfl) (fun _ _ _ h => h) (Or.inl ⟨by rfl, ?_⟩) (by assumption) ?_
  rotate_left
  · (intro w' hSw; obtain ⟨z0, z1, z2, z3, z4, z5, z6, z7, z8⟩ := msg_cells (HM.out _ hSw); go_simp; (try with_reducible rfl))
  simp only [Act.put, List.setIfInBounds_toArray, List.set_cons_zero, List.set_cons_succ]
  refine take_op (i := 17) (v := ?_) rfl (by kernel_rfl) (by kernel_rfl) (by kernel_rfl) (fun _ _ _ h => h) (Or.inl ⟨by rfl, ?_⟩) (by assumption) ?_
  rotate_left
  · (intro w' hSw; obtain ⟨z0, z1, z2, z3, z4, z5, z6, z7, z8⟩ := msg_cells (HN.out _ hSw); go_simp; (try with_reducible rfl))
  simp only [Act.put, List.setIfInBounds_toArray, List.set_cons_zero, List.set_cons_succ]
  refine take_op (i := 19) (v := ?_) rfl (by kernel_rfl) (by kernel_rfl) (by kernel_rfl) (fun _ _ _ h => h) (Or.inl ⟨by rfl, ?_⟩) (by assumption) ?_
  rotate_left
  · (intro w' hSw; obtain ⟨z0, z1, z2, z3, z4, z5, z6, z7, z8⟩ := msg_cells (HM.out _ hSw); go_simp; (try with_reducible rfl))
  simp only [Act.put, List.setIfInBounds_toArray, List.set_cons_zero, List.set_cons_succ]
  refine take_op (i := 20) (v := ?_) rfl (by kernel_rfl) (by kernel_rfl) (by kernel_rfl) (fun _ _ _ h => h) (Or.inl ⟨by rfl, ?_⟩) (by assumption) ?_
  rotate_left
  · (intro w' hSw; obtain ⟨z0, z1, z2, z3, z4, z5, z6, z7, z8⟩ := msg_cells (HN.out _ hSw); go_simp; (try with_reducible rfl))
  simp only [Act.put, List.setIfInBounds_toArray, List.set_cons_zero, List.set_cons_succ]
  refine wpAnyH_ready (rs := [18]) (by kernel_rfl) (by simp) ?_
  refine cons_op rfl (fun K hK => ?_) AllReadyH.nil
  go_simp
  with_reducible refine (KC.out _ hb12).mono ?_
  rintro e w18 ⟨rfl, hb18⟩
  (try go_wp2_with fail)
  refine hK.out _ _ hb18 (fun hHeld => ?_)
  clear hK K
  (try simp only [Act.put, List.setIfInBounds_toArray, List.set_cons_zero, List.set_cons_succ])
  refine wpAnyH_ready (rs := [21]) (by kernel_rfl) (by simp) ?_
  refine cons_op rfl (fun K hK => ?_) AllReadyH.nil
  go_simp
  with_reducible refine (KD.out _ hb18).mono ?_
  rintro e w21 ⟨rfl, hb21⟩
  (try go_wp2_with fail)
  refine hK.out _ _ hb21 (fun hHeld => ?_)
  clear hK K
  (try simp only [Act.put, List.setIfInBounds_toArray, List.set_cons_zero, List.set_cons_succ])
  refine take_op (i := 22) (v := ?_) rfl (by kernel_rfl) (by kernel_rfl) (by kernel_rfl) (fun _ _ _ h => h) (Or.inl ⟨by rfl, ?_⟩) (by assumption) ?_
  rotate_left
  · (intro w' hSw; (try dsimp only at hSw); go_simp; (try with_reducible rfl))
  simp only [Act.put, List.setIfInBounds_toArray, List.set_cons_zero, List.set_cons_succ]
  refine take_op (i := 23) (v := ?_) rfl (by kernel_rfl) (by kernel_rfl) (by kernel_rfl) (fun _ _ _ h => h) (Or.inl ⟨by rfl, ?_⟩) (by assumption) ?_
  rotate_left
  · (intro w' hSw; (try dsimp only at hSw); go_simp; (try with_reducible rfl))
  simp only [Act.put, List.setIfInBounds_toArray, List.set_cons_zero, List.set_cons_succ]
  refine take_op (i := 24) (v := ?_) rfl (by kernel_rfl) (by kernel_rfl) (by kernel_rfl) (fun _ _ _ h => h) (Or.inl ⟨by rfl, ?_⟩) (by assumption) ?_
  rotate_left
  · (intro w' hSw; (try dsimp only at hSw); go_simp; (try with_reducible rfl))
  simp only [Act.put, List.setIfInBounds_toArray, List.set_cons_zero, List.set_cons_succ]
  refine take_op (i := 25) (v := ?_) rfl (by kernel_rfl) (by kernel_rfl) (by kernel_rfl) (fun _ _ _ h => h) (Or.inl ⟨by rfl, ?_⟩) (by assumption) ?_
  rotate_left
  · (intro w' hSw; obtain ⟨z0, z1, z2, z3, z4, z5, z6, z7, z8⟩ := msg_cells (HM.out _ hSw); go_simp; (try with_reducible rfl))
  simp only [Act.put, List.setIfInBounds_toArray, List.set_cons_zero, List.set_cons_succ]
  refine take_op (i := 26) (v := ?_) rfl (by kernel_rfl) (by kernel_rfl) (by kernel_rfl) (fun _ _ _ h => h) (Or.inl ⟨by rfl, ?_⟩) (by assumption) ?_
  rotate_left
  · (intro w' hSw; obtain ⟨z0, z1, z2, z3, z4, z5, z6, z7, z8⟩ := msg_cells (HM.out _ hSw); go_simp; (try with_reducible rfl))
  simp only [Act.put, List.setIfInBounds_toArray, List.set_cons_zero, List.set_cons_succ]
  refine wpAnyH_ready (rs := [27]) (by kernel_rfl) (by simp) ?_
  refine cons_op rfl (fun K hK => ?_) AllReadyH.nil
  go_simp
  with_reducible refine (KF.out _ hb21).mono ?_
  rintro e w27 ⟨rfl, hb27⟩
  (try go_wp2_with fail)
  refine hK.out _ _ hb27 (fun hHeld => ?_)
  clear hK K
  (try simp only [Act.put, List.setIfInBounds_toArray, List.set_cons_zero, List.set_cons_succ])
  refine take_op (i := 28) (v := ?_) rfl (by kernel_rfl) (by kernel_rfl) (by kernel_rfl) (fun _ _ _ h => h) (Or.inl ⟨by rfl, ?_⟩) (by assumption) ?_
  rotate_left
  · (intro w' hSw; (try dsimp only at hSw); go_simp; (try with_reducible rfl))
  simp only [Act.put, List.setIfInBounds_toArray, List.set_cons_zero, List.set_cons_succ]
  refine take_op (i := 29) (v := ?_) rfl (by kernel_rfl) (by kernel_rfl) (by kernel_rfl) (fun _ _ _ h => h) (Or.inl ⟨by rfl, ?_⟩) (by assumption) ?_
  rotate_left
  · (intro w' hSw; (try dsimp only at hSw); go_simp; (try with_reducible rfl))
  simp only [Act.put, List.setIfInBounds_toArray, List.set_cons_zero, List.set_cons_succ]
  refine wpAnyH_done (by kernel_rfl) ?_ _
  have HFF : Hid (Below w.heap.size w w27) := HFB.out _ hb27
  clear KE KA KB KC KD KF HX HY HM HN d0 hb6 hb10 hb12 hb18 hb21 hb27
  go_wp2
  first | exact HQ.out _ HFF.out | (go_ret; exact HQ.out _ HFF.out)

/-- Over the bounds. -/
theorem wreads_big {w : World} {B : Option Addr} {L : Nat} (cb : Nat) (k : Int) (m n : Msg) {A1 A2 : Option Addr} (c1 c2 n1 n2 : Nat) (hL : L ≤ maxLen) (h1 : n1 ≤ maxLen) (h2 : n2 ≤ maxLen) (h : 500 < L ∨ L ≤ 500 ∧ 100 < n1 ∨ L ≤ 500 ∧ n1 ≤ 100 ∧ 100 < n2) :
    Calls Tryd.prog 4 #[.slice B L cb, .int .i64 k, msgA m A1 n1 c1, msgA n A2 n2 c2] w fun e w' => e = .returned (.bool true) ∧ Below w.heap.size w w' := by
  obtain ⟨P, hP⟩ : ∃ P : Ending → World → Prop, P = fun e w' => e = .returned (.bool true) ∧ Below w.heap.size w w' := ⟨_, rfl⟩
  have HQ : Hid (∀ w', Below w.heap.size w w' → P (.returned (.bool true)) w') := by rw [hP]; exact fun w' h => ⟨rfl, h⟩
  rw [← hP]
  clear hP
  have hmx : maxLen < 9223372036854775808 := by decide
  have hLb : L < 9223372036854775808 := by omega
  have h1b : n1 < 9223372036854775808 := by omega
  have h2b : n2 < 9223372036854775808 := by omega
  have HW0 : Hid (Below w.heap.size w ((w.alloc (.cells (msgC2 m A1 n1 c1) 26)).alloc (.cells (msgC2 n A2 n2 c2) 26))) := ((Below.refl _ w).alloc (Nat.le_refl _) _).alloc (by simp) _
  clear hmx hL h1 h2
  simp only [msgA]
  rcases h with h | ⟨ha, h⟩ | ⟨ha, hb, h⟩
  · go_enter Tryd.func4, Tryd.ntmps4
    go_wp2
    first | exact HQ.out _ HW0.out | (go_ret; exact HQ.out _ HW0.out)
  · go_enter Tryd.func4, Tryd.ntmps4
    go_wp2
    first | exact HQ.out _ HW0.out | (go_ret; exact HQ.out _ HW0.out)
  · go_enter Tryd.func4, Tryd.ntmps4
    go_wp2
    first | exact HQ.out _ HW0.out | (go_ret; exact HQ.out _ HW0.out)

/-- The law, for every argument. -/
theorem wreads_any {w : World} (hT : Tab w) {B : Option Addr} {l : List Nat} (cb : Nat) (hB : BytesAt w B l) (hlt : ∀ c ∈ l, c < 256) (hcb : l.length ≤ cb) (hcm : cb ≤ maxLen) (k : Int) (m n : Msg) {A1 A2 : Option Addr} (c1 c2 : Nat) (h1 : ClaimsAt w A1 m.claims) (h2 : ClaimsAt w A2 n.claims) (hm : FitM m) (hn : FitM n) (hl1 : m.claims.length ≤ maxLen) (hl2 : n.claims.length ≤ maxLen) :
    Calls Tryd.prog 4 #[.slice B l.length cb, .int .i64 k, msgA m A1 m.claims.length c1, msgA n A2 n.claims.length c2] w fun e w' => e = .returned (.bool true) ∧ Below w.heap.size w w' := by
  by_cases h : l.length ≤ 500 ∧ m.claims.length ≤ 100 ∧ n.claims.length ≤ 100
  · exact wreads_small hT cb hB hlt hcb h.1 k m n c1 c2 h1 h2 hm hn h.2.1 h.2.2
  · exact wreads_big cb k m n c1 c2 _ _ (by omega) hl1 hl2 (by omega)
end Go.Proofs.YtmfbokaaoffdnaaDoor
