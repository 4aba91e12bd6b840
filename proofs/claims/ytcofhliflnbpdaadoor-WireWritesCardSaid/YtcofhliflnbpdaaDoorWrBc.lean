/-
  The law WireWrites.
-/
import Derived.Test.YtcofhliflnbpdaaDoorWrBa
import Derived.Test.YtcofhliflnbpdaaDoorWrBb
import Derived.Test.YtcofhliflnbpdaaDoorWrN0
namespace Go.Proofs.YtcofhliflnbpdaaDoor
set_option maxRecDepth 100000
set_option linter.unusedSimpArgs false
open Go Go.RowKit Wr

/-- The packet to robot 1 with that message. -/
def toOne (m : Msg) : Pkt := ⟨0, 1, 0, 0, 0, 0, m⟩
theorem toOne_ok (m : Msg) : okP (toOne m) = okM m := by
  have h0 : isR 0 = true := by decide
  have h1 : isR 1 = true := by decide
  simp [okP, toOne, h0, h1]
theorem toOne_fits {p : Pkt} (h : Fits p) : Fits (toOne p.msg) := ⟨by show 0 < 4294967296; omega, by show 0 < 4294967296; omega, by show 0 < 4294967296; omega, by show 0 < 4294967296; omega, h.gen, h.stamp, h.cgen⟩
theorem toOne_len (m : Msg) : (Wr.bytes (toOne m)).length = sizeM m := bytes_len _

theorem wwrites_tt {w : World} (hT : Tab w) (p : Pkt) {A : Option Addr} (cap : Nat) (hC : ClaimsAt w A p.msg.claims) (hf : Fits p) (hlm : p.msg.claims.length ≤ 100) (ho : okP p = true) (hm : okM p.msg = true) :
    Calls Tryd.prog 3 #[pktA p A p.msg.claims.length cap] w fun e w' => e = .returned (.bool true) ∧ Below w.heap.size w w' := by
  obtain ⟨P, hP⟩ : ∃ P : Ending → World → Prop, P = fun e w' => e = .returned (.bool true) ∧ Below w.heap.size w w' := ⟨_, rfl⟩
  have HQ : Hid (∀ w', Below w.heap.size w w' → P (.returned (.bool true)) w') := by rw [hP]; exact fun w' h => ⟨rfl, h⟩
  rw [← hP]
  clear hP
  have HT := Lib.hid hT
  have HC := Lib.hid hC
  have HF := Lib.hid hf
  have HO := Lib.hid ho
  have HM := Lib.hid hm
  obtain ⟨n, hn⟩ : ∃ n, n = p.msg.claims.length := ⟨_, rfl⟩
  have HN := Lib.hid hn
  have hn100 : n ≤ 100 := by omega
  rw [← hn]
  clear hT hC hf hn hlm ho hm
  obtain ⟨w0, hw0⟩ : ∃ w0, w0 = w.alloc (.cells (pktC p A n cap) 28) := ⟨_, rfl⟩
  have hb0 : w0.heap[w.heap.size]? = some (.cells (pktC p A n cap) 28 (0, 0)) := by rw [hw0]; exact World.alloc_heap_new w _
  have hW0 : Below w.heap.size w w0 := by rw [hw0]; exact (Below.refl _ w).alloc (Nat.le_refl _) _
  have HB : Hid (∀ W, Below w0.heap.size w0 W → Below w.heap.size w W ∧ Tab W ∧ ClaimsAt W A p.msg.claims) := fun W h => have h' := hW0.trans (h.mono hW0.size); ⟨h', HT.out.below h', HC.out.below h'⟩
  have HP : Hid (∀ W, Below w0.heap.size w0 W → W.heap[w.heap.size]? = some (.cells (pktC p A n cap) 28 (0, 0))) := fun W h => (h.block _ (blk_lt hb0)).trans hb0
  have HV0 : Hid (Below w0.heap.size w0 w0) := Below.refl _ w0
  have K1 : Hid (∀ W, Below w0.heap.size w0 W → Calls Tryd.prog 5 #[pktA p A n cap] W fun e w' => e = .returned (.bool true) ∧ Below W.heap.size W w') := fun W h => by
    have := rmayP_any p cap (HB.out W h).2.2 HF.out.gen HF.out.stamp
    rwa [HO.out, ← HN.out] at this
  have K2 : Hid (∀ W, Below w0.heap.size w0 W → Calls Tryd.prog 6 #[msgA p.msg A n cap] W fun e w' => e = .returned (.bool true) ∧ Below W.heap.size W w') := fun W h => by
    have := rmay_any p.msg cap (HB.out W h).2.2 HF.out.gen HF.out.stamp
    rwa [HM.out, ← HN.out] at this
  have K3 : Hid (∀ W, Below w0.heap.size w0 W → Calls Tryd.prog 7 #[pktA p A n cap] W fun e w' => e = .returned (.int .i64 0) ∧ Below W.heap.size W w') := fun W h => by
    have := checkP_any (HB.out W h).2.1 p cap (HB.out W h).2.2 (by rw [← HN.out]; omega) HF.out.gen
    rw [HO.out, ← HN.out] at this
    exact this
  have K4 : Hid (∀ W, Below w0.heap.size w0 W → Calls Tryd.prog 8 #[msgA p.msg A n cap] W fun e w' => e = .returned (.int .i64 0) ∧ Below W.heap.size W w') := fun W h => by
    have := check_any (HB.out W h).2.1 p.msg cap (HB.out W h).2.2 (by rw [← HN.out]; omega) HF.out.gen
    rw [HM.out, ← HN.out] at this
    exact this
  have K5 : Hid (∀ W, Below w0.heap.size w0 W → Calls Tryd.prog 9 #[pktA p A n cap] W fun e w' => ∃ g c, e = .returned (.tuple #[.slice (some ⟨g, 0, none⟩) (Wr.bytes p).length c, .int .i64 0]) ∧ Blk w' g c (Wr.bytes p) ∧ Below W.heap.size W w') := fun W h => by
    have := bytesB_any (HB.out W h).2.1 p cap (HB.out W h).2.2 (by rw [← HN.out]; omega) HF.out
    rw [← HN.out] at this
    refine this.mono ?_
    rintro e w2 ⟨hb2, ⟨hok, rfl⟩ | ⟨hok, g, cg, rfl, hg, hB⟩⟩
    · rw [HO.out] at hok; cases hok
    · exact ⟨g, cg, rfl, hB, hb2⟩
  have K6 : Hid (∀ W, Below w0.heap.size w0 W → Calls Tryd.prog 10 #[pktA p A n cap] W fun e w' => ∃ g c, e = .returned (.tuple #[.slice (some ⟨g, 0, none⟩) (Wr.bytes p).length c, .int .i64 0]) ∧ Blk w' g c (Wr.bytes p) ∧ Below W.heap.size W w') := fun W h => by
    have := rbytes_ok p cap (HB.out W h).2.2 HF.out HO.out
    rwa [← HN.out] at this
  obtain ⟨z, hz⟩ : ∃ z, z = sizeM p.msg := ⟨_, rfl⟩
  have HZ : Hid (∀ W, Below w0.heap.size w0 W → Calls Tryd.prog 10 #[pktA (toOne p.msg) A n cap] W fun e w' => ∃ g c, e = .returned (.tuple #[.slice (some ⟨g, 0, none⟩) z c, .int .i64 0]) ∧ Below W.heap.size W w') := fun W h => by
    have := rbytes_ok (toOne p.msg) cap (HB.out W h).2.2 (toOne_fits HF.out) ((toOne_ok _).trans HM.out)
    rw [toOne_len, ← hz] at this
    have e1 : (toOne p.msg).msg.claims.length = n := HN.out.symm
    rw [e1] at this
    refine this.mono ?_
    rintro e w2 ⟨g, cg, rfl, hB, hb2⟩
    exact ⟨g, cg, rfl, hb2⟩
  have K8 : Hid (∀ W, Below w0.heap.size w0 W → Calls Tryd.prog 11 #[msgA p.msg A n cap] W fun e w' => e = .returned (.int .i64 (z : Int)) ∧ Below W.heap.size W w') := fun W h => by
    have := size_any (HB.out W h).2.1 p.msg cap (HB.out W h).2.2 (by rw [← HN.out]; omega) HF.out.gen
    rw [HM.out, ← HN.out, if_pos rfl, ← hz] at this
    exact this
  simp only [pktA, msgA, toOne] at K1 K2 K3 K4 K5 K6 HZ K8 ⊢
  clear hz
  go_enter Tryd.func3, Tryd.ntmps3
  subst hw0
  go_wp2_with fail
  refine (K1.out _ HV0.out).mono ?_
  rintro e w1 ⟨rfl, hb⟩
  have HV1 : Hid (Below (w.alloc (.cells (pktC p A n cap) 28)).heap.size (w.alloc (.cells (pktC p A n cap) 28)) w1) := HV0.out.trans (hb.mono HV0.out.size)
  have HX1 := Lib.hid hb
  clear hb
  obtain ⟨d0, d1, d2, d3, d4, d5, d6, d7, d8, d9, d10, d11, d12, d13, d14⟩ := pkt_cells (HP.out _ HV1.out)
  go_wp2_with fail
  refine (K2.out _ HV1.out).mono ?_
  rintro e w2 ⟨rfl, hb⟩
  have HV2 : Hid (Below (w.alloc (.cells (pktC p A n cap) 28)).heap.size (w.alloc (.cells (pktC p A n cap) 28)) w2) := HV1.out.trans (hb.mono HV1.out.size)
  have HX2 := Lib.hid hb
  clear hb d0 d1 d2 d3 d4 d5 d6 d7 d8 d9 d10 d11 d12 d13 d14
  obtain ⟨d0, d1, d2, d3, d4, d5, d6, d7, d8, d9, d10, d11, d12, d13, d14⟩ := pkt_cells (HP.out _ HV2.out)
  go_wp2_with fail
  refine (K3.out _ HV2.out).mono ?_
  rintro e w3 ⟨rfl, hb⟩
  have HV3 : Hid (Below (w.alloc (.cells (pktC p A n cap) 28)).heap.size (w.alloc (.cells (pktC p A n cap) 28)) w3) := HV2.out.trans (hb.mono HV2.out.size)
  have HX3 := Lib.hid hb
  clear hb d0 d1 d2 d3 d4 d5 d6 d7 d8 d9 d10 d11 d12 d13 d14
  obtain ⟨d0, d1, d2, d3, d4, d5, d6, d7, d8, d9, d10, d11, d12, d13, d14⟩ := pkt_cells (HP.out _ HV3.out)
  go_wp2_with fail
  refine (K4.out _ HV3.out).mono ?_
  rintro e w4 ⟨rfl, hb⟩
  have HV4 : Hid (Below (w.alloc (.cells (pktC p A n cap) 28)).heap.size (w.alloc (.cells (pktC p A n cap) 28)) w4) := HV3.out.trans (hb.mono HV3.out.size)
  have HX4 := Lib.hid hb
  clear hb d0 d1 d2 d3 d4 d5 d6 d7 d8 d9 d10 d11 d12 d13 d14
  obtain ⟨d0, d1, d2, d3, d4, d5, d6, d7, d8, d9, d10, d11, d12, d13, d14⟩ := pkt_cells (HP.out _ HV4.out)
  go_wp2_with fail
  refine (K5.out _ HV4.out).mono ?_
  rintro e w5 ⟨g1, cg1, rfl, hB, hb⟩
  have HV5 : Hid (Below (w.alloc (.cells (pktC p A n cap) 28)).heap.size (w.alloc (.cells (pktC p A n cap) 28)) w5) := HV4.out.trans (hb.mono HV4.out.size)
  have HX5 := Lib.hid hb
  clear hb d0 d1 d2 d3 d4 d5 d6 d7 d8 d9 d10 d11 d12 d13 d14
  have HB1 := Lib.hid hB
  clear hB
  obtain ⟨d0, d1, d2, d3, d4, d5, d6, d7, d8, d9, d10, d11, d12, d13, d14⟩ := pkt_cells (HP.out _ HV5.out)
  go_wp2_with fail
  refine (K6.out _ HV5.out).mono ?_
  rintro e w6 ⟨g2, cg2, rfl, hB, hb⟩
  have HV6 : Hid (Below (w.alloc (.cells (pktC p A n cap) 28)).heap.size (w.alloc (.cells (pktC p A n cap) 28)) w6) := HV5.out.trans (hb.mono HV5.out.size)
  have HX6 := Lib.hid hb
  clear hb d0 d1 d2 d3 d4 d5 d6 d7 d8 d9 d10 d11 d12 d13 d14
  have HB2 := Lib.hid hB
  have HB3 : Hid (Blk w6 g1 cg1 (Wr.bytes p)) := HB1.out.below HX6.out
  clear hB
  obtain ⟨d0, d1, d2, d3, d4, d5, d6, d7, d8, d9, d10, d11, d12, d13, d14⟩ := pkt_cells (HP.out _ HV6.out)
  go_wp2_with fail
  refine (HZ.out _ HV6.out).mono ?_
  rintro e w7 ⟨g3, cg3, rfl, hb⟩
  have HV7 : Hid (Below (w.alloc (.cells (pktC p A n cap) 28)).heap.size (w.alloc (.cells (pktC p A n cap) 28)) w7) := HV6.out.trans (hb.mono HV6.out.size)
  have HX7 := Lib.hid hb
  clear hb d0 d1 d2 d3 d4 d5 d6 d7 d8 d9 d10 d11 d12 d13 d14
  have cv1 := conv_bytes cg1 (HB3.out.below HX7.out).at_ (bytes_lt p)
  have cv2 := conv_bytes cg2 (HB2.out.below HX7.out).at_ (bytes_lt p)
  obtain ⟨d0, d1, d2, d3, d4, d5, d6, d7, d8, d9, d10, d11, d12, d13, d14⟩ := pkt_cells (HP.out _ HV7.out)
  go_wp2_with fail
  refine (K8.out _ HV7.out).mono ?_
  rintro e w8 ⟨rfl, hb⟩
  have HV8 : Hid (Below (w.alloc (.cells (pktC p A n cap) 28)).heap.size (w.alloc (.cells (pktC p A n cap) 28)) w8) := HV7.out.trans (hb.mono HV7.out.size)
  clear hb d0 d1 d2 d3 d4 d5 d6 d7 d8 d9 d10 d11 d12 d13 d14 cv1 cv2
  go_wp2
  first | exact HQ.out _ (HB.out _ HV8.out).1 | (go_ret; exact HQ.out _ (HB.out _ HV8.out).1)
theorem wwrites_ft {w : World} (hT : Tab w) (p : Pkt) {A : Option Addr} (cap : Nat) (hC : ClaimsAt w A p.msg.claims) (hf : Fits p) (hlm : p.msg.claims.length ≤ 100) (ho : okP p = false) (hm : okM p.msg = true) :
    Calls Tryd.prog 3 #[pktA p A p.msg.claims.length cap] w fun e w' => e = .returned (.bool true) ∧ Below w.heap.size w w' := by
  obtain ⟨P, hP⟩ : ∃ P : Ending → World → Prop, P = fun e w' => e = .returned (.bool true) ∧ Below w.heap.size w w' := ⟨_, rfl⟩
  have HQ : Hid (∀ w', Below w.heap.size w w' → P (.returned (.bool true)) w') := by rw [hP]; exact fun w' h => ⟨rfl, h⟩
  rw [← hP]
  clear hP
  have HT := Lib.hid hT
  have HC := Lib.hid hC
  have HF := Lib.hid hf
  have HO := Lib.hid ho
  have HM := Lib.hid hm
  obtain ⟨n, hn⟩ : ∃ n, n = p.msg.claims.length := ⟨_, rfl⟩
  have HN := Lib.hid hn
  have hn100 : n ≤ 100 := by omega
  rw [← hn]
  clear hT hC hf hn hlm ho hm
  obtain ⟨w0, hw0⟩ : ∃ w0, w0 = w.alloc (.cells (pktC p A n cap) 28) := ⟨_, rfl⟩
  have hb0 : w0.heap[w.heap.size]? = some (.cells (pktC p A n cap) 28 (0, 0)) := by rw [hw0]; exact World.alloc_heap_new w _
  have hW0 : Below w.heap.size w w0 := by rw [hw0]; exact (Below.refl _ w).alloc (Nat.le_refl _) _
  have HB : Hid (∀ W, Below w0.heap.size w0 W → Below w.heap.size w W ∧ Tab W ∧ ClaimsAt W A p.msg.claims) := fun W h => have h' := hW0.trans (h.mono hW0.size); ⟨h', HT.out.below h', HC.out.below h'⟩
  have HP : Hid (∀ W, Below w0.heap.size w0 W → W.heap[w.heap.size]? = some (.cells (pktC p A n cap) 28 (0, 0))) := fun W h => (h.block _ (blk_lt hb0)).trans hb0
  have HV0 : Hid (Below w0.heap.size w0 w0) := Below.refl _ w0
  have K1 : Hid (∀ W, Below w0.heap.size w0 W → Calls Tryd.prog 5 #[pktA p A n cap] W fun e w' => e = .returned (.bool false) ∧ Below W.heap.size W w') := fun W h => by
    have := rmayP_any p cap (HB.out W h).2.2 HF.out.gen HF.out.stamp
    rwa [HO.out, ← HN.out] at this
  have K2 : Hid (∀ W, Below w0.heap.size w0 W → Calls Tryd.prog 6 #[msgA p.msg A n cap] W fun e w' => e = .returned (.bool true) ∧ Below W.heap.size W w') := fun W h => by
    have := rmay_any p.msg cap (HB.out W h).2.2 HF.out.gen HF.out.stamp
    rwa [HM.out, ← HN.out] at this
  have K3 : Hid (∀ W, Below w0.heap.size w0 W → Calls Tryd.prog 7 #[pktA p A n cap] W fun e w' => e = .returned (.int .i64 71) ∧ Below W.heap.size W w') := fun W h => by
    have := checkP_any (HB.out W h).2.1 p cap (HB.out W h).2.2 (by rw [← HN.out]; omega) HF.out.gen
    rw [HO.out, ← HN.out] at this
    exact this
  have K4 : Hid (∀ W, Below w0.heap.size w0 W → Calls Tryd.prog 8 #[msgA p.msg A n cap] W fun e w' => e = .returned (.int .i64 0) ∧ Below W.heap.size W w') := fun W h => by
    have := check_any (HB.out W h).2.1 p.msg cap (HB.out W h).2.2 (by rw [← HN.out]; omega) HF.out.gen
    rw [HM.out, ← HN.out] at this
    exact this
  have K5 : Hid (∀ W, Below w0.heap.size w0 W → Calls Tryd.prog 9 #[pktA p A n cap] W fun e w' => e = .returned (.tuple #[.slice none 0 0, .int .i64 71]) ∧ Below W.heap.size W w') := fun W h => by
    have := bytesB_any (HB.out W h).2.1 p cap (HB.out W h).2.2 (by rw [← HN.out]; omega) HF.out
    rw [← HN.out] at this
    refine this.mono ?_
    rintro e w2 ⟨hb2, ⟨hok, rfl⟩ | ⟨hok, g, cg, rfl, hg, hB⟩⟩
    · exact ⟨rfl, hb2⟩
    · rw [HO.out] at hok; cases hok
  have K6 : Hid (∀ W, Below w0.heap.size w0 W → Calls Tryd.prog 10 #[pktA p A n cap] W fun e w' => e = .returned (.tuple #[.slice none 0 0, .int .i64 71]) ∧ Below W.heap.size W w') := fun W h => by
    have := rbytes_no p cap (HB.out W h).2.2 HF.out HO.out
    rwa [← HN.out] at this
  obtain ⟨z, hz⟩ : ∃ z, z = sizeM p.msg := ⟨_, rfl⟩
  have HZ : Hid (∀ W, Below w0.heap.size w0 W → Calls Tryd.prog 10 #[pktA (toOne p.msg) A n cap] W fun e w' => ∃ g c, e = .returned (.tuple #[.slice (some ⟨g, 0, none⟩) z c, .int .i64 0]) ∧ Below W.heap.size W w') := fun W h => by
    have := rbytes_ok (toOne p.msg) cap (HB.out W h).2.2 (toOne_fits HF.out) ((toOne_ok _).trans HM.out)
    rw [toOne_len, ← hz] at this
    have e1 : (toOne p.msg).msg.claims.length = n := HN.out.symm
    rw [e1] at this
    refine this.mono ?_
    rintro e w2 ⟨g, cg, rfl, hB, hb2⟩
    exact ⟨g, cg, rfl, hb2⟩
  have K8 : Hid (∀ W, Below w0.heap.size w0 W → Calls Tryd.prog 11 #[msgA p.msg A n cap] W fun e w' => e = .returned (.int .i64 (z : Int)) ∧ Below W.heap.size W w') := fun W h => by
    have := size_any (HB.out W h).2.1 p.msg cap (HB.out W h).2.2 (by rw [← HN.out]; omega) HF.out.gen
    rw [HM.out, ← HN.out, if_pos rfl, ← hz] at this
    exact this
  simp only [pktA, msgA, toOne] at K1 K2 K3 K4 K5 K6 HZ K8 ⊢
  clear hz
  go_enter Tryd.func3, Tryd.ntmps3
  subst hw0
  go_wp2_with fail
  refine (K1.out _ HV0.out).mono ?_
  rintro e w1 ⟨rfl, hb⟩
  have HV1 : Hid (Below (w.alloc (.cells (pktC p A n cap) 28)).heap.size (w.alloc (.cells (pktC p A n cap) 28)) w1) := HV0.out.trans (hb.mono HV0.out.size)
  have HX1 := Lib.hid hb
  clear hb
  obtain ⟨d0, d1, d2, d3, d4, d5, d6, d7, d8, d9, d10, d11, d12, d13, d14⟩ := pkt_cells (HP.out _ HV1.out)
  go_wp2_with fail
  refine (K2.out _ HV1.out).mono ?_
  rintro e w2 ⟨rfl, hb⟩
  have HV2 : Hid (Below (w.alloc (.cells (pktC p A n cap) 28)).heap.size (w.alloc (.cells (pktC p A n cap) 28)) w2) := HV1.out.trans (hb.mono HV1.out.size)
  have HX2 := Lib.hid hb
  clear hb d0 d1 d2 d3 d4 d5 d6 d7 d8 d9 d10 d11 d12 d13 d14
  obtain ⟨d0, d1, d2, d3, d4, d5, d6, d7, d8, d9, d10, d11, d12, d13, d14⟩ := pkt_cells (HP.out _ HV2.out)
  go_wp2_with fail
  refine (K3.out _ HV2.out).mono ?_
  rintro e w3 ⟨rfl, hb⟩
  have HV3 : Hid (Below (w.alloc (.cells (pktC p A n cap) 28)).heap.size (w.alloc (.cells (pktC p A n cap) 28)) w3) := HV2.out.trans (hb.mono HV2.out.size)
  have HX3 := Lib.hid hb
  clear hb d0 d1 d2 d3 d4 d5 d6 d7 d8 d9 d10 d11 d12 d13 d14
  obtain ⟨d0, d1, d2, d3, d4, d5, d6, d7, d8, d9, d10, d11, d12, d13, d14⟩ := pkt_cells (HP.out _ HV3.out)
  go_wp2_with fail
  refine (K4.out _ HV3.out).mono ?_
  rintro e w4 ⟨rfl, hb⟩
  have HV4 : Hid (Below (w.alloc (.cells (pktC p A n cap) 28)).heap.size (w.alloc (.cells (pktC p A n cap) 28)) w4) := HV3.out.trans (hb.mono HV3.out.size)
  have HX4 := Lib.hid hb
  clear hb d0 d1 d2 d3 d4 d5 d6 d7 d8 d9 d10 d11 d12 d13 d14
  obtain ⟨d0, d1, d2, d3, d4, d5, d6, d7, d8, d9, d10, d11, d12, d13, d14⟩ := pkt_cells (HP.out _ HV4.out)
  go_wp2_with fail
  refine (K5.out _ HV4.out).mono ?_
  rintro e w5 ⟨rfl, hb⟩
  have HV5 : Hid (Below (w.alloc (.cells (pktC p A n cap) 28)).heap.size (w.alloc (.cells (pktC p A n cap) 28)) w5) := HV4.out.trans (hb.mono HV4.out.size)
  have HX5 := Lib.hid hb
  clear hb d0 d1 d2 d3 d4 d5 d6 d7 d8 d9 d10 d11 d12 d13 d14
  obtain ⟨d0, d1, d2, d3, d4, d5, d6, d7, d8, d9, d10, d11, d12, d13, d14⟩ := pkt_cells (HP.out _ HV5.out)
  go_wp2_with fail
  refine (K6.out _ HV5.out).mono ?_
  rintro e w6 ⟨rfl, hb⟩
  have HV6 : Hid (Below (w.alloc (.cells (pktC p A n cap) 28)).heap.size (w.alloc (.cells (pktC p A n cap) 28)) w6) := HV5.out.trans (hb.mono HV5.out.size)
  have HX6 := Lib.hid hb
  clear hb d0 d1 d2 d3 d4 d5 d6 d7 d8 d9 d10 d11 d12 d13 d14
  obtain ⟨d0, d1, d2, d3, d4, d5, d6, d7, d8, d9, d10, d11, d12, d13, d14⟩ := pkt_cells (HP.out _ HV6.out)
  go_wp2_with fail
  refine (HZ.out _ HV6.out).mono ?_
  rintro e w7 ⟨g3, cg3, rfl, hb⟩
  have HV7 : Hid (Below (w.alloc (.cells (pktC p A n cap) 28)).heap.size (w.alloc (.cells (pktC p A n cap) 28)) w7) := HV6.out.trans (hb.mono HV6.out.size)
  have HX7 := Lib.hid hb
  clear hb d0 d1 d2 d3 d4 d5 d6 d7 d8 d9 d10 d11 d12 d13 d14
  have cv1 := conv_bytes (w := w7) (A := none) (l := []) 0 (fun k hk => by simp at hk) (fun c hc => by simp at hc)
  simp only [List.length_nil] at cv1
  obtain ⟨d0, d1, d2, d3, d4, d5, d6, d7, d8, d9, d10, d11, d12, d13, d14⟩ := pkt_cells (HP.out _ HV7.out)
  go_wp2_with fail
  refine (K8.out _ HV7.out).mono ?_
  rintro e w8 ⟨rfl, hb⟩
  have HV8 : Hid (Below (w.alloc (.cells (pktC p A n cap) 28)).heap.size (w.alloc (.cells (pktC p A n cap) 28)) w8) := HV7.out.trans (hb.mono HV7.out.size)
  clear hb d0 d1 d2 d3 d4 d5 d6 d7 d8 d9 d10 d11 d12 d13 d14 cv1
  go_wp2
  first | exact HQ.out _ (HB.out _ HV8.out).1 | (go_ret; exact HQ.out _ (HB.out _ HV8.out).1)
theorem wwrites_ff {w : World} (hT : Tab w) (p : Pkt) {A : Option Addr} (cap : Nat) (hC : ClaimsAt w A p.msg.claims) (hf : Fits p) (hlm : p.msg.claims.length ≤ 100) (ho : okP p = false) (hm : okM p.msg = false) :
    Calls Tryd.prog 3 #[pktA p A p.msg.claims.length cap] w fun e w' => e = .returned (.bool true) ∧ Below w.heap.size w w' := by
  obtain ⟨P, hP⟩ : ∃ P : Ending → World → Prop, P = fun e w' => e = .returned (.bool true) ∧ Below w.heap.size w w' := ⟨_, rfl⟩
  have HQ : Hid (∀ w', Below w.heap.size w w' → P (.returned (.bool true)) w') := by rw [hP]; exact fun w' h => ⟨rfl, h⟩
  rw [← hP]
  clear hP
  have HT := Lib.hid hT
  have HC := Lib.hid hC
  have HF := Lib.hid hf
  have HO := Lib.hid ho
  have HM := Lib.hid hm
  obtain ⟨n, hn⟩ : ∃ n, n = p.msg.claims.length := ⟨_, rfl⟩
  have HN := Lib.hid hn
  have hn100 : n ≤ 100 := by omega
  rw [← hn]
  clear hT hC hf hn hlm ho hm
  obtain ⟨w0, hw0⟩ : ∃ w0, w0 = w.alloc (.cells (pktC p A n cap) 28) := ⟨_, rfl⟩
  have hb0 : w0.heap[w.heap.size]? = some (.cells (pktC p A n cap) 28 (0, 0)) := by rw [hw0]; exact World.alloc_heap_new w _
  have hW0 : Below w.heap.size w w0 := by rw [hw0]; exact (Below.refl _ w).alloc (Nat.le_refl _) _
  have HB : Hid (∀ W, Below w0.heap.size w0 W → Below w.heap.size w W ∧ Tab W ∧ ClaimsAt W A p.msg.claims) := fun W h => have h' := hW0.trans (h.mono hW0.size); ⟨h', HT.out.below h', HC.out.below h'⟩
  have HP : Hid (∀ W, Below w0.heap.size w0 W → W.heap[w.heap.size]? = some (.cells (pktC p A n cap) 28 (0, 0))) := fun W h => (h.block _ (blk_lt hb0)).trans hb0
  have HV0 : Hid (Below w0.heap.size w0 w0) := Below.refl _ w0
  have K1 : Hid (∀ W, Below w0.heap.size w0 W → Calls Tryd.prog 5 #[pktA p A n cap] W fun e w' => e = .returned (.bool false) ∧ Below W.heap.size W w') := fun W h => by
    have := rmayP_any p cap (HB.out W h).2.2 HF.out.gen HF.out.stamp
    rwa [HO.out, ← HN.out] at this
  have K2 : Hid (∀ W, Below w0.heap.size w0 W → Calls Tryd.prog 6 #[msgA p.msg A n cap] W fun e w' => e = .returned (.bool false) ∧ Below W.heap.size W w') := fun W h => by
    have := rmay_any p.msg cap (HB.out W h).2.2 HF.out.gen HF.out.stamp
    rwa [HM.out, ← HN.out] at this
  have K3 : Hid (∀ W, Below w0.heap.size w0 W → Calls Tryd.prog 7 #[pktA p A n cap] W fun e w' => e = .returned (.int .i64 71) ∧ Below W.heap.size W w') := fun W h => by
    have := checkP_any (HB.out W h).2.1 p cap (HB.out W h).2.2 (by rw [← HN.out]; omega) HF.out.gen
    rw [HO.out, ← HN.out] at this
    exact this
  have K4 : Hid (∀ W, Below w0.heap.size w0 W → Calls Tryd.prog 8 #[msgA p.msg A n cap] W fun e w' => e = .returned (.int .i64 71) ∧ Below W.heap.size W w') := fun W h => by
    have := check_any (HB.out W h).2.1 p.msg cap (HB.out W h).2.2 (by rw [← HN.out]; omega) HF.out.gen
    rw [HM.out, ← HN.out] at this
    exact this
  have K5 : Hid (∀ W, Below w0.heap.size w0 W → Calls Tryd.prog 9 #[pktA p A n cap] W fun e w' => e = .returned (.tuple #[.slice none 0 0, .int .i64 71]) ∧ Below W.heap.size W w') := fun W h => by
    have := bytesB_any (HB.out W h).2.1 p cap (HB.out W h).2.2 (by rw [← HN.out]; omega) HF.out
    rw [← HN.out] at this
    refine this.mono ?_
    rintro e w2 ⟨hb2, ⟨hok, rfl⟩ | ⟨hok, g, cg, rfl, hg, hB⟩⟩
    · exact ⟨rfl, hb2⟩
    · rw [HO.out] at hok; cases hok
  have K6 : Hid (∀ W, Below w0.heap.size w0 W → Calls Tryd.prog 10 #[pktA p A n cap] W fun e w' => e = .returned (.tuple #[.slice none 0 0, .int .i64 71]) ∧ Below W.heap.size W w') := fun W h => by
    have := rbytes_no p cap (HB.out W h).2.2 HF.out HO.out
    rwa [← HN.out] at this
  obtain ⟨z, hz⟩ : ∃ z, z = 0 := ⟨_, rfl⟩
  have HZ : Hid (∀ W, Below w0.heap.size w0 W → Calls Tryd.prog 10 #[pktA (toOne p.msg) A n cap] W fun e w' => e = .returned (.tuple #[.slice none 0 0, .int .i64 71]) ∧ Below W.heap.size W w') := fun W h => by
    have := rbytes_no (toOne p.msg) cap (HB.out W h).2.2 (toOne_fits HF.out) ((toOne_ok _).trans HM.out)
    have e1 : (toOne p.msg).msg.claims.length = n := HN.out.symm
    rwa [e1] at this
  have K8 : Hid (∀ W, Below w0.heap.size w0 W → Calls Tryd.prog 11 #[msgA p.msg A n cap] W fun e w' => e = .returned (.int .i64 0) ∧ Below W.heap.size W w') := fun W h => by
    have := size_any (HB.out W h).2.1 p.msg cap (HB.out W h).2.2 (by rw [← HN.out]; omega) HF.out.gen
    rw [HM.out, ← HN.out] at this
    exact this
  simp only [pktA, msgA, toOne] at K1 K2 K3 K4 K5 K6 HZ K8 ⊢
  clear hz
  go_enter Tryd.func3, Tryd.ntmps3
  subst hw0
  go_wp2_with fail
  refine (K1.out _ HV0.out).mono ?_
  rintro e w1 ⟨rfl, hb⟩
  have HV1 : Hid (Below (w.alloc (.cells (pktC p A n cap) 28)).heap.size (w.alloc (.cells (pktC p A n cap) 28)) w1) := HV0.out.trans (hb.mono HV0.out.size)
  have HX1 := Lib.hid hb
  clear hb
  obtain ⟨d0, d1, d2, d3, d4, d5, d6, d7, d8, d9, d10, d11, d12, d13, d14⟩ := pkt_cells (HP.out _ HV1.out)
  go_wp2_with fail
  refine (K2.out _ HV1.out).mono ?_
  rintro e w2 ⟨rfl, hb⟩
  have HV2 : Hid (Below (w.alloc (.cells (pktC p A n cap) 28)).heap.size (w.alloc (.cells (pktC p A n cap) 28)) w2) := HV1.out.trans (hb.mono HV1.out.size)
  have HX2 := Lib.hid hb
  clear hb d0 d1 d2 d3 d4 d5 d6 d7 d8 d9 d10 d11 d12 d13 d14
  obtain ⟨d0, d1, d2, d3, d4, d5, d6, d7, d8, d9, d10, d11, d12, d13, d14⟩ := pkt_cells (HP.out _ HV2.out)
  go_wp2_with fail
  refine (K3.out _ HV2.out).mono ?_
  rintro e w3 ⟨rfl, hb⟩
  have HV3 : Hid (Below (w.alloc (.cells (pktC p A n cap) 28)).heap.size (w.alloc (.cells (pktC p A n cap) 28)) w3) := HV2.out.trans (hb.mono HV2.out.size)
  have HX3 := Lib.hid hb
  clear hb d0 d1 d2 d3 d4 d5 d6 d7 d8 d9 d10 d11 d12 d13 d14
  obtain ⟨d0, d1, d2, d3, d4, d5, d6, d7, d8, d9, d10, d11, d12, d13, d14⟩ := pkt_cells (HP.out _ HV3.out)
  go_wp2_with fail
  refine (K4.out _ HV3.out).mono ?_
  rintro e w4 ⟨rfl, hb⟩
  have HV4 : Hid (Below (w.alloc (.cells (pktC p A n cap) 28)).heap.size (w.alloc (.cells (pktC p A n cap) 28)) w4) := HV3.out.trans (hb.mono HV3.out.size)
  have HX4 := Lib.hid hb
  clear hb d0 d1 d2 d3 d4 d5 d6 d7 d8 d9 d10 d11 d12 d13 d14
  obtain ⟨d0, d1, d2, d3, d4, d5, d6, d7, d8, d9, d10, d11, d12, d13, d14⟩ := pkt_cells (HP.out _ HV4.out)
  go_wp2_with fail
  refine (K5.out _ HV4.out).mono ?_
  rintro e w5 ⟨rfl, hb⟩
  have HV5 : Hid (Below (w.alloc (.cells (pktC p A n cap) 28)).heap.size (w.alloc (.cells (pktC p A n cap) 28)) w5) := HV4.out.trans (hb.mono HV4.out.size)
  have HX5 := Lib.hid hb
  clear hb d0 d1 d2 d3 d4 d5 d6 d7 d8 d9 d10 d11 d12 d13 d14
  obtain ⟨d0, d1, d2, d3, d4, d5, d6, d7, d8, d9, d10, d11, d12, d13, d14⟩ := pkt_cells (HP.out _ HV5.out)
  go_wp2_with fail
  refine (K6.out _ HV5.out).mono ?_
  rintro e w6 ⟨rfl, hb⟩
  have HV6 : Hid (Below (w.alloc (.cells (pktC p A n cap) 28)).heap.size (w.alloc (.cells (pktC p A n cap) 28)) w6) := HV5.out.trans (hb.mono HV5.out.size)
  have HX6 := Lib.hid hb
  clear hb d0 d1 d2 d3 d4 d5 d6 d7 d8 d9 d10 d11 d12 d13 d14
  obtain ⟨d0, d1, d2, d3, d4, d5, d6, d7, d8, d9, d10, d11, d12, d13, d14⟩ := pkt_cells (HP.out _ HV6.out)
  go_wp2_with fail
  refine (HZ.out _ HV6.out).mono ?_
  rintro e w7 ⟨rfl, hb⟩
  have HV7 : Hid (Below (w.alloc (.cells (pktC p A n cap) 28)).heap.size (w.alloc (.cells (pktC p A n cap) 28)) w7) := HV6.out.trans (hb.mono HV6.out.size)
  have HX7 := Lib.hid hb
  clear hb d0 d1 d2 d3 d4 d5 d6 d7 d8 d9 d10 d11 d12 d13 d14
  have cv1 := conv_bytes (w := w7) (A := none) (l := []) 0 (fun k hk => by simp at hk) (fun c hc => by simp at hc)
  simp only [List.length_nil] at cv1
  obtain ⟨d0, d1, d2, d3, d4, d5, d6, d7, d8, d9, d10, d11, d12, d13, d14⟩ := pkt_cells (HP.out _ HV7.out)
  go_wp2_with fail
  refine (K8.out _ HV7.out).mono ?_
  rintro e w8 ⟨rfl, hb⟩
  have HV8 : Hid (Below (w.alloc (.cells (pktC p A n cap) 28)).heap.size (w.alloc (.cells (pktC p A n cap) 28)) w8) := HV7.out.trans (hb.mono HV7.out.size)
  clear hb d0 d1 d2 d3 d4 d5 d6 d7 d8 d9 d10 d11 d12 d13 d14 cv1
  go_wp2
  first | exact HQ.out _ (HB.out _ HV8.out).1 | (go_ret; exact HQ.out _ (HB.out _ HV8.out).1)
theorem wwrites_big {w : World} (p : Pkt) {A : Option Addr} (cap : Nat) (hlm : 100 < p.msg.claims.length) (hmx : p.msg.claims.length ≤ maxLen) :
    Calls Tryd.prog 3 #[pktA p A p.msg.claims.length cap] w fun e w' => e = .returned (.bool true) ∧ Below w.heap.size w w' := by
  obtain ⟨P, hP⟩ : ∃ P : Ending → World → Prop, P = fun e w' => e = .returned (.bool true) ∧ Below w.heap.size w w' := ⟨_, rfl⟩
  have HQ : Hid (∀ w', Below w.heap.size w w' → P (.returned (.bool true)) w') := by rw [hP]; exact fun w' h => ⟨rfl, h⟩
  rw [← hP]
  clear hP
  obtain ⟨n, hn⟩ : ∃ n, n = p.msg.claims.length := ⟨_, rfl⟩
  have hn100 : 100 < n := by omega
  have hm : maxLen < 9223372036854775808 := by decide
  have hnb : n < 9223372036854775808 := by omega
  rw [← hn]
  clear hn hlm hmx hm
  have hW0 : Below w.heap.size w (w.alloc (.cells (pktC p A n cap) 28)) := (Below.refl _ w).alloc (Nat.le_refl _) _
  have HW0 := Lib.hid hW0
  clear hW0
  simp only [pktA]
  go_enter Tryd.func3, Tryd.ntmps3
  go_wp2
  first | exact HQ.out _ HW0.out | (go_ret; exact HQ.out _ HW0.out)

theorem wwrites_any {w : World} (hT : Tab w) (p : Pkt) {A : Option Addr} (cap : Nat) (hC : ClaimsAt w A p.msg.claims) (hf : Fits p) (hmx : p.msg.claims.length ≤ maxLen) :
    Calls Tryd.prog 3 #[pktA p A p.msg.claims.length cap] w fun e w' => e = .returned (.bool true) ∧ Below w.heap.size w w' := by
  by_cases h : 100 < p.msg.claims.length
  · exact wwrites_big p cap h hmx
  · have h' : p.msg.claims.length ≤ 100 := by omega
    cases ho : okP p with
    | true => exact wwrites_tt hT p cap hC hf h' ho (okP_msg ho)
    | false =>
      cases hm : okM p.msg with
      | true => exact wwrites_ft hT p cap hC hf h' ho hm
      | false => exact wwrites_ff hT p cap hC hf h' ho hm
end Go.Proofs.YtcofhliflnbpdaaDoor
