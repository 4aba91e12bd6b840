/-
  The law WireBack: where the packet may not be.
-/
import Derived.Test.YtgmmdaigecmcjaaDoorWrN0
namespace Go.Proofs.YtgmmdaigecmcjaaDoor
set_option maxRecDepth 100000
set_option linter.unusedSimpArgs false
open Go Go.RowKit Wr

set_option maxHeartbeats 8000000 in
theorem wback_no0 {w : World} (hT : Tab w) (p : Pkt) {A : Option Addr} (cap : Nat) (hC : ClaimsAt w A p.msg.claims) (hf : Fits p) (_hlm : p.msg.claims.length ≤ maxLen) {B : Option Addr} {l : List Nat} {cb : Nat} (hB : BytesAt w B l) (hlt : ∀ c ∈ l, c < 256) (hcb : l.length ≤ cb) (_hcm : cb ≤ maxLen) (hle : p.msg.claims.length ≤ 100) (hle5 : l.length ≤ 500) (hokp : okP p = false) (hxn : readF l = none) :
    Calls Tryd.prog 6 #[pktA p A p.msg.claims.length cap, .slice B l.length cb] w fun e w' => e = .returned (.bool true) ∧ Below w.heap.size w w' := by
  obtain ⟨P, hP⟩ : ∃ P : Ending → World → Prop, P = fun e w' => e = .returned (.bool true) ∧ Below w.heap.size w w' := ⟨_, rfl⟩
  have HQ : Hid (∀ w', Below w.heap.size w w' → P (.returned (.bool true)) w') := by rw [hP]; exact fun w' h => ⟨rfl, h⟩
  rw [← hP]
  clear hP
  have HT : Hid (∀ W, Below w.heap.size w W → Tab W) := fun W h => hT.below h
  have HC : Hid (∀ W, Below w.heap.size w W → ClaimsAt W A p.msg.claims) := fun W h => hC.below h
  have HB : Hid (∀ W, Below w.heap.size w W → BytesAt W B l) := fun W h => hB.below h
  have HF := Lib.hid hf
  have HLT := Lib.hid hlt
  obtain ⟨n, hn⟩ : ∃ n, n = p.msg.claims.length := ⟨_, rfl⟩
  obtain ⟨L, hL⟩ : ∃ L, L = l.length := ⟨_, rfl⟩
  have HN := Lib.hid hn
  have HL := Lib.hid hL
  have hmx : maxLen < 9223372036854775808 := by decide
  have hnb : n < 9223372036854775808 := by omega
  have hLb : L < 9223372036854775808 := by omega
  rw [← hL] at hcb
  rw [← hn, ← hL]
  clear hT hC hf _hlm hB hlt hmx hn hL _hcm
  go_enter Tryd.func6, Tryd.ntmps6
  go_wp2_with fail
  have hb0 : (w.alloc (.cells (pktC p A n cap) 28)).heap[w.heap.size]? = some (.cells (pktC p A n cap) 28 (0, 0)) := World.alloc_heap_new w _
  have HW0 : Hid (Below w.heap.size w (w.alloc (.cells (pktC p A n cap) 28))) := (Below.refl _ w).alloc (Nat.le_refl _) _
  refine (alive_any (HT.out _ HW0.out)).mono ?_
  rintro e w1 ⟨rfl, hb1⟩
  have HW1 : Hid (Below w.heap.size w w1) := HW0.out.trans (hb1.mono HW0.out.size)
  have HP1 : Hid (w1.heap[w.heap.size]? = some (.cells (pktC p A n cap) 28 (0, 0))) := ((Kept.of_below (X := fun _ => False) hb1 (Nat.le_refl _)).block _ (blk_lt hb0) id).trans hb0
  clear hb0 hb1 HW0
  have HPC : Hid (∀ W, Below w1.heap.size w1 W → W.heap[w.heap.size]? = some (.cells (pktC p A n cap) 28 (0, 0))) := fun W h => ((Kept.of_below (X := fun _ => False) h (Nat.le_refl _)).block _ (blk_lt HP1.out) id).trans HP1.out
  obtain ⟨d0, d1, d2, d3, d4, d5, d6, d7, d8, d9, d10, d11, d12, d13, d14⟩ := pkt_cells HP1.out
  have h100 : ¬ 100 < n := by rw [HN.out]; omega
  have h500 : ¬ 500 < L := by rw [HL.out]; omega
  have BP := bytesB_any (HT.out _ HW1.out) p cap (HC.out _ HW1.out) (by rw [← HN.out]; omega) HF.out
  rw [← HN.out] at BP
  go_wp2_with fail
  refine BP.mono ?_
  clear BP d0 d1 d2 d3 d4 d5 d6 d7 d8 d9 d10 d11 d12 d13 d14
  rintro e w2 ⟨hb2, ⟨hok, rfl⟩ | ⟨hok, g, cg, rfl, hg, hB⟩⟩
  · have HX2 : Hid (Below w.heap.size w w2) := HW1.out.trans (hb2.mono HW1.out.size)
    have HY2 := Lib.hid hb2
    clear hb2 hok HP1 HPC
    go_wp2_with fail
    refine (read_none (HT.out _ HX2.out) (l := []) (fun j hj => by simp at hj) (by simp) (by simp) (by simp) readF_nil).mono ?_
    rintro e w3 ⟨rfl, hb3⟩
    have HX3 : Hid (∀ o, Below w.heap.size w (w3.alloc o)) := fun o => by
      have h := HX2.out.trans (hb3.mono HX2.out.size)
      exact h.alloc h.size o
    have HY3 : Hid (∀ o, Below w1.heap.size w1 (w3.alloc o)) := fun o => by
      have h := HY2.out.trans (hb3.mono HY2.out.size)
      exact h.alloc h.size o
    clear hb3 HX2 HY2
    have RB : Hid (∀ W, Below w.heap.size w W → Calls Tryd.prog 16 #[.slice B L cb] W (ReadPost W l)) := fun W h => by
      have := read_any (HT.out _ h) (HB.out _ h) (cap := cb) (by rw [← HL.out]; exact hcb) HLT.out (by rw [← HL.out]; omega)
      rwa [← HL.out] at this
    go_wp2_with fail
    refine (RB.out _ (HX3.out _)).mono ?_
    clear RB
    rintro e w4 ⟨hb4, ⟨hno, rfl⟩ | ⟨x, Ax, cx, hx, rfl, hCx⟩⟩
    · have HX4 : Hid (∀ o, Below w.heap.size w (w4.alloc o)) := fun o => by
        have h := (HX3.out _).trans (hb4.mono (HX3.out _).size)
        exact h.alloc h.size o
      have HY4 : Hid (∀ o, Below w1.heap.size w1 (w4.alloc o)) := fun o => by
        have h := (HY3.out _).trans (hb4.mono (HY3.out _).size)
        exact h.alloc h.size o
      clear hb4 hno
      go_wp2_with fail
      refine (bytes_zero (HT.out _ (HX4.out _))).mono ?_
      rintro e w5 ⟨rfl, hb5⟩
      have HX5 : Hid (Below w.heap.size w w5) := (HX4.out _).trans (hb5.mono (HX4.out _).size)
      have HY5 : Hid (Below w1.heap.size w1 w5) := (HY4.out _).trans (hb5.mono (HY4.out _).size)
      clear hb5
      go_wp2
      first | exact HQ.out _ HX5.out | (go_ret; exact HQ.out _ HX5.out)
    · rw [hxn] at hx; cases hx

  · rw [hokp] at hok; cases hok

set_option maxHeartbeats 8000000 in
theorem wback_no1 {w : World} (hT : Tab w) (p : Pkt) {A : Option Addr} (cap : Nat) (hC : ClaimsAt w A p.msg.claims) (hf : Fits p) (_hlm : p.msg.claims.length ≤ maxLen) {B : Option Addr} {l : List Nat} {cb : Nat} (hB : BytesAt w B l) (hlt : ∀ c ∈ l, c < 256) (hcb : l.length ≤ cb) (_hcm : cb ≤ maxLen) (hle : p.msg.claims.length ≤ 100) (hle5 : l.length ≤ 500) (hokp : okP p = false) {x0 : Pkt} (hxn : readF l = some x0) :
    Calls Tryd.prog 6 #[pktA p A p.msg.claims.length cap, .slice B l.length cb] w fun e w' => e = .returned (.bool true) ∧ Below w.heap.size w w' := by
  obtain ⟨P, hP⟩ : ∃ P : Ending → World → Prop, P = fun e w' => e = .returned (.bool true) ∧ Below w.heap.size w w' := ⟨_, rfl⟩
  have HQ : Hid (∀ w', Below w.heap.size w w' → P (.returned (.bool true)) w') := by rw [hP]; exact fun w' h => ⟨rfl, h⟩
  rw [← hP]
  clear hP
  have HT : Hid (∀ W, Below w.heap.size w W → Tab W) := fun W h => hT.below h
  have HC : Hid (∀ W, Below w.heap.size w W → ClaimsAt W A p.msg.claims) := fun W h => hC.below h
  have HB : Hid (∀ W, Below w.heap.size w W → BytesAt W B l) := fun W h => hB.below h
  have HF := Lib.hid hf
  have HLT := Lib.hid hlt
  obtain ⟨n, hn⟩ : ∃ n, n = p.msg.claims.length := ⟨_, rfl⟩
  obtain ⟨L, hL⟩ : ∃ L, L = l.length := ⟨_, rfl⟩
  have HN := Lib.hid hn
  have HL := Lib.hid hL
  have hmx : maxLen < 9223372036854775808 := by decide
  have hnb : n < 9223372036854775808 := by omega
  have hLb : L < 9223372036854775808 := by omega
  rw [← hL] at hcb
  rw [← hn, ← hL]
  clear hT hC hf _hlm hB hlt hmx hn hL _hcm
  go_enter Tryd.func6, Tryd.ntmps6
  go_wp2_with fail
  have hb0 : (w.alloc (.cells (pktC p A n cap) 28)).heap[w.heap.size]? = some (.cells (pktC p A n cap) 28 (0, 0)) := World.alloc_heap_new w _
  have HW0 : Hid (Below w.heap.size w (w.alloc (.cells (pktC p A n cap) 28))) := (Below.refl _ w).alloc (Nat.le_refl _) _
  refine (alive_any (HT.out _ HW0.out)).mono ?_
  rintro e w1 ⟨rfl, hb1⟩
  have HW1 : Hid (Below w.heap.size w w1) := HW0.out.trans (hb1.mono HW0.out.size)
  have HP1 : Hid (w1.heap[w.heap.size]? = some (.cells (pktC p A n cap) 28 (0, 0))) := ((Kept.of_below (X := fun _ => False) hb1 (Nat.le_refl _)).block _ (blk_lt hb0) id).trans hb0
  clear hb0 hb1 HW0
  have HPC : Hid (∀ W, Below w1.heap.size w1 W → W.heap[w.heap.size]? = some (.cells (pktC p A n cap) 28 (0, 0))) := fun W h => ((Kept.of_below (X := fun _ => False) h (Nat.le_refl _)).block _ (blk_lt HP1.out) id).trans HP1.out
  obtain ⟨d0, d1, d2, d3, d4, d5, d6, d7, d8, d9, d10, d11, d12, d13, d14⟩ := pkt_cells HP1.out
  have h100 : ¬ 100 < n := by rw [HN.out]; omega
  have h500 : ¬ 500 < L := by rw [HL.out]; omega
  have BP := bytesB_any (HT.out _ HW1.out) p cap (HC.out _ HW1.out) (by rw [← HN.out]; omega) HF.out
  rw [← HN.out] at BP
  go_wp2_with fail
  refine BP.mono ?_
  clear BP d0 d1 d2 d3 d4 d5 d6 d7 d8 d9 d10 d11 d12 d13 d14
  rintro e w2 ⟨hb2, ⟨hok, rfl⟩ | ⟨hok, g, cg, rfl, hg, hB⟩⟩
  · have HX2 : Hid (Below w.heap.size w w2) := HW1.out.trans (hb2.mono HW1.out.size)
    have HY2 := Lib.hid hb2
    clear hb2 hok HP1 HPC
    go_wp2_with fail
    refine (read_none (HT.out _ HX2.out) (l := []) (fun j hj => by simp at hj) (by simp) (by simp) (by simp) readF_nil).mono ?_
    rintro e w3 ⟨rfl, hb3⟩
    have HX3 : Hid (∀ o, Below w.heap.size w (w3.alloc o)) := fun o => by
      have h := HX2.out.trans (hb3.mono HX2.out.size)
      exact h.alloc h.size o
    have HY3 : Hid (∀ o, Below w1.heap.size w1 (w3.alloc o)) := fun o => by
      have h := HY2.out.trans (hb3.mono HY2.out.size)
      exact h.alloc h.size o
    clear hb3 HX2 HY2
    have RB : Hid (∀ W, Below w.heap.size w W → Calls Tryd.prog 16 #[.slice B L cb] W (ReadPost W l)) := fun W h => by
      have := read_any (HT.out _ h) (HB.out _ h) (cap := cb) (by rw [← HL.out]; exact hcb) HLT.out (by rw [← HL.out]; omega)
      rwa [← HL.out] at this
    go_wp2_with fail
    refine (RB.out _ (HX3.out _)).mono ?_
    clear RB
    rintro e w4 ⟨hb4, ⟨hno, rfl⟩ | ⟨x, Ax, cx, hx, rfl, hCx⟩⟩
    · rw [hxn] at hno; cases hno
    · have HX4 : Hid (∀ o, Below w.heap.size w (w4.alloc o)) := fun o => by
        have h := (HX3.out _).trans (hb4.mono (HX3.out _).size)
        exact h.alloc h.size o
      have HY4 : Hid (∀ o, Below w1.heap.size w1 (w4.alloc o)) := fun o => by
        have h := (HY3.out _).trans (hb4.mono (HY3.out _).size)
        exact h.alloc h.size o
      obtain ⟨hlx, hokx, hfx⟩ := read_some HLT.out hx
      have HLX := Lib.hid hlx
      have hcl : x.msg.claims.length ≤ 16 := okM_claims (okP_msg hokx)
      have RX : Hid (∀ o, Calls Tryd.prog 13 #[pktA x Ax x.msg.claims.length cx] (w4.alloc o) fun e w' => ∃ g cap, e = .returned (.tuple #[.slice (some ⟨g, 0, none⟩) L cap, .int .i64 0]) ∧ BytesAt w' (some ⟨g, 0, none⟩) l ∧ Below (w4.alloc o).heap.size (w4.alloc o) w') := by
        intro o
        have := bytesB_any (HT.out _ (HX4.out o)) x cx (hCx.below ((Below.refl _ w4).alloc (Nat.le_refl _) o)) (by omega) hfx
        refine this.mono ?_
        rintro e w' ⟨hb, ⟨h, _⟩ | ⟨_, g, cap, rfl, _, hBk⟩⟩
        · rw [hokx] at h; cases h
        · rw [← hlx] at hBk ⊢
          rw [← HL.out]
          exact ⟨g, cap, rfl, hBk.at_, hb⟩
      clear hb4 hx hlx hokx hfx hCx
      generalize x.msg.claims.length = nx at *
      go_wp2_with fail
      refine (RX.out _).mono ?_
      rintro e w5 ⟨gx, cgx, rfl, hBx, hb5⟩
      have HX5 : Hid (Below w.heap.size w w5) := (HX4.out _).trans (hb5.mono (HX4.out _).size)
      have HY5 : Hid (Below w1.heap.size w1 w5) := (HY4.out _).trans (hb5.mono (HY4.out _).size)
      have HBX := Lib.hid hBx
      clear hb5 RX hBx
      have cv1 := conv_bytes cgx HBX.out HLT.out
      have cv2 := conv_bytes cb (HB.out _ HX5.out) HLT.out
      rw [← HL.out] at cv1 cv2
      generalize strN l = S at *
      go_wp2
      first | exact HQ.out _ HX5.out | (go_ret; exact HQ.out _ HX5.out)

  · rw [hokp] at hok; cases hok

end Go.Proofs.YtgmmdaigecmcjaaDoor
