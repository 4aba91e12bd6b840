/-
  The document's Bytes: what is known while they are written.
-/
import Derived.Test.YtmfbokaaoffdnaaDoorWrZ
import Derived.Test.YtmfbokaaoffdnaaDoorWrQ
import Derived.Test.YtmfbokaaoffdnaaDoorWrS0
import Derived.Deep.DeepCutAuto
import Derived.Deep.CutBlock
import Derived.Deep.AppendLies
import Derived.Deep.RegionLaw
namespace Go.Proofs.YtmfbokaaoffdnaaDoor
set_option maxRecDepth 100000
set_option linter.unusedSimpArgs false
open Go Go.RowKit Wr

/-- A letter's bytes. -/
def encF (m : Msg) (c : Nat) : List Nat :=
  if c = 99 then be 2 m.cell else if c = 103 then be 4 (m.gen : Int) else if c = 115 then be 8 (m.stamp : Int) else if c = 112 then be 1 m.prio else if c = 104 then be 1 m.hops
  else if c = 111 then be 1 m.origin else if c = 119 then be 1 m.other else if c = 108 then be 1 (m.claims.length : Int) ++ m.claims.flatMap clm else []
theorem body_enc (m : Msg) (h : okM m = true) : body m = (nmI m.kind).flatMap (encF m) := by
  obtain ⟨k, c, g, s, pr, ho, o, t, l⟩ := m
  have hn : l ≠ [] → (flds k).contains 8 = true := by
    intro hl
    cases hc : (flds k).contains 8 with
    | true => rfl
    | false =>
      exfalso
      unfold okM at h
      simp only [Bool.and_eq_true] at h
      have h8 := List.all_eq_true.1 h.1.2 8 (by decide)
      simp only [hc] at h8
      have : (num ⟨k, c, g, s, pr, ho, o, t, l⟩ 8) = (l.length : Int) := rfl
      rw [this] at h8
      cases l with
      | nil => exact hl rfl
      | cons x l => simp at h8; omega
  have hk : 1 ≤ k ∧ k ≤ 11 := by
    unfold okM isKind at h
    simp only [Bool.and_eq_true, decide_eq_true_eq] at h
    exact h.1.1
  have cases_ : k = 1 ∨ k = 2 ∨ k = 3 ∨ k = 4 ∨ k = 5 ∨ k = 6 ∨ k = 7 ∨ k = 8 ∨ k = 9 ∨ k = 10 ∨ k = 11 := by omega
  have hl0 : (flds k).contains 8 = false → l = [] := fun h0 => by
    cases l with
    | nil => rfl
    | cons x l => rw [hn (by simp)] at h0; cases h0
  have hw : be 8 (w64 (s : Int)) = be 8 (s : Int) := be_w64 (by omega) _
  clear h hn hk
  rcases cases_ with rfl | rfl | rfl | rfl | rfl | rfl | rfl | rfl | rfl | rfl | rfl
  all_goals
    first
      | (have hl := hl0 (by decide)
         subst hl
         simp [body, flds, fldL, nmI, nmL, encF, wid, num, List.getD, hw])
      | simp [body, flds, fldL, nmI, nmL, encF, wid, num, List.getD, hw]

theorem row_below {B : Nat} {e : TypeId} {k : Nat} {v : Value} {n : Nat} {xs : List Value} {w w' : World} (h : w.ownsRow B e k v n xs) (hb : Below w.heap.size w w') : w'.ownsRow B e k v n xs := by
  refine ⟨h.1, h.2.imp id ?_⟩
  rintro ⟨g, cap, cur, h1, h2, h3, h4⟩
  exact ⟨g, cap, cur, h1, h2, (hb.block g (blk_lt h3)).trans h3, h4⟩
/-- While the bytes are written: the packet's box, the list. -/
structure By (w : World) (p : Pkt) (A : Option Addr) (cap : Nat) (v : Value) (L : List Nat) (W : World) : Prop where
  below : Below w.heap.size w W
  box : W.heap[w.heap.size]? = some (.cells (pktC p A p.msg.claims.length cap) 28 (0, 0))
  row : W.ownsRow (w.heap.size + 1) 5 1 v L.length (L.map byV)
section
variable {w : World} {p : Pkt} {A : Option Addr} {cap : Nat} {v : Value} {L : List Nat} {W W' : World}
theorem By.later (h : By w p A cap v L W) (hb : Below W.heap.size W W') : By w p A cap v L W' :=
  ⟨h.below.trans (hb.mono h.below.size), (hb.block _ (blk_lt h.box)).trans h.box, row_below h.row hb⟩
theorem By.app (h : By w p A cap v L W) {v' : Value} {news : List Nat} {n : Nat} (hn : n = news.length) (hr : W'.ownsRow (w.heap.size + 1) 5 1 v' (L.length + n) ((L ++ news).map byV)) (hg : W.grownBy W' v.ownBlock) : By w p A cap v' (L ++ news) W' := by
  have hlt := blk_lt h.box
  refine ⟨h.below.grown hg h.below.size (fun k e => by have := (h.row.lt k e).1; omega), (hg.block _ hlt (fun e => by have := (h.row.lt _ e.symm).1; omega)).trans h.box, by rw [List.length_append, ← hn]; exact hr⟩
end

/-- With the message's box. -/
@[reducible] def mgC (m : Msg) (A : Option Addr) (n cap : Nat) : Array Value := #[.int .i64 m.kind, .int .i64 m.cell, .int .u32 (m.gen : Nat), .int .u64 (m.stamp : Nat), .int .i64 m.prio, .int .i64 m.hops, .int .i64 m.origin, .int .i64 m.other, .slice A n cap]
structure Bm (w : World) (p : Pkt) (A : Option Addr) (cap : Nat) (q : Nat) (v : Value) (L : List Nat) (W : World) : Prop where
  by_ : By w p A cap v L W
  mb : W.heap[q]? = some (.cells (mgC p.msg A p.msg.claims.length cap) 26 (0, 0))
section
variable {w : World} {p : Pkt} {A : Option Addr} {cap q : Nat} {v : Value} {L : List Nat} {W W' : World}
theorem Bm.later (h : Bm w p A cap q v L W) (hb : Below W.heap.size W W') : Bm w p A cap q v L W' := ⟨h.by_.later hb, (hb.block _ (blk_lt h.mb)).trans h.mb⟩
theorem Bm.ne (h : Bm w p A cap q v L W) : v.ownBlock ≠ some q := by
  intro e
  rcases h.by_.row.2 with ⟨rfl, _⟩ | ⟨g, c, cur, rfl, _, h3, _⟩
  · cases e
  · have : g = q := by injection e
    subst this
    rw [h.mb] at h3
    injection h3 with h3
    injection h3 with _ h4
    exact absurd h4 (by decide)
theorem Bm.app (h : Bm w p A cap q v L W) {v' : Value} {news : List Nat} {n : Nat} (hn : n = news.length) (hr : W'.ownsRow (w.heap.size + 1) 5 1 v' (L.length + n) ((L ++ news).map byV)) (hg : W.grownBy W' v.ownBlock) : Bm w p A cap q v' (L ++ news) W' :=
  ⟨h.by_.app hn hr hg, (hg.block _ (blk_lt h.mb) (fun e => h.ne e.symm)).trans h.mb⟩
theorem Bm.cells (h : Bm w p A cap q v L W) : W.cell? ⟨q, 0, none⟩ = some (.int .i64 p.msg.kind) ∧ W.cell? ⟨q, 1, none⟩ = some (.int .i64 p.msg.cell) ∧ W.cell? ⟨q, 2, none⟩ = some (.int .u32 (p.msg.gen : Nat)) ∧ W.cell? ⟨q, 3, none⟩ = some (.int .u64 (p.msg.stamp : Nat)) ∧ W.cell? ⟨q, 4, none⟩ = some (.int .i64 p.msg.prio) ∧ W.cell? ⟨q, 5, none⟩ = some (.int .i64 p.msg.hops) ∧ W.cell? ⟨q, 6, none⟩ = some (.int .i64 p.msg.origin) ∧ W.cell? ⟨q, 7, none⟩ = some (.int .i64 p.msg.other) ∧ W.cell? ⟨q, 8, none⟩ = some (.slice A p.msg.claims.length cap) := by
  refine ⟨?_, ?_, ?_, ?_, ?_, ?_, ?_, ?_, ?_⟩ <;> (rw [blk_cell h.mb]; rfl)
theorem byte_at {x : Int} (W : World) : BytesAt (W.alloc (.cells #[.int .u8 (x % 256)] 5)) (some ⟨W.heap.size, 0, none⟩) (be 1 x) := by
  intro j hj
  have hj0 : j = 0 := by simp [be_length] at hj; exact hj
  subst hj0
  refine ⟨_, rfl, ?_⟩
  have h1 : ((x % 256).toNat : Int) = x % 256 := by omega
  refine (blk_cell (World.alloc_heap_new W _) 0).trans ?_
  simp [be, byV, h1]
end

theorem nm_let : ∀ j, j < 12 → (nmL.getD j []).length ≤ 5 ∧ ∀ c ∈ nmL.getD j [], c = 99 ∨ c = 103 ∨ c = 115 ∨ c = 112 ∨ c = 104 ∨ c = 111 ∨ c = 119 ∨ c = 108 := by decide
theorem nm_five (k : Int) : (nmI k).length ≤ 5 := by
  unfold nmI
  split
  · exact (nm_let k.toNat (by omega)).1
  · exact Nat.zero_le _
theorem nm_letters (k : Int) : ∀ c ∈ nmI k, c = 99 ∨ c = 103 ∨ c = 115 ∨ c = 112 ∨ c = 104 ∨ c = 111 ∨ c = 119 ∨ c = 108 := by
  unfold nmI
  split
  · exact (nm_let k.toNat (by omega)).2
  · exact fun c hc => absurd hc List.not_mem_nil
theorem okP_M {p : Pkt} (h : okP p = true) : okM p.msg = true := by
  unfold okP at h
  simp only [Bool.and_eq_true] at h
  exact h.2
theorem okM_16 (m : Msg) (hg : m.gen < 4294967296) (hs : m.stamp < 18446744073709551616) (h : okM m = true) : m.claims.length ≤ 16 := by
  rw [okM_doc m hg hs] at h
  simp only [Bool.and_eq_true, decide_eq_true_eq] at h
  have h2 := h.1.1.2
  unfold docR at h2
  exact h2.2.2.2.2.2.2.2.2.2.2
theorem okM_rise (m : Msg) (h : okM m = true) : rise 0 m.claims = true := by
  unfold okM at h
  simp only [Bool.and_eq_true] at h
  exact h.2
theorem rise_mem : ∀ {l : List (Int × Nat)} {L : Int}, rise L l = true → ∀ c ∈ l, L ≤ c.1 ∧ c.1 < 1024
  | [], _, _, c, hc => absurd hc List.not_mem_nil
  | x :: l, L, h, c, hc => by
    unfold rise at h
    simp only [Bool.and_eq_true, decide_eq_true_eq] at h
    rcases List.mem_cons.1 hc with rfl | hc
    · exact h.1
    · have := rise_mem h.2 c hc
      omega
theorem clm_len (l : List (Int × Nat)) : (l.flatMap clm).length = 6 * l.length := by
  induction l with
  | nil => rfl
  | cons x l ih => rw [List.flatMap_cons, List.length_append, ih, List.length_cons]; simp [clm, be_length]; omega
theorem okM_R (m : Msg) (hg : m.gen < 4294967296) (hs : m.stamp < 18446744073709551616) (h : okM m = true) : docR m.cell m.prio m.hops m.origin m.other m.claims.length := by
  rw [okM_doc m hg hs] at h
  simp only [Bool.and_eq_true] at h
  exact of_decide_eq_true h.1.1.2

set_option maxHeartbeats 4000000 in
theorem rbytes_ok {w : World} (p : Pkt) {A : Option Addr} (cap : Nat) (hC : ClaimsAt w A p.msg.claims) (hf : Fits p) (hok : okP p = true) :
    Calls Tryd.prog 10 #[pktA p A p.msg.claims.length cap] w fun e w' => ∃ g c, e = .returned (.tuple #[.slice (some ⟨g, 0, none⟩) (Wr.bytes p).length c, .int .i64 0]) ∧ Blk w' g c (Wr.bytes p) ∧ Below w.heap.size w w' := by
  have HM : Hid (∀ o, Calls Tryd.prog 5 #[pktA p A p.msg.claims.length cap] (w.alloc o) fun e w' => e = .returned (.bool true) ∧ Below (w.alloc o).heap.size (w.alloc o) w') := fun o => by
    have := rmayP_any p cap (hC.below ((Below.refl _ w).alloc (Nat.le_refl _) o)) hf.gen hf.stamp
    rwa [hok] at this
  have hbx := World.alloc_heap_new w (.cells (pktC p A p.msg.claims.length cap) 28)
  have HBX := Lib.hid hbx
  have HF := Lib.hid hf
  have HC := Lib.hid hC
  have HOK := Lib.hid hok
  clear hbx hf hC hok
  obtain ⟨PO, hPO⟩ : ∃ PO : Ending → World → Prop, PO = fun e w' => ∃ g c, e = .returned (.tuple #[.slice (some ⟨g, 0, none⟩) (Wr.bytes p).length c, .int .i64 0]) ∧ Blk w' g c (Wr.bytes p) ∧ Below w.heap.size w w' := ⟨_, rfl⟩
  have HQ := Lib.hid hPO
  rw [← hPO]
  clear hPO
  obtain ⟨n, hn⟩ : ∃ n, n = p.msg.claims.length := ⟨_, rfl⟩
  have HN := Lib.hid hn
  rw [← hn] at HM HBX ⊢
  clear hn
  simp only [pktA] at HM ⊢
  go_enter Tryd.func10, Tryd.ntmps10
  go_wp2_with fail
  refine (HM.out _).mono ?_
  rintro e w1 ⟨rfl, hb1⟩
  have hx1 := (hb1.block _ (blk_lt HBX.out)).trans HBX.out
  obtain ⟨c0, c1, c2, c3, c4, c5, c6, c7, c8, c9, c10, c11, c12, c13, c14⟩ := pkt_cells hx1
  have HB1 : Hid (Below w.heap.size w w1) := ((Below.refl _ w).alloc (Nat.le_refl _) _).trans (hb1.mono (by simp))
  have HX1 := Lib.hid hx1
  clear hx1 hb1 HM HBX
  go_upto_region 5 with (fail)
  clear c0 c1 c2 c3 c4 c5 c6 c7 c8 c9 c10 c11 c12 c13 c14
  have hy : By w p A cap (.slice (some ⟨w1.heap.size, 0, none⟩) 2 2) (be 1 p.from_ ++ be 1 p.to_) (w1.alloc (.cells #[.int .u8 (p.from_ % 256), .int .u8 (p.to_ % 256)] 5)) := by
    have hr := World.ownsRow_lit (base := w.heap.size + 1) (e := 5) (size := 1) w1 #[.int .u8 (p.from_ % 256), .int .u8 (p.to_ % 256)] 2 (by have := blk_lt HX1.out; omega) (by decide) rfl
    refine ⟨HB1.out.alloc HB1.out.size _, (Below.heap_alloc _ _ _ (blk_lt HX1.out)).trans (by rw [← HN.out]; exact HX1.out), ?_⟩
    have e1 : (be 1 p.from_ ++ be 1 p.to_).map byV = [Value.int .u8 (p.from_ % 256), .int .u8 (p.to_ % 256)] := by
      have h1 : ((p.from_ % 256).toNat : Int) = p.from_ % 256 := by omega
      have h2 : ((p.to_ % 256).toNat : Int) = p.to_ % 256 := by omega
      simp [be, byV, h1, h2]
    rw [e1]
    exact hr
  obtain ⟨W, hW⟩ : ∃ W, w1.alloc (.cells #[.int .u8 (p.from_ % 256), .int .u8 (p.to_ % 256)] 5) = W := ⟨_, rfl⟩
  obtain ⟨v, hv⟩ : ∃ v, Value.slice (some ⟨w1.heap.size, 0, none⟩) 2 2 = v := ⟨_, rfl⟩
  rw [hW] at hy ⊢
  rw [hv] at hy ⊢
  clear hW hv HX1 HB1
  obtain ⟨L0, hL⟩ : ∃ L0, L0 = be 1 p.from_ ++ be 1 p.to_ := ⟨_, rfl⟩
  have hlen : L0.length = 2 := by rw [hL]; simp [be_length]
  rw [← hL] at hy
  have HL := Lib.hid hL
  have HLEN := Lib.hid hlen
  have HY0 := Lib.hid hy
  clear hL hlen hy
  -- the number fe
  obtain ⟨c0, c1, c2, c3, c4, c5, c6, c7, c8, c9, c10, c11, c12, c13, c14⟩ := pkt_cells HY0.out.box
  rw [← HN.out] at c14
  have xw : IntKind.u64.wrap (p.fe : Int) = (p.fe : Int) := by have := HF.out.fe; simp [IntKind.wrap, IntKind.bits, IntKind.signed]; omega
  go_wp2_with fail
  clear xw
  refine (number_any _ p.fe 4 (by have := HF.out.fe; omega) (by omega)).mono ?_
  rintro e X0 ⟨rfl, hblk, hbX⟩
  have HYX := Lib.hid (HY0.out.later hbX)
  have HBK := Lib.hid hblk
  clear c0 c1 c2 c3 c4 c5 c6 c7 c8 c9 c10 c11 c12 c13 c14 hblk hbX HY0
  have HRW := Lib.hid HYX.out.row
  have HSZ : Hid (w.heap.size + 1 ≤ X0.heap.size) := by have := blk_lt HYX.out.box; show _ ≤ _; omega
  go_upto_region 6 with (at_builtin; go_loud (refine wpList_append_bytes rfl (.tmp 23) (.tmp 27) rfl (w.heap.size + 1) (n := L0.length) (L := L0) rfl HRW.out (m := 4) (news := be 4 (p.fe : Int)) rfl HBK.out.at_ (by rw [be_length]) (fun h => by cases h) (by rw [HLEN.out]; omega) HSZ.out ?_); intro v1 W1 hown2 hgr2; have HY1' := HYX.out.app (news := be 4 (p.fe : Int)) (by rw [be_length]) hown2 hgr2; clear hown2 hgr2)
  clear HYX HBK HRW HSZ
  obtain ⟨L1, hL2⟩ : ∃ L1, L1 = L0 ++ be 4 (p.fe : Int) := ⟨_, rfl⟩
  have hlen2 : L1.length = 6 := by rw [hL2, List.length_append, HLEN.out, be_length]
  rw [← hL2] at HY1'
  have HY1 := Lib.hid HY1'
  rw [HL.out] at hL2
  clear HLEN HL HY1'
  have HL := Lib.hid hL2
  have HLEN := Lib.hid hlen2
  clear hL2 hlen2
  -- the number te
  obtain ⟨c0, c1, c2, c3, c4, c5, c6, c7, c8, c9, c10, c11, c12, c13, c14⟩ := pkt_cells HY1.out.box
  rw [← HN.out] at c14
  have xw : IntKind.u64.wrap (p.te : Int) = (p.te : Int) := by have := HF.out.te; simp [IntKind.wrap, IntKind.bits, IntKind.signed]; omega
  go_wp2_with fail
  clear xw
  refine (number_any _ p.te 4 (by have := HF.out.te; omega) (by omega)).mono ?_
  rintro e X1 ⟨rfl, hblk, hbX⟩
  have HYX := Lib.hid (HY1.out.later hbX)
  have HBK := Lib.hid hblk
  clear c0 c1 c2 c3 c4 c5 c6 c7 c8 c9 c10 c11 c12 c13 c14 hblk hbX HY1
  have HRW := Lib.hid HYX.out.row
  have HSZ : Hid (w.heap.size + 1 ≤ X1.heap.size) := by have := blk_lt HYX.out.box; show _ ≤ _; omega
  go_upto_region 7 with (at_builtin; go_loud (refine wpList_append_bytes rfl (.tmp 29) (.tmp 33) rfl (w.heap.size + 1) (n := L1.length) (L := L1) rfl HRW.out (m := 4) (news := be 4 (p.te : Int)) rfl HBK.out.at_ (by rw [be_length]) (fun h => by cases h) (by rw [HLEN.out]; omega) HSZ.out ?_); intro v2 W2 hown2 hgr2; have HY2' := HYX.out.app (news := be 4 (p.te : Int)) (by rw [be_length]) hown2 hgr2; clear hown2 hgr2)
  clear HYX HBK HRW HSZ
  obtain ⟨L2, hL2⟩ : ∃ L2, L2 = L1 ++ be 4 (p.te : Int) := ⟨_, rfl⟩
  have hlen2 : L2.length = 10 := by rw [hL2, List.length_append, HLEN.out, be_length]
  rw [← hL2] at HY2'
  have HY2 := Lib.hid HY2'
  rw [HL.out] at hL2
  clear HLEN HL HY2'
  have HL := Lib.hid hL2
  have HLEN := Lib.hid hlen2
  clear hL2 hlen2
  -- the number seq
  obtain ⟨c0, c1, c2, c3, c4, c5, c6, c7, c8, c9, c10, c11, c12, c13, c14⟩ := pkt_cells HY2.out.box
  rw [← HN.out] at c14
  have xw : IntKind.u64.wrap (p.seq : Int) = (p.seq : Int) := by have := HF.out.seq; simp [IntKind.wrap, IntKind.bits, IntKind.signed]; omega
  go_wp2_with fail
  clear xw
  refine (number_any _ p.seq 4 (by have := HF.out.seq; omega) (by omega)).mono ?_
  rintro e X2 ⟨rfl, hblk, hbX⟩
  have HYX := Lib.hid (HY2.out.later hbX)
  have HBK := Lib.hid hblk
  clear c0 c1 c2 c3 c4 c5 c6 c7 c8 c9 c10 c11 c12 c13 c14 hblk hbX HY2
  have HRW := Lib.hid HYX.out.row
  have HSZ : Hid (w.heap.size + 1 ≤ X2.heap.size) := by have := blk_lt HYX.out.box; show _ ≤ _; omega
  go_upto_region 8 with (at_builtin; go_loud (refine wpList_append_bytes rfl (.tmp 35) (.tmp 39) rfl (w.heap.size + 1) (n := L2.length) (L := L2) rfl HRW.out (m := 4) (news := be 4 (p.seq : Int)) rfl HBK.out.at_ (by rw [be_length]) (fun h => by cases h) (by rw [HLEN.out]; omega) HSZ.out ?_); intro v3 W3 hown2 hgr2; have HY3' := HYX.out.app (news := be 4 (p.seq : Int)) (by rw [be_length]) hown2 hgr2; clear hown2 hgr2)
  clear HYX HBK HRW HSZ
  obtain ⟨L3, hL2⟩ : ∃ L3, L3 = L2 ++ be 4 (p.seq : Int) := ⟨_, rfl⟩
  have hlen2 : L3.length = 14 := by rw [hL2, List.length_append, HLEN.out, be_length]
  rw [← hL2] at HY3'
  have HY3 := Lib.hid HY3'
  rw [HL.out] at hL2
  clear HLEN HL HY3'
  have HL := Lib.hid hL2
  have HLEN := Lib.hid hlen2
  clear hL2 hlen2
  -- the number met
  obtain ⟨c0, c1, c2, c3, c4, c5, c6, c7, c8, c9, c10, c11, c12, c13, c14⟩ := pkt_cells HY3.out.box
  rw [← HN.out] at c14
  have xw : IntKind.u64.wrap (p.met : Int) = (p.met : Int) := by have := HF.out.met; simp [IntKind.wrap, IntKind.bits, IntKind.signed]; omega
  go_wp2_with fail
  clear xw
  refine (number_any _ p.met 4 (by have := HF.out.met; omega) (by omega)).mono ?_
  rintro e X3 ⟨rfl, hblk, hbX⟩
  have HYX := Lib.hid (HY3.out.later hbX)
  have HBK := Lib.hid hblk
  clear c0 c1 c2 c3 c4 c5 c6 c7 c8 c9 c10 c11 c12 c13 c14 hblk hbX HY3
  have HRW := Lib.hid HYX.out.row
  have HSZ : Hid (w.heap.size + 1 ≤ X3.heap.size) := by have := blk_lt HYX.out.box; show _ ≤ _; omega
  go_upto_region 9 with (at_builtin; go_loud (refine wpList_append_bytes rfl (.tmp 41) (.tmp 45) rfl (w.heap.size + 1) (n := L3.length) (L := L3) rfl HRW.out (m := 4) (news := be 4 (p.met : Int)) rfl HBK.out.at_ (by rw [be_length]) (fun h => by cases h) (by rw [HLEN.out]; omega) HSZ.out ?_); intro v4 W4 hown2 hgr2; have HY4' := HYX.out.app (news := be 4 (p.met : Int)) (by rw [be_length]) hown2 hgr2; clear hown2 hgr2)
  clear HYX HBK HRW HSZ
  obtain ⟨L4, hL2⟩ : ∃ L4, L4 = L3 ++ be 4 (p.met : Int) := ⟨_, rfl⟩
  have hlen2 : L4.length = 18 := by rw [hL2, List.length_append, HLEN.out, be_length]
  rw [← hL2] at HY4'
  have HY4 := Lib.hid HY4'
  rw [HL.out] at hL2
  clear HLEN HL HY4'
  have HL := Lib.hid hL2
  have HLEN := Lib.hid hlen2
  clear hL2 hlen2
  -- the message's box, the kind's byte
  obtain ⟨c0, c1, c2, c3, c4, c5, c6, c7, c8, c9, c10, c11, c12, c13, c14⟩ := pkt_cells HY4.out.box
  rw [← HN.out] at c14
  have hmb := World.alloc_heap_new W4 (.cells (mgC p.msg A p.msg.claims.length cap) 26)
  have HM4 : Hid (Bm w p A cap W4.heap.size v4 L4 (W4.alloc (.cells (mgC p.msg A p.msg.claims.length cap) 26))) := ⟨HY4.out.later ((Below.refl _ W4).alloc (Nat.le_refl _) _), hmb⟩
  clear hmb HY4
  rw [← HN.out] at HM4
  go_upto_region 10 with (fail)
  clear c0 c1 c2 c3 c4 c5 c6 c7 c8 c9 c10 c11 c12 c13 c14
  obtain ⟨mq, hmq⟩ : ∃ mq, W4.heap.size = mq := ⟨_, rfl⟩
  obtain ⟨WM, hWM⟩ : ∃ WM, W4.alloc (.cells (mgC p.msg A n cap) 26) = WM := ⟨_, rfl⟩
  simp only [mgC] at hWM
  rw [hmq, hWM] at HM4
  rw [hmq, hWM]
  clear hmq hWM
  obtain ⟨m0, m1, m2, m3, m4, m5, m6, m7, m8⟩ := HM4.out.cells
  have HMK := Lib.hid (HM4.out.later ((Below.refl _ WM).alloc (Nat.le_refl _) (.cells #[.int .u8 (p.msg.kind % 256)] 5)))
  have HRW := Lib.hid HMK.out.by_.row
  have HBY := Lib.hid (byte_at (x := p.msg.kind) WM)
  have HSZ : Hid (w.heap.size + 1 ≤ (WM.alloc (.cells #[.int .u8 (p.msg.kind % 256)] 5)).heap.size) := by have := blk_lt HMK.out.by_.box; show _ ≤ _; omega
  clear HM4
  go_upto_region 11 with (at_builtin; go_loud (refine wpList_append_bytes rfl (.tmp 49) (.tmp 53) rfl (w.heap.size + 1) (n := L4.length) (L := L4) rfl HRW.out (m := 1) (news := be 1 p.msg.kind) rfl HBY.out (by rw [be_length]) (fun h => by cases h) (by rw [HLEN.out]; omega) HSZ.out ?_); intro v5 W5 hown2 hgr2; have HM5' := HMK.out.app (news := be 1 p.msg.kind) (by rw [be_length]) hown2 hgr2; clear hown2 hgr2)
  clear m0 m1 m2 m3 m4 m5 m6 m7 m8 HMK HRW HBY HSZ
  obtain ⟨L5, hL5⟩ : ∃ L5, L5 = L4 ++ be 1 p.msg.kind := ⟨_, rfl⟩
  have hlen5 : L5.length = 19 := by rw [hL5, List.length_append, HLEN.out, be_length]
  rw [← hL5] at HM5'
  have HM5 := Lib.hid HM5'
  rw [HL.out] at hL5
  clear HLEN HL HM5'
  have HL := Lib.hid hL5
  have HLEN := Lib.hid hlen5
  clear hL5 hlen5
  obtain ⟨m0, m1, m2, m3, m4, m5, m6, m7, m8⟩ := HM5.out.cells
  obtain ⟨nm, hnm⟩ : ∃ nm, nm = nmI p.msg.kind := ⟨_, rfl⟩
  have HNM := Lib.hid hnm
  obtain ⟨S, hS⟩ : ∃ S, S = strN nm := ⟨_, rfl⟩
  have RM : Hid (∀ W, Calls Tryd.prog 19 #[.int .i64 p.msg.kind] W fun e w' => e = .returned (.string S) ∧ w' = W) := fun W => by
    have := rnames_any W p.msg.kind
    unfold nmV at this
    rwa [← hnm, ← hS] at this
  obtain ⟨N, hNN⟩ : ∃ N, N = nm.length := ⟨_, rfl⟩
  have HNN := Lib.hid hNN
  have hsz : S.size = N := by rw [hS, hNN]; show ((nm.map UInt8.ofNat).toArray).size = nm.length; simp
  have HI : Hid (∀ i, i < N → ∀ W, (Instr.index 9 (.string S) (.int .i64 (i : Int))).run Tryd.prog W = .ok (.int .u8 ((nm.getD i 0 : Nat) : Int)) W) := by
    intro i hi W
    rw [run_index_string W _ S .i64 i Tryd.underlying9, dif_pos ⟨by omega, by rw [hsz]; omega⟩]
    have hil : i < nm.length := by omega
    have : (S[((i : Int)).toNat]'(by rw [hsz]; omega)).toNat = nm.getD i 0 := by
      subst hS
      show ((nm.map UInt8.ofNat).toArray[((i : Int)).toNat]'(by simp; omega)).toNat = _
      have h256 := nm_lt p.msg.kind _ (by rw [← hnm]; exact List.getElem_mem hil)
      simp [List.getD, hil, Nat.mod_eq_of_lt h256]
    rw [this]
  have HLT : Hid (∀ j, j < N → nm.getD j 0 = 99 ∨ nm.getD j 0 = 103 ∨ nm.getD j 0 = 115 ∨ nm.getD j 0 = 112 ∨ nm.getD j 0 = 104 ∨ nm.getD j 0 = 111 ∨ nm.getD j 0 = 119 ∨ nm.getD j 0 = 108) := fun j hj => by
    have h1 := nm_letters p.msg.kind (nm.getD j 0) (by rw [← hnm, List.getD_eq_getElem?_getD, List.getElem?_eq_getElem (by omega)]; exact List.getElem_mem _)
    exact h1
  have hN5 : N ≤ 5 := by rw [hNN, hnm]; exact nm_five _
  have HTK : Hid (∀ j, j < N → (nm.take (j + 1)).flatMap (encF p.msg) = (nm.take j).flatMap (encF p.msg) ++ encF p.msg (nm.getD j 0)) := fun j hj => by
    rw [List.take_add_one, List.getElem?_eq_getElem (by omega), List.flatMap_append, List.getD_eq_getElem?_getD, List.getElem?_eq_getElem (by omega)]
    simp
  have HND : Hid (nm.take N = nm) := by rw [hNN, List.take_length]; rfl
  clear hnm hS hNN
  go_upto_region 12 with ((with_reducible refine (RM.out _).mono ?_); rintro e w' ⟨rfl, rfl⟩)
  clear m0 m1 m2 m3 m4 m5 m6 m7 m8 RM
  have hcap16 : p.msg.claims.length ≤ 16 := okM_16 _ HF.out.gen HF.out.stamp (okP_M HOK.out)
  have HC16 := Lib.hid hcap16
  clear hcap16
  go_wp2
  go_loopw [5, 8] (fun v i wr => ∃ (j : Nat) (L : List Nat), j ≤ N ∧ i = .int .i64 (j : Int) ∧ L = L5 ++ (nm.take j).flatMap (encF p.msg) ∧ L.length ≤ 19 + 110 * j ∧ Bm w p A cap mq v L wr) (fun _ i _ => N - (intOf i).toNat)
  case atStart => exact ⟨0, L5, by omega, rfl, by simp, by rw [HLEN.out]; omega, HM5.out⟩
  case round =>
    obtain ⟨j, L, hj, rfl, hLj, hLl, hB⟩ := hrel
    by_cases hlt : j < N
    · have hx := HI.out j hlt
      have hstep := HTK.out j hlt
      have hlet := HLT.out j hlt
      have HB := Lib.hid hB
      have HLL : Hid (L.length ≤ 600) := by show _ ≤ _; omega
      have HJL := Lib.hid hlt
      have HNX : Hid (∀ (v2 : Value) (W2 : World) (news : List Nat), news = encF p.msg (nm.getD j 0) → news.length ≤ 110 → Bm w p A cap mq v2 (L ++ news) W2 → ∃ (j2 : Nat) (L2 : List Nat), j2 ≤ N ∧ Value.int .i64 ((j : Int) + 1) = .int .i64 (j2 : Int) ∧ L2 = L5 ++ (nm.take j2).flatMap (encF p.msg) ∧ L2.length ≤ 19 + 110 * j2 ∧ Bm w p A cap mq v2 L2 W2) :=
        fun v2 W2 news e hl h => ⟨j + 1, L ++ news, hlt, by push_cast; rfl, by rw [hstep, hLj, e, List.append_assoc], by rw [List.length_append]; omega, h⟩
      have j0 : (0 : Int) ≤ (j : Int) := by omega
      have j1 : (j : Int) < (N : Int) := by omega
      have x4 : IntKind.i64.wrap ((j : Int) + 1) = (j : Int) + 1 := IntWalk.i64_in _ (by omega)
      obtain ⟨m0, m1, m2, m3, m4, m5, m6, m7, m8⟩ := hB.cells
      generalize nm.getD j 0 = x at hx hlet HNX
      have hR := okM_R _ HF.out.gen HF.out.stamp (okP_M HOK.out)
      unfold docR at hR
      have HR := Lib.hid hR
      clear hB hLj hLl hstep hj hlt HI HTK HLT HND HL HLEN HM5 hR
      rcases hlet with rfl | rfl | rfl | rfl | rfl | rfl | rfl | rfl
      · -- a cell
        obtain ⟨cn, hcn⟩ : ∃ cn : Nat, p.msg.cell = (cn : Int) := ⟨p.msg.cell.toNat, by have := HR.out.1; omega⟩
        rw [hcn] at m1
        have hc1 : cn ≤ 1023 := by have := HR.out.2.1; omega
        have hen : be 2 (cn : Int) = encF p.msg 99 := by show _ = be 2 p.msg.cell; rw [hcn]
        have HEN := Lib.hid hen
        have HC1 := Lib.hid hc1
        have xw : IntKind.u64.wrap (cn : Int) = (cn : Int) := by simp [IntKind.wrap, IntKind.bits, IntKind.signed]; omega
        clear hcn hc1 hen
        go_wp2_with fail
        refine (number_any _ cn 2 (by have := HC1.out; omega) (by omega)).mono ?_
        rintro e X ⟨rfl, hblk, hbX⟩
        have HBX := Lib.hid (HB.out.later hbX)
        have HBK := Lib.hid hblk
        clear m0 m1 m2 m3 m4 m5 m6 m7 m8 hblk hbX hx HB
        have HRW := Lib.hid HBX.out.by_.row
        have HSZ : Hid (w.heap.size + 1 ≤ X.heap.size) := by have := blk_lt HBX.out.by_.box; show _ ≤ _; omega
        go_wp2_with (at_builtin; go_loud (refine wpList_append_bytes rfl (.tmp 69) (.tmp 73) rfl (w.heap.size + 1) (n := L.length) (L := L) rfl HRW.out (m := 2) (news := be 2 (cn : Int)) rfl HBK.out.at_ (by rw [be_length]) (fun h => by cases h) (by have := HLL.out; omega) HSZ.out ?_); intro v2 W2 hown2 hgr2; have HX := Lib.hid (HNX.out v2 W2 (be 2 (cn : Int)) HEN.out (by rw [be_length]; omega) (HBX.out.app (news := be 2 (cn : Int)) (by rw [be_length]) hown2 hgr2)); clear hown2 hgr2)
        go_roundw
        case rel => exact HX.out
        case measure => have := HJL.out; simp [intOf]; omega
      · -- a gen
        have xw : IntKind.u64.wrap (p.msg.gen : Int) = (p.msg.gen : Int) := by have := HF.out.gen; simp [IntKind.wrap, IntKind.bits, IntKind.signed]; omega
        go_wp2_with fail
        refine (number_any _ p.msg.gen 4 (by have := HF.out.gen; omega) (by omega)).mono ?_
        rintro e X ⟨rfl, hblk, hbX⟩
        have HBX := Lib.hid (HB.out.later hbX)
        have HBK := Lib.hid hblk
        clear m0 m1 m2 m3 m4 m5 m6 m7 m8 hblk hbX hx HB
        have HRW := Lib.hid HBX.out.by_.row
        have HSZ : Hid (w.heap.size + 1 ≤ X.heap.size) := by have := blk_lt HBX.out.by_.box; show _ ≤ _; omega
        go_wp2_with (at_builtin; go_loud (refine wpList_append_bytes rfl (.tmp 77) (.tmp 81) rfl (w.heap.size + 1) (n := L.length) (L := L) rfl HRW.out (m := 4) (news := be 4 (p.msg.gen : Int)) rfl HBK.out.at_ (by rw [be_length]) (fun h => by cases h) (by have := HLL.out; omega) HSZ.out ?_); intro v2 W2 hown2 hgr2; have HX := Lib.hid (HNX.out v2 W2 (be 4 (p.msg.gen : Int)) rfl (by rw [be_length]; omega) (HBX.out.app (news := be 4 (p.msg.gen : Int)) (by rw [be_length]) hown2 hgr2)); clear hown2 hgr2)
        go_roundw
        case rel => exact HX.out
        case measure => have := HJL.out; simp [intOf]; omega
      · -- a stamp
        go_wp2_with fail
        refine (number_any _ p.msg.stamp 8 (by have := HF.out.stamp; omega) (by omega)).mono ?_
        rintro e X ⟨rfl, hblk, hbX⟩
        have HBX := Lib.hid (HB.out.later hbX)
        have HBK := Lib.hid hblk
        clear m0 m1 m2 m3 m4 m5 m6 m7 m8 hblk hbX hx HB
        have HRW := Lib.hid HBX.out.by_.row
        have HSZ : Hid (w.heap.size + 1 ≤ X.heap.size) := by have := blk_lt HBX.out.by_.box; show _ ≤ _; omega
        go_wp2_with (at_builtin; go_loud (refine wpList_append_bytes rfl (.tmp 85) (.tmp 88) rfl (w.heap.size + 1) (n := L.length) (L := L) rfl HRW.out (m := 8) (news := be 8 (p.msg.stamp : Int)) rfl HBK.out.at_ (by rw [be_length]) (fun h => by cases h) (by have := HLL.out; omega) HSZ.out ?_); intro v2 W2 hown2 hgr2; have HX := Lib.hid (HNX.out v2 W2 (be 8 (p.msg.stamp : Int)) rfl (by rw [be_length]; omega) (HBX.out.app (news := be 8 (p.msg.stamp : Int)) (by rw [be_length]) hown2 hgr2)); clear hown2 hgr2)
        go_roundw
        case rel => exact HX.out
        case measure => have := HJL.out; simp [intOf]; omega
      · -- a prio
        have HBX := Lib.hid (HB.out.later ((Below.refl _ wr).alloc (Nat.le_refl _) (.cells #[.int .u8 (p.msg.prio % 256)] 5)))
        have HBY := Lib.hid (byte_at (x := p.msg.prio) wr)
        have HRW := Lib.hid HBX.out.by_.row
        have HSZ : Hid (w.heap.size + 1 ≤ (wr.alloc (.cells #[.int .u8 (p.msg.prio % 256)] 5)).heap.size) := by have := blk_lt HBX.out.by_.box; show _ ≤ _; omega
        clear HB
        go_wp2_with (at_builtin; go_loud (refine wpList_append_bytes rfl (.tmp 92) (.tmp 96) rfl (w.heap.size + 1) (n := L.length) (L := L) rfl HRW.out (m := 1) (news := be 1 p.msg.prio) rfl HBY.out (by rw [be_length]) (fun h => by cases h) (by have := HLL.out; omega) HSZ.out ?_); intro v2 W2 hown2 hgr2; have HX := Lib.hid (HNX.out v2 W2 (be 1 p.msg.prio) rfl (by rw [be_length]; omega) (HBX.out.app (news := be 1 p.msg.prio) (by rw [be_length]) hown2 hgr2)); clear hown2 hgr2)
        go_roundw
        case rel => exact HX.out
        case measure => have := HJL.out; simp [intOf]; omega
      · -- hops
        have HBX := Lib.hid (HB.out.later ((Below.refl _ wr).alloc (Nat.le_refl _) (.cells #[.int .u8 (p.msg.hops % 256)] 5)))
        have HBY := Lib.hid (byte_at (x := p.msg.hops) wr)
        have HRW := Lib.hid HBX.out.by_.row
        have HSZ : Hid (w.heap.size + 1 ≤ (wr.alloc (.cells #[.int .u8 (p.msg.hops % 256)] 5)).heap.size) := by have := blk_lt HBX.out.by_.box; show _ ≤ _; omega
        clear HB
        go_wp2_with (at_builtin; go_loud (refine wpList_append_bytes rfl (.tmp 100) (.tmp 104) rfl (w.heap.size + 1) (n := L.length) (L := L) rfl HRW.out (m := 1) (news := be 1 p.msg.hops) rfl HBY.out (by rw [be_length]) (fun h => by cases h) (by have := HLL.out; omega) HSZ.out ?_); intro v2 W2 hown2 hgr2; have HX := Lib.hid (HNX.out v2 W2 (be 1 p.msg.hops) rfl (by rw [be_length]; omega) (HBX.out.app (news := be 1 p.msg.hops) (by rw [be_length]) hown2 hgr2)); clear hown2 hgr2)
        go_roundw
        case rel => exact HX.out
        case measure => have := HJL.out; simp [intOf]; omega
      · -- an origin
        have HBX := Lib.hid (HB.out.later ((Below.refl _ wr).alloc (Nat.le_refl _) (.cells #[.int .u8 (p.msg.origin % 256)] 5)))
        have HBY := Lib.hid (byte_at (x := p.msg.origin) wr)
        have HRW := Lib.hid HBX.out.by_.row
        have HSZ : Hid (w.heap.size + 1 ≤ (wr.alloc (.cells #[.int .u8 (p.msg.origin % 256)] 5)).heap.size) := by have := blk_lt HBX.out.by_.box; show _ ≤ _; omega
        clear HB
        go_wp2_with (at_builtin; go_loud (refine wpList_append_bytes rfl (.tmp 108) (.tmp 112) rfl (w.heap.size + 1) (n := L.length) (L := L) rfl HRW.out (m := 1) (news := be 1 p.msg.origin) rfl HBY.out (by rw [be_length]) (fun h => by cases h) (by have := HLL.out; omega) HSZ.out ?_); intro v2 W2 hown2 hgr2; have HX := Lib.hid (HNX.out v2 W2 (be 1 p.msg.origin) rfl (by rw [be_length]; omega) (HBX.out.app (news := be 1 p.msg.origin) (by rw [be_length]) hown2 hgr2)); clear hown2 hgr2)
        go_roundw
        case rel => exact HX.out
        case measure => have := HJL.out; simp [intOf]; omega
      · -- another robot
        have ho := HR.out.2.2.2.2.2.2.2.2.1
        have ho2 := HR.out.2.2.2.2.2.2.2.2.2.1
        obtain ⟨z, hz⟩ : ∃ z : Int, z = p.msg.other % 256 := ⟨_, rfl⟩
        have x1 : IntKind.i64.wrap (p.msg.other + 256) = p.msg.other + 256 := IntWalk.i64_in _ (by omega)
        have x2 : (p.msg.other + 256).tmod 256 = z := by rw [Int.tmod_eq_emod_of_nonneg (by omega)]; omega
        have hen : be 1 z = encF p.msg 119 := by
          show be 1 z = be 1 p.msg.other
          have : z % 256 = p.msg.other % 256 := by omega
          simp [be, this]
        have HEN := Lib.hid hen
        clear ho ho2 hz hen
        have HBX := Lib.hid (HB.out.later ((Below.refl _ wr).alloc (Nat.le_refl _) (.cells #[.int .u8 (z % 256)] 5)))
        have HBY := Lib.hid (byte_at (x := z) wr)
        have HRW := Lib.hid HBX.out.by_.row
        have HSZ : Hid (w.heap.size + 1 ≤ (wr.alloc (.cells #[.int .u8 (z % 256)] 5)).heap.size) := by have := blk_lt HBX.out.by_.box; show _ ≤ _; omega
        clear HB
        go_wp2_with (at_builtin; go_loud (refine wpList_append_bytes rfl (.tmp 116) (.tmp 122) rfl (w.heap.size + 1) (n := L.length) (L := L) rfl HRW.out (m := 1) (news := be 1 z) rfl HBY.out (by rw [be_length]) (fun h => by cases h) (by have := HLL.out; omega) HSZ.out ?_); intro v2 W2 hown2 hgr2; have HX := Lib.hid (HNX.out v2 W2 (be 1 z) HEN.out (by rw [be_length]; omega) (HBX.out.app (news := be 1 z) (by rw [be_length]) hown2 hgr2)); clear hown2 hgr2)
        go_roundw
        case rel => exact HX.out
        case measure => have := HJL.out; simp [intOf]; omega
      · -- claims
        obtain ⟨nc, hnc⟩ : ∃ nc, nc = p.msg.claims.length := ⟨_, rfl⟩
        have HNC := Lib.hid hnc
        have HBX := Lib.hid (HB.out.later ((Below.refl _ wr).alloc (Nat.le_refl _) (.cells #[.int .u8 ((nc : Int) % 256)] 5)))
        have HBY := Lib.hid (byte_at (x := (nc : Int)) wr)
        have HRW := Lib.hid HBX.out.by_.row
        have HSZ : Hid (w.heap.size + 1 ≤ (wr.alloc (.cells #[.int .u8 ((nc : Int) % 256)] 5)).heap.size) := by have := blk_lt HBX.out.by_.box; show _ ≤ _; omega
        rw [← hnc] at m8
        have HN16 : Hid (nc ≤ 16) := by show _ ≤ _; rw [hnc]; exact HC16.out
        clear HB hnc
        go_upto_block 3 with (at_builtin; go_loud (refine wpList_append_bytes rfl (.tmp 126) (.tmp 131) rfl (w.heap.size + 1) (n := L.length) (L := L) rfl HRW.out (m := 1) (news := be 1 (nc : Int)) rfl HBY.out (by rw [be_length]) (fun h => by cases h) (by have := HLL.out; omega) HSZ.out ?_); intro v6 W6 hown2 hgr2; have HY6 := Lib.hid (HBX.out.app (news := be 1 (nc : Int)) (by rw [be_length]) hown2 hgr2); clear hown2 hgr2)
        clear m0 m1 m2 m3 m4 m5 m6 m7 m8 HBX HBY HRW HSZ
        have hri := rise_mem (okM_rise _ (okP_M HOK.out))
        have HRI := Lib.hid hri
        clear hri
        go_wp2_with fail
        go_loopw [5, 9] (fun v i wz => ∃ (q : Nat) (L2 : List Nat), q ≤ nc ∧ i = .int .i64 (q : Int) ∧ L2 = L ++ (be 1 (nc : Int) ++ (p.msg.claims.take q).flatMap clm) ∧ L2.length ≤ 601 + 6 * q ∧ Bm w p A cap mq v L2 wz) (fun _ i _ => nc - (intOf i).toNat)
        case atStart => exact ⟨0, L ++ be 1 (nc : Int), by omega, rfl, by simp, by rw [List.length_append, be_length]; have := HLL.out; omega, HY6.out⟩
        case round =>
          clear HY6
          obtain ⟨q, L2, hq, rfl, hL2, hl2, hB2⟩ := hrel
          have HB2 := Lib.hid hB2
          by_cases hltq : q < nc
          · obtain ⟨m0, m1, m2, m3, m4, m5, m6, m7, m8⟩ := hB2.cells
            rw [← HNC.out] at m8
            have hql : q < p.msg.claims.length := by rw [← HNC.out]; exact hltq
            obtain ⟨a0, hA, c1, c2⟩ := (HC.out.below hB2.by_.below) q hql
            have hmem : p.msg.claims.getD q (0, 0) ∈ p.msg.claims := by rw [List.getD_eq_getElem?_getD, List.getElem?_eq_getElem hql]; exact List.getElem_mem _
            have hbnd := HRI.out _ hmem
            have hgen := HF.out.cgen _ hmem
            have htk : (p.msg.claims.take (q + 1)).flatMap clm = (p.msg.claims.take q).flatMap clm ++ clm (p.msg.claims.getD q (0, 0)) := by
              rw [List.take_add_one, List.getElem?_eq_getElem hql, List.flatMap_append, List.getD_eq_getElem?_getD, List.getElem?_eq_getElem hql]
              simp
            have HCW : Hid (∀ W, Below w.heap.size w W → W.cell? (a0.add (q * 2)) = some (.int .i64 (p.msg.claims.getD q (0, 0)).1) ∧ W.cell? ⟨(a0.add (q * 2)).block, (a0.add (q * 2)).off + 1, none⟩ = some (.int .u32 ((p.msg.claims.getD q (0, 0)).2 : Nat))) := fun W hW => by
              obtain ⟨a1, hA1, d1, d2⟩ := (HC.out.below hW) q hql
              rw [hA] at hA1
              injection hA1 with hA1
              subst hA1
              exact ⟨d1, d2⟩
            generalize p.msg.claims.getD q (0, 0) = xx at *
            obtain ⟨cx, gx⟩ := xx
            simp only at c1 c2 hbnd hgen HCW
            obtain ⟨cn, hcn⟩ : ∃ cn : Nat, cx = (cn : Int) := ⟨cx.toNat, by omega⟩
            subst hcn
            have HFI : Hid (∀ (v9 : Value) (W9 : World), Bm w p A cap mq v9 ((L2 ++ be 2 (cn : Int)) ++ be 4 (gx : Int)) W9 → ∃ (q2 : Nat) (L3 : List Nat), q2 ≤ nc ∧ Value.int .i64 ((q : Int) + 1) = .int .i64 (q2 : Int) ∧ L3 = L ++ (be 1 (nc : Int) ++ (p.msg.claims.take q2).flatMap clm) ∧ L3.length ≤ 601 + 6 * q2 ∧ Bm w p A cap mq v9 L3 W9) := fun v9 W9 h => ⟨q + 1, _, hltq, by push_cast; rfl, by rw [htk, hL2]; simp [clm, List.append_assoc], by rw [List.length_append, List.length_append, be_length, be_length]; omega, h⟩
            have HL2 : Hid (L2.length ≤ 700) := by have := HN16.out; show _ ≤ _; omega
            have HGX : Hid (gx < 4294967296) := hgen
            have HCX : Hid (cn < 1024) := by show _ < _; omega
            have k0 : (0 : Int) ≤ (q : Int) := by omega
            have k1 : (q : Int) < (nc : Int) := by omega
            have HQL := Lib.hid hltq
            have HAA := Lib.hid hA
            have xw1 : IntKind.u64.wrap (cn : Int) = (cn : Int) := by simp [IntKind.wrap, IntKind.bits, IntKind.signed]; omega
            have xw2 : IntKind.u64.wrap (gx : Int) = (gx : Int) := by simp [IntKind.wrap, IntKind.bits, IntKind.signed]; omega
            have x5 : IntKind.i64.wrap ((q : Int) + 1) = (q : Int) + 1 := IntWalk.i64_in _ (by have := HN16.out; omega)
            rw [hA] at m8
            clear hB2 hq hL2 hl2 hltq hql hA hmem hbnd hgen htk HNX
            go_wp2_with fail
            refine (number_any _ cn 2 (by have := HCX.out; omega) (by omega)).mono ?_
            rintro e X ⟨rfl, hblk, hbX⟩
            have HBX := Lib.hid (HB2.out.later hbX)
            have HBK := Lib.hid hblk
            clear m0 m1 m2 m3 m4 m5 m6 m7 m8 c1 c2 hblk hbX HB2
            have HRW := Lib.hid HBX.out.by_.row
            have HSZ : Hid (w.heap.size + 1 ≤ X.heap.size) := by have := blk_lt HBX.out.by_.box; show _ ≤ _; omega
            go_upto_region 36 with (at_builtin; go_loud (refine wpList_append_bytes rfl (.tmp 140) (.tmp 148) rfl (w.heap.size + 1) (n := L2.length) (L := L2) rfl HRW.out (m := 2) (news := be 2 (cn : Int)) rfl HBK.out.at_ (by rw [be_length]) (fun h => by cases h) (by have := HL2.out; omega) HSZ.out ?_); intro v7 W7 hown2 hgr2; have HY7 := Lib.hid (HBX.out.app (news := be 2 (cn : Int)) (by rw [be_length]) hown2 hgr2); clear hown2 hgr2)
            clear HBX HBK HRW HSZ
            obtain ⟨m0, m1, m2, m3, m4, m5, m6, m7, m8⟩ := HY7.out.cells
            rw [← HNC.out, HAA.out] at m8
            obtain ⟨c1, c2⟩ := HCW.out W7 HY7.out.by_.below
            go_wp2_with fail
            refine (number_any _ gx 4 (by have := HGX.out; omega) (by omega)).mono ?_
            rintro e X2 ⟨rfl, hblk, hbX⟩
            have HBX := Lib.hid (HY7.out.later hbX)
            have HBK := Lib.hid hblk
            clear m0 m1 m2 m3 m4 m5 m6 m7 m8 c1 c2 hblk hbX HY7
            have HRW := Lib.hid HBX.out.by_.row
            have HSZ : Hid (w.heap.size + 1 ≤ X2.heap.size) := by have := blk_lt HBX.out.by_.box; show _ ≤ _; omega
            go_wp2_with (at_builtin; go_loud (refine wpList_append_bytes rfl (.tmp 150) (.tmp 158) rfl (w.heap.size + 1) (n := (L2 ++ be 2 (cn : Int)).length) (L := L2 ++ be 2 (cn : Int)) rfl HRW.out (m := 4) (news := be 4 (gx : Int)) rfl HBK.out.at_ (by rw [be_length]) (fun h => by cases h) (by rw [List.length_append, be_length]; have := HL2.out; omega) HSZ.out ?_); intro v8 W8 hown2 hgr2; have HX := Lib.hid (HFI.out v8 W8 (HBX.out.app (news := be 4 (gx : Int)) (by rw [be_length]) hown2 hgr2)); clear hown2 hgr2)
            go_roundw
            case rel => exact HX.out
            case measure => have := HQL.out; simp [intOf]; omega
          · have hqn : q = nc := by omega
            have hX := HNX.out _ _ (be 1 (nc : Int) ++ (p.msg.claims.take q).flatMap clm) (by rw [hqn, HNC.out, List.take_length]; rfl) (by rw [List.length_append, be_length, clm_len, List.length_take]; have := HN16.out; omega) (by rw [← hL2]; exact hB2)
            have HX := Lib.hid hX
            obtain ⟨m0, m1, m2, m3, m4, m5, m6, m7, m8⟩ := hB2.cells
            rw [← HNC.out] at m8
            rw [hqn]
            clear hX hB2 hqn hltq hq hL2 hl2
            go_wp2
            go_roundw
            case rel => exact HX.out
            case measure => have := HJL.out; simp [intOf]; omega
    · have hjN : j = N := by omega
      have hplain : L = plain p := by
        have hb := body_enc p.msg (okP_M HOK.out)
        rw [hLj, hjN, HND.out, HL.out, HNM.out, ← hb]
        simp [plain, List.append_assoc]
      have hL19 : 19 ≤ L.length := by rw [hLj, List.length_append, HLEN.out]; omega
      have hL6 : L.length ≤ 600 := by omega
      have hlt256 : ∀ c ∈ L, c < 256 := by rw [hplain]; exact plain_lt p
      obtain ⟨gb, capb, hu5, hbytes⟩ : ∃ gb capb, u5 = .slice (some ⟨gb, 0, none⟩) L.length capb ∧ ∀ W, Below wr.heap.size wr W → ∀ k, k < L.length → W.cell? ⟨gb, k, none⟩ = some (byV (L.getD k 0)) := by
        rcases hB.by_.row.2 with ⟨_, h0⟩ | ⟨gb, capb, cur, h1, h2, h3, h4, h5, h6, h7⟩
        · omega
        · refine ⟨gb, capb, h1, fun W hW k hk => ?_⟩
          rw [blk_cell ((hW.block _ (blk_lt h3)).trans h3)]
          have h8 : (L.map byV)[k]? = cur[k]? := by
            rw [← h7, Nat.mul_one, List.getElem?_take_of_lt hk, Array.getElem?_toList]
          rw [← h8, List.getElem?_map, List.getElem?_eq_getElem hk, List.getD_eq_getElem?_getD, List.getElem?_eq_getElem hk]
          rfl
      subst hu5
      have HBT := Lib.hid hbytes
      have HPL := Lib.hid hplain
      have H256 := Lib.hid hlt256
      have HBE := Lib.hid hB.by_.below
      obtain ⟨M, hM⟩ : ∃ M, M = L.length := ⟨_, rfl⟩
      have HMM := Lib.hid hM
      rw [← hM] at hL6 ⊢
      clear hB hLj hLl hj hlt HI HTK HLT HND HL HLEN HM5 hplain hlt256 hbytes hM hL19 HC HF HN HNN HNM
      rw [hjN]
      clear hjN
      go_wp2
      go_loopw [10, 11] (fun o i wx => ∃ q : Nat, q ≤ M ∧ i = .int .i64 (q : Int) ∧ Below wr.heap.size wr wx ∧ wx.ownsRow wr.heap.size 5 1 o (dbl (L.take q)).length ((dbl (L.take q)).map byV)) (fun _ i _ => M - (intOf i).toNat)
      case atStart => exact ⟨0, by omega, rfl, Below.refl _ _, World.ownsRow_nil _ _ _ _⟩
      case round =>
        rename World => wx
        obtain ⟨q, hq, rfl, hbx, hrow⟩ := hrel
        by_cases hltq : q < M
        · have hc := HBT.out wx hbx q (by rw [← HMM.out]; exact hltq)
          have hdb : dbl (L.take (q + 1)) = dbl (L.take q) ++ [L.getD q 0, 255 - L.getD q 0] := by
            rw [List.take_add_one, List.getElem?_eq_getElem (by rw [← HMM.out]; exact hltq), dbl_append, List.getD_eq_getElem?_getD, List.getElem?_eq_getElem (by rw [← HMM.out]; exact hltq)]
            rfl
          have hxl : L.getD q 0 < 256 := H256.out _ (by rw [List.getD_eq_getElem?_getD, List.getElem?_eq_getElem (by rw [← HMM.out]; exact hltq)]; exact List.getElem_mem _)
          have hdl : (dbl (L.take q)).length ≤ 1200 := by rw [dbl_length, List.length_take]; omega
          generalize L.getD q 0 = x at *
          have HDB := Lib.hid hdb
          have HDL := Lib.hid hdl
          have HRW := Lib.hid hrow
          have HBX := Lib.hid hbx
          have HQL := Lib.hid hltq
          have q0 : (0 : Int) ≤ (q : Int) := by omega
          have q1 : (q : Int) < (M : Int) := by omega
          have x4 : IntKind.i64.wrap ((q : Int) + 1) = (q : Int) + 1 := IntWalk.i64_in _ (by omega)
          have x8 : IntKind.u8.wrap (255 - (x : Int)) = ((255 - x : Nat) : Int) := by simp [IntKind.wrap, IntKind.bits, IntKind.signed]; omega
          unfold byV at hc
          clear hdb hdl hrow hbx hq hltq hxl
          go_wp2_with fail
          obtain ⟨i0, hi, hz0, hz1, hz2⟩ := info_parts Tryd.infoU8
          have HI8 := Lib.hid hi
          clear hi
          go_region_law (refine step_append_lies _ rfl (.tmp 166) (.tmp 176) 34 rfl wr.heap.size 5 i0 (.int .u8 0) 1 1 Tryd.underlying34 HI8.out hz0 hz1 hz2 rfl (by decide) u10 (dbl (L.take q)).length ((dbl (L.take q)).map byV) (by simp [Act.eval]) ((HRW.out.drew).alloc _) ⟨wx.heap.size, 0, none⟩ 2 2 [.int .u8 (x : Nat), .int .u8 ((255 - x : Nat) : Int)] (by simp [Act.eval]) rfl (World.news_of_block (cs := #[.int .u8 (x : Nat), .int .u8 ((255 - x : Nat) : Int)]) (heap_alloc_new wx.drew _)) (by intro u hu; simp at hu; rcases hu with rfl | rfl <;> rfl) (by decide) (by have := HDL.out; unfold maxLen; omega) (by have := HDL.out; omega) (by have := HBX.out.size; simp; omega) (wx.heap.size + 1) (by simp) ?_; intro g2 cap2 w2 ho2 hg2 hat2 _)
          all_goals
            have hbe : Below wr.heap.size wr w2 := ((HBX.out.drew).alloc HBX.out.size _).grown hg2 (by have := HBX.out.size; simp; omega) (fun k e => (HRW.out.lt k e).1)
            have hro : w2.ownsRow wr.heap.size 5 1 (.slice (some ⟨g2, 0, none⟩) ((dbl (L.take q)).length + 2) cap2) (dbl (L.take (q + 1))).length ((dbl (L.take (q + 1))).map byV) := by
              rw [HDB.out, List.length_append, List.map_append]
              exact ho2
            have HBN := Lib.hid hbe
            have HRN := Lib.hid hro
            clear hbe hro ho2 hg2 hat2 HBX HRW HDB HI8 hc
            go_wp2
            go_roundw
            case rel => exact ⟨q + 1, HQL.out, by push_cast; rfl, HBN.out, HRN.out⟩
            case measure => have := HQL.out; simp [intOf]; omega
        · have hqM : q = M := by omega
          have hbp : dbl (L.take q) = Wr.bytes p := by rw [hqM, HMM.out, List.take_length, HPL.out]; rfl
          rw [hbp] at hrow
          have hlen : 0 < (Wr.bytes p).length := by rw [← hbp, dbl_length, List.length_take, hqM, HMM.out, HPL.out]; simp [plain, be_length]; omega
          rcases hrow.2 with ⟨_, h0⟩ | ⟨gb2, capb2, cur, h1, h2, h3, h4, h5, h6, h7⟩
          · omega
          · subst h1
            have HF9 : Hid (PO (.returned (.tuple #[.slice (some ⟨gb2, 0, none⟩) (Wr.bytes p).length capb2, .int .i64 0])) wx) := by
              show PO _ _
              rw [HQ.out]
              exact ⟨gb2, capb2, rfl, ⟨⟨cur, h3, by simpa using h6, by simpa using h7⟩, h4, h5⟩, HBE.out.trans (hbx.mono HBE.out.size)⟩
            generalize (Wr.bytes p).length = bl at *
            rw [hqM]
            clear hbx hrow hltq hq hqM hbp h2 h3 h4 h5 h6 h7 hlen HQ HBT HPL H256
            go_wp2
            first | exact HF9.out | (go_ret2; exact HF9.out)
end Go.Proofs.YtmfbokaaoffdnaaDoor
