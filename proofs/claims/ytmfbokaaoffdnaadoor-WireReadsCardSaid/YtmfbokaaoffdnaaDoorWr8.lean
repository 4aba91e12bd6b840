/-
  Bytes: its walk.
-/
import Derived.Test.YtmfbokaaoffdnaaDoorWr7
import Derived.Laws.EntriesVeiled
namespace Go.Proofs.YtmfbokaaoffdnaaDoor
set_option maxRecDepth 100000
set_option linter.unusedSimpArgs false
open Go Go.RowKit Wr
attribute [local go_sem] Oper.semAt_some

/-- The fields of a packet fit their types. -/
structure Fits (p : Pkt) : Prop where
  fe : p.fe < 4294967296
  te : p.te < 4294967296
  seq : p.seq < 4294967296
  met : p.met < 4294967296
  gen : p.msg.gen < 4294967296
  stamp : p.msg.stamp < 18446744073709551616
  cgen : ∀ c ∈ p.msg.claims, c.2 < 4294967296
theorem wrap_u32 {n : Nat} (h : n < 4294967296) : IntKind.i64.wrap (n : Int) = (n : Int) := by rw [wrap_w64]; unfold w64; omega
theorem okM_claims {m : Msg} (h : okM m = true) : m.claims.length ≤ 16 := by
  simp only [okM, Bool.and_eq_true, List.all_eq_true] at h
  have := h.1.2 8 (by simp)
  split at this
  · have h2 := of_decide_eq_true this
    have e1 : hi 8 = 16 := rfl
    have e2 : num m 8 = m.claims.length := rfl
    omega
  · have e2 : num m 8 = m.claims.length := rfl
    rw [e2] at this
    have : (m.claims.length : Int) = 0 := by simpa using this
    omega
theorem okP_msg {p : Pkt} (h : okP p = true) : okM p.msg = true := by
  simp only [okP, Bool.and_eq_true] at h
  exact h.2
theorem sizeM_le {m : Msg} (h : m.claims.length ≤ 16) : sizeM m ≤ 400 := by
  have h1 := sumW_le (flds m.kind) (flds_len m.kind).2
  have h2 := (flds_len m.kind).1
  have e : sizeM m = 2 * (19 + m.claims.length * 6 + sumW (flds m.kind)) := rfl
  omega

/-- Fields told so far. -/
def fB (m : Msg) (l : List Nat) : List Nat := l.flatMap (fun f => be (wid f) (num m f))
def BI (w : World) (p : Pkt) (A : Option Addr) (cap q pf bn : Nat) (l0 : List Nat) (pre : List Fl) (W : World) : Prop :=
  BS w p A cap q pf (l0 ++ dbl (fB p.msg (pre.map (fun x : Fl => x.1)))) W ∧ W.heap[bn]? = some (.cells (arr9 (num p.msg)) 53 (0, 0))
theorem BI.from {w : World} {p : Pkt} {A : Option Addr} {cap q pf bn : Nat} {l0 : List Nat} {B : Nat} (hB : w.heap.size ≤ B) : OwnFrom B (BI w p A cap q pf bn l0) := by
  rintro pre W W' row ⟨h1, h2⟩ hg hr
  exact ⟨BS.from hB _ W W' row h1 hg hr, (hg.block _ (blk_lt h2) (fun e => by obtain ⟨_, o, ho, hc⟩ := hr bn e.symm; rw [h2] at ho; cases ho; cases hc)).trans h2⟩
theorem fB_snoc (m : Msg) (l : List Nat) (x : Nat) : fB m (l ++ [x]) = fB m l ++ be (wid x) (num m x) := by simp [fB]
theorem fB_le (m : Msg) (l : List Nat) (h : ∀ x ∈ l, x < 9) : (fB m l).length ≤ 8 * l.length := by
  induction l with
  | nil => simp [fB]
  | cons x l ih =>
    have h1 := ih (fun y hy => h y (by simp [hy]))
    have h2 := wid_le x (h x (by simp))
    have e : fB m (x :: l) = be (wid x) (num m x) ++ fB m l := by simp [fB]
    rw [e, List.length_append, be_length, List.length_cons]
    omega
theorem by_on {w W W' : World} {p : Pkt} {A : Option Addr} {cap q pf bn : Nat} {l0 : List Nat} {pre : List Fl} (x : Fl) (hI : BI w p A cap q pf bn l0 pre W) (hP : PB w p A cap q pf (l0 ++ dbl (fB p.msg (pre.map (fun x : Fl => x.1))) ++ dbl (be (wid x.1) (num p.msg x.1))) W W') (B : Nat) :
    KeepsFrom B W W' ∧ True ∧ BI w p A cap q pf bn l0 (pre ++ [x]) W' := by
  refine ⟨hP.keeps B, trivial, ?_, hP.other _ _ _ _ hI.2 (by decide) (by decide)⟩
  have := hP.bs
  rw [List.map_append, List.map_cons, List.map_nil]
  rwa [List.append_assoc, ← dbl_append, ← fB_snoc] at this
theorem num_bd (m : Msg) : num m 0 = 0 ∧ num m 1 = m.cell ∧ num m 2 = m.gen ∧ num m 3 = w64 m.stamp ∧ num m 4 = m.prio ∧ num m 5 = m.hops ∧ num m 6 = m.origin ∧ num m 7 = m.other ∧ num m 8 = m.claims.length := ⟨rfl, rfl, rfl, rfl, rfl, rfl, rfl, rfl, rfl⟩

theorem row_obj {W : World} {base : Nat} {e : TypeId} {size : Nat} {v : Value} {n : Nat} {xs : List Value} (h : W.ownsRow base e size v n xs) {D : Nat} {o o' : Obj} (hD : W.heap[D]? = some o) (ho : o.isCells = false) : (W.putObj D o').ownsRow base e size v n xs := by
  refine h.kept (grownBy_putObj' W D o') ?_
  cases hv : v.ownBlock with
  | none => exact .inl rfl
  | some g =>
    obtain ⟨c, hc⟩ := row_block h hv
    refine .inr (fun e => ?_)
    obtain rfl : g = D := by simpa using e
    rw [hc] at hD
    cases hD
    cases ho

def BytesPost (w : World) (p : Pkt) (e : Ending) (w' : World) : Prop :=
  Below w.heap.size w w' ∧ ((okP p = false ∧ e = .returned (.tuple #[.slice none 0 0, .int .i64 71])) ∨ (okP p = true ∧ ∃ v, e = .returned (.tuple #[v, .int .i64 0]) ∧ w'.ownsRow (w.heap.size + 1) 5 1 v (Wr.bytes p).length ((Wr.bytes p).map byV)))

set_option maxHeartbeats 8000000 in
theorem bytes_any {w : World} (hT : Tab w) (p : Pkt) {A : Option Addr} (cap : Nat) (hC : ClaimsAt w A p.msg.claims) (hl : p.msg.claims.length ≤ 100000) (hf : Fits p) :
    Calls Tryd.prog 9 #[pktA p A p.msg.claims.length cap] w (BytesPost w p) := by
  obtain ⟨i0, hi, hz0, hz1, hz2⟩ := info_parts Tryd.infoU8
  have HT := Lib.hid hT
  have HC := Lib.hid hC
  have HF := Lib.hid hf
  obtain ⟨P, hP⟩ : ∃ P : Ending → World → Prop, P = BytesPost w p := ⟨_, rfl⟩
  have HQ1 : Hid (okP p = false → ∀ w', Below w.heap.size w w' → P (.returned (.tuple #[.slice none 0 0, .int .i64 71])) w') := by rw [hP]; exact fun h w' hb => ⟨hb, .inl ⟨h, rfl⟩⟩
  have HQ2 : Hid (okP p = true → ∀ w' v, Below w.heap.size w w' → w'.ownsRow (w.heap.size + 1) 5 1 v (Wr.bytes p).length ((Wr.bytes p).map byV) → P (.returned (.tuple #[v, .int .i64 0])) w') := by rw [hP]; exact fun h w' v hb ho => ⟨hb, .inr ⟨h, v, rfl, ho⟩⟩
  rw [← hP]
  have HB0 : Hid (∀ o, Below w.heap.size w (w.alloc o)) := fun o => (Below.refl _ w).alloc (Nat.le_refl _) o
  have HM : Hid (∀ o, Calls Tryd.prog 7 #[pktA p A p.msg.claims.length cap] (w.alloc o) fun e w' => e = .returned (.int .i64 (if okP p then 0 else 71)) ∧ Below (w.alloc o).heap.size (w.alloc o) w') :=
    fun o => checkP_any (HT.out.below (HB0.out o)) p cap (HC.out.below (HB0.out o)) hl hf.gen
  clear hP hT hC hf
  generalize hn : (if okP p = true then (0 : Int) else 71) = n0 at HM
  simp only [pktA] at HM
  simp only [pktA]
  refine (callsIn_wide (n := 9)).1 ?_
  refine callsIn_of_wp_marks Tryd.func9 rfl trivial ?_ rfl
  simp only [Tryd.ntmps9, List.size_toArray, List.length_cons, List.length_nil, Nat.reduceAdd, Nat.reduceSub, Array.replicate_succ, Array.replicate_zero, List.push_toArray, List.append_toArray, List.nil_append, List.cons_append]
  gi_wp2_with fail
  refine ⟨trivial, (callsIn_wide.2 (HM.out _)).mono ?_⟩
  rintro e w1 ⟨rfl, hb1⟩
  have hbW : Below w.heap.size w w1 := (HB0.out _).trans (hb1.mono (by simp))
  have hm1 : w1.heap[w.heap.size]? = some (.cells (pktC p A p.msg.claims.length cap) 28 (0, 0)) := (hb1.block _ (by simp)).trans (World.alloc_heap_new w _)
  have HB := Lib.hid hbW
  have HMB := Lib.hid hm1
  clear hb1 hbW hm1 HM
  cases hok : okP p with
  | false =>
    rw [hok] at hn
    obtain rfl : n0 = 71 := hn.symm
    have HF := Lib.hid (HQ1.out hok w1 HB.out)
    clear hok hn
    gi_wp2
    refine ⟨_, (by simp [results, Tryd.results9, go_sem]; rfl), ?_⟩
    exact HF.out
  | true =>
    rw [hok] at hn
    obtain rfl : n0 = 0 := hn.symm
    have HQ := Lib.hid (HQ2.out hok)
    have hl16 := okM_claims (okP_msg hok)
    have HOK := Lib.hid (okP_msg hok)
    clear hok hn HQ1 HQ2
    have HK : Hid (∀ W : World, W.heap[w.heap.size]? = some (.cells (pktC p A p.msg.claims.length cap) 28 (0, 0)) → ∀ j u, (pktC p A p.msg.claims.length cap)[j]? = some u → W.cell? ⟨w.heap.size, j, none⟩ = some u) := fun W hW j u hu => by rw [blk_cell hW]; exact hu
    have c6 := HK.out w1 HMB.out 6 _ rfl
    have c7 := HK.out w1 HMB.out 7 _ rfl
    have c8 := HK.out w1 HMB.out 8 _ rfl
    have c9 := HK.out w1 HMB.out 9 _ rfl
    have c10 := HK.out w1 HMB.out 10 _ rfl
    have c11 := HK.out w1 HMB.out 11 _ rfl
    have c12 := HK.out w1 HMB.out 12 _ rfl
    have c13 := HK.out w1 HMB.out 13 _ rfl
    have c14 := HK.out w1 HMB.out 14 _ rfl
    gi_wp2_with fail
    refine ⟨trivial, (callsIn_wide.2 (size_any (HT.out.below HB.out) p.msg cap (HC.out.below HB.out) hl HF.out.gen)).mono ?_⟩
    rintro e w2 ⟨rfl, hb2⟩
    rw [if_pos HOK.out]
    have hs400 := sizeM_le hl16
    have HB2 := Lib.hid (HB.out.trans (hb2.mono HB.out.size))
    have HM2 := Lib.hid ((hb2.block _ (blk_lt HMB.out)).trans HMB.out)
    clear hb2 c6 c7 c8 c9 c10 c11 c12 c13 c14
    generalize sizeM p.msg = sz at *
    obtain ⟨w3, hrun, hown, hgr⟩ := run_makeSlice_owned (P := Tryd.prog) w2 (w.heap.size + 1) 34 5 i0 (.int .u8 0) 1 Tryd.underlying34 hi hz0 hz1 .i64 .i64 sz (by omega) (by rw [hz2]; omega) (by unfold maxLen; omega) (blk_lt HM2.out)
    have HS : Hid (BS w p A cap w3.heap.size (w3.heap.size + 1) [] ((w3.alloc (.cells #[.slice (some ⟨w2.heap.size, 0, none⟩) 0 sz] 34)).alloc (.cells #[putF w3.heap.size] 63))) := by
      have hk := (((Kept.refl (fun _ => False) w3).alloc (.cells #[.slice (some ⟨w2.heap.size, 0, none⟩) 0 sz] 34)).alloc (.cells #[putF w3.heap.size] 63))
      have h3 : w3.heap[w.heap.size]? = some (.cells (pktC p A p.msg.claims.length cap) 28 (0, 0)) := (hgr.block _ (blk_lt HM2.out) (by simp)).trans HM2.out
      refine ⟨?_, (hk.block _ (blk_lt h3) id).trans h3, ?_, ⟨_, ?_, hk.row hown (fun _ _ => id)⟩, blk_lt h3⟩
      · exact ((HB2.out.grown hgr HB2.out.size (fun k e => by cases e)).alloc (by have := HB2.out.size; have := hgr.size; omega) _).alloc (by have := HB2.out.size; have := hgr.size; simp; omega) _
      · have := World.alloc_heap_new (w3.alloc (.cells #[.slice (some ⟨w2.heap.size, 0, none⟩) 0 sz] 34)) (.cells #[putF w3.heap.size] 63)
        rwa [World.size_alloc] at this
      · exact (Below.heap_alloc _ _ _ (by simp)).trans (World.alloc_heap_new w3 _)
    obtain ⟨q, hq⟩ : ∃ q, q = w3.heap.size := ⟨_, rfl⟩
    have hmf : ∀ (fn : Fn) (first cap : Array Value) (w : World), (Instr.makeFunc fn first cap).run Tryd.prog w = .ok (.func fn first cap) w := fun _ _ _ _ => rfl
    have d0 := HK.out _ HS.out.box 0 _ rfl
    have df := BS.fnc HS.out
    clear hown hgr
    gi_wp2_with fail
    refine ⟨trivial, (callsIn_wide.2 (put_at HS.out (by simp [dbl_length, be_length]) 1 (by omega) p.from_)).mono ?_⟩
    rintro e W1 ⟨rfl, hP1⟩
    have HS1 := Lib.hid hP1.bs
    clear hP1 df d0
    have d1 := HK.out _ HS1.out.box 1 _ rfl
    have df := BS.fnc HS1.out
    gi_wp2_with fail
    refine ⟨trivial, (callsIn_wide.2 (put_at HS1.out (by simp [dbl_length, be_length]) 1 (by omega) p.to_)).mono ?_⟩
    rintro e W2 ⟨rfl, hP2⟩
    have HS2 := Lib.hid hP2.bs
    clear hP2 df d1
    have d2 := HK.out _ HS2.out.box 2 _ rfl
    have df := BS.fnc HS2.out
    have e2 := wrap_u32 HF.out.fe
    gi_wp2_with fail
    clear e2
    refine ⟨trivial, (callsIn_wide.2 (put_at HS2.out (by simp [dbl_length, be_length]) 4 (by omega) (p.fe : Int))).mono ?_⟩
    rintro e W3 ⟨rfl, hP3⟩
    have HS3 := Lib.hid hP3.bs
    clear hP3 df d2
    have d3 := HK.out _ HS3.out.box 3 _ rfl
    have df := BS.fnc HS3.out
    have e3 := wrap_u32 HF.out.te
    gi_wp2_with fail
    clear e3
    refine ⟨trivial, (callsIn_wide.2 (put_at HS3.out (by simp [dbl_length, be_length]) 4 (by omega) (p.te : Int))).mono ?_⟩
    rintro e W4 ⟨rfl, hP4⟩
    have HS4 := Lib.hid hP4.bs
    clear hP4 df d3
    have d4 := HK.out _ HS4.out.box 4 _ rfl
    have df := BS.fnc HS4.out
    have e4 := wrap_u32 HF.out.seq
    gi_wp2_with fail
    clear e4
    refine ⟨trivial, (callsIn_wide.2 (put_at HS4.out (by simp [dbl_length, be_length]) 4 (by omega) (p.seq : Int))).mono ?_⟩
    rintro e W5 ⟨rfl, hP5⟩
    have HS5 := Lib.hid hP5.bs
    clear hP5 df d4
    have d5 := HK.out _ HS5.out.box 5 _ rfl
    have df := BS.fnc HS5.out
    have e5 := wrap_u32 HF.out.met
    gi_wp2_with fail
    clear e5
    refine ⟨trivial, (callsIn_wide.2 (put_at HS5.out (by simp [dbl_length, be_length]) 4 (by omega) (p.met : Int))).mono ?_⟩
    rintro e W6 ⟨rfl, hP6⟩
    have HS6 := Lib.hid hP6.bs
    clear hP6 df d5
    have d6 := HK.out _ HS6.out.box 6 _ rfl
    have df := BS.fnc HS6.out
    gi_wp2_with fail
    refine ⟨trivial, (callsIn_wide.2 (put_at HS6.out (by simp [dbl_length, be_length]) 1 (by omega) p.msg.kind)).mono ?_⟩
    rintro e W7 ⟨rfl, hP7⟩
    have HS7 := Lib.hid hP7.bs
    clear hP7 df d6
    have c6 := HK.out _ HS7.out.box 6 _ rfl
    have c7 := HK.out _ HS7.out.box 7 _ rfl
    have c8 := HK.out _ HS7.out.box 8 _ rfl
    have c9 := HK.out _ HS7.out.box 9 _ rfl
    have c10 := HK.out _ HS7.out.box 10 _ rfl
    have c11 := HK.out _ HS7.out.box 11 _ rfl
    have c12 := HK.out _ HS7.out.box 12 _ rfl
    have c13 := HK.out _ HS7.out.box 13 _ rfl
    have c14 := HK.out _ HS7.out.box 14 _ rfl
    obtain ⟨l0, hl0⟩ : ∃ l0, l0 = dbl (be 1 p.from_ ++ (be 1 p.to_ ++ (be 4 (p.fe : Int) ++ (be 4 (p.te : Int) ++ (be 4 (p.seq : Int) ++ (be 4 (p.met : Int) ++ be 1 p.msg.kind)))))) := ⟨_, rfl⟩
    have hl38 : l0.length = 38 := by rw [hl0]; simp [dbl_length, be_length]
    have HS0 : Hid (BS w p A cap w3.heap.size (w3.heap.size + 1) l0 W7) := by
      have := HS7.out
      rw [Hid, hl0]
      simpa only [List.nil_append, dbl_append, List.append_assoc] using this
    have HL0 := Lib.hid hl0
    clear hl0
    gi_wp2_with fail
    refine ⟨trivial, (callsIn_wide.2 (numbers_any _ p.msg A p.msg.claims.length cap HF.out.gen)).mono ?_⟩
    rintro e W8 ⟨rfl, hb8⟩
    have HS8 := Lib.hid (HS0.out.stays hb8)
    clear hb8 c6 c7 c8 c9 c10 c11 c12 c13 c14
    have c6 : ∀ o, (W8.alloc o).cell? ⟨w.heap.size, 6, none⟩ = some (.int .i64 p.msg.kind) := fun o => HK.out _ (HS8.out.alloc o).box 6 _ rfl
    gi_wp2_with fail
    refine ⟨trivial, (callsIn_wide.2 (named_any _ _)).mono ?_⟩
    rintro e w9 ⟨rfl, rfl⟩
    clear c6
    gi_wp2_with fail
    obtain ⟨W0, hW0⟩ : ∃ W0, namedW (W8.alloc (.cells (arr9 (num p.msg)) 53)) p.msg.kind = W0 := ⟨_, rfl⟩
    have hz : W0.heap.size = W8.heap.size + 2 := by rw [← hW0]; simp [namedW]
    have hzw := HS8.out.below.size
    have h0 : BI w p A cap w3.heap.size (w3.heap.size + 1) W8.heap.size l0 [] W0 := by
      rw [← hW0]
      refine ⟨?_, ?_⟩
      · have := (HS8.out.alloc (.cells (arr9 (num p.msg)) 53)).alloc (.cells #[.int .i64 p.msg.kind] 3)
        show BS w p A cap w3.heap.size (w3.heap.size + 1) (l0 ++ dbl []) _
        rw [dbl_nil, List.append_nil]
        exact this
      · exact (Below.heap_alloc _ _ _ (by simp)).trans (World.alloc_heap_new W8 _)
    have hk0 : W0.cell? ⟨W8.heap.size + 1, 0, none⟩ = some (.int .i64 p.msg.kind) := by
      rw [← hW0]
      have := namedW_cell (W8.alloc (.cells (arr9 (num p.msg)) 53)) p.msg.kind
      rwa [World.size_alloc] at this
    have hT0 := HT.out.below h0.1.below
    have hW0' : namedW (W8.alloc (.cells #[.int .i64 0, .int .i64 p.msg.cell, .int .i64 (p.msg.gen : Nat), .int .i64 (w64 (p.msg.stamp : Nat)), .int .i64 p.msg.prio, .int .i64 p.msg.hops, .int .i64 p.msg.origin, .int .i64 p.msg.other, .int .i64 (p.msg.claims.length : Nat)] 53)) p.msg.kind = W0 := hW0
    rw [hW0']
    clear hW0 hW0'
    have HK0 := Lib.hid hk0
    have HT0 := Lib.hid hT0
    have HI0 := Lib.hid h0
    clear hk0 hT0 h0
    refine wpIn_rangeFunc_ownG rfl (by omega) (gf := 31) (lb := #[.pointer (some ⟨W8.heap.size + 1, 0, none⟩)]) rfl trivial (enters_of Tryd.func31 (by kernel_rfl) rfl)
      (named_stops (9 - 1) (by omega) HT0.out HK0.out) (fun _ _ => trivial) (fun _ _ _ _ _ _ _ _ => trivial) (Below.refl _ _) (fun _ => rfl)
      (BI w p A cap w3.heap.size (w3.heap.size + 1) W8.heap.size l0) (fun _ _ _ => False) (BI.from (by omega)) (fun _ _ _ _ _ h _ _ => h) HI0.out
      (fun x => { tmps := #[.agg #[.int .i64 p.from_, .int .i64 p.to_, .int .u32 (p.fe : Nat), .int .u32 (p.te : Nat), .int .u32 (p.seq : Nat), .int .u32 (p.met : Nat), .int .i64 p.msg.kind, .int .i64 p.msg.cell, .int .u32 (p.msg.gen : Nat), .int .u64 (p.msg.stamp : Nat), .int .i64 p.msg.prio, .int .i64 p.msg.hops, .int .i64 p.msg.origin, .int .i64 p.msg.other, .slice A p.msg.claims.length cap], .pointer (some ⟨w.heap.size, 0, none⟩), .slice none 0 0, .int .i64 0, .pointer (some ⟨w3.heap.size, 0, none⟩), .pointer (some ⟨w3.heap.size + 1, 0, none⟩), .pointer (some ⟨W8.heap.size, 0, none⟩), .int .i64 (x.1 : Nat), undef, undef, .agg #[.int .i64 p.from_, .int .i64 p.to_, .int .u32 (p.fe : Nat), .int .u32 (p.te : Nat), .int .u32 (p.seq : Nat), .int .u32 (p.met : Nat), .int .i64 p.msg.kind, .int .i64 p.msg.cell, .int .u32 (p.msg.gen : Nat), .int .u64 (p.msg.stamp : Nat), .int .i64 p.msg.prio, .int .i64 p.msg.hops, .int .i64 p.msg.origin, .int .i64 p.msg.other, .slice A p.msg.claims.length cap], .int .i64 0, .bool false, .pointer (some ⟨w.heap.size, 6, none⟩), msgA p.msg A p.msg.claims.length cap, .int .i64 (sz : Nat), .slice (some ⟨w2.heap.size, 0, none⟩) 0 sz, putF w3.heap.size, putF w3.heap.size, .pointer (some ⟨w.heap.size, 0, none⟩), .int .i64 p.from_, .tuple #[], putF w3.heap.size, .pointer (some ⟨w.heap.size, 1, none⟩), .int .i64 p.to_, .tuple #[], putF w3.heap.size, .pointer (some ⟨w.heap.size, 2, none⟩), .int .u32 (p.fe : Nat), .int .i64 (p.fe : Nat), .tuple #[], putF w3.heap.size, .pointer (some ⟨w.heap.size, 3, none⟩), .int .u32 (p.te : Nat), .int .i64 (p.te : Nat), .tuple #[], putF w3.heap.size, .pointer (some ⟨w.heap.size, 4, none⟩), .int .u32 (p.seq : Nat), .int .i64 (p.seq : Nat), .tuple #[], putF w3.heap.size, .pointer (some ⟨w.heap.size, 5, none⟩), .int .u32 (p.met : Nat), .int .i64 (p.met : Nat), .tuple #[], putF w3.heap.size, .pointer (some ⟨w.heap.size, 6, none⟩), .pointer (some ⟨w.heap.size, 6, none⟩), .int .i64 p.msg.kind, .tuple #[], .pointer (some ⟨w.heap.size, 6, none⟩), msgA p.msg A p.msg.claims.length cap, numA p.msg p.msg.claims.length, .pointer (some ⟨w.heap.size, 6, none⟩), .pointer (some ⟨w.heap.size, 6, none⟩), .int .i64 p.msg.kind, .func (.func 31) #[] #[.pointer (some ⟨W8.heap.size + 1, 0, none⟩)], .int .i64 (x.1 : Nat), undef, undef, undef, undef, undef, undef, undef, undef, undef, undef, undef, undef, undef, undef, undef, undef, undef, undef, undef, undef, undef, undef, undef, undef, undef, undef, undef, undef, undef, undef, undef, undef, undef, undef], defers := [] })
      ?assign ?body ?done ?stop
    case assign =>
      intro l x W K hK
      simp only [flV]
      gi_wp2
      exact hK
    case body =>
      rintro l pre x W hI hlen
      have hx := x.2
      have hx9 : (x.1 : Int) < 9 := by omega
      have c1 := BS.fnc hI.1
      have c2 := (HT.out.below hI.1.below).rw_ x.1 (by omega)
      have c3 : W.cell? ⟨W8.heap.size, x.1, none⟩ = some (.int .i64 (num p.msg x.1)) := by rw [blk_cell hI.2]; exact arr9_get _ (by omega)
      have hb1 : (fB p.msg (pre.map (fun x : Fl => x.1))).length ≤ 40 := by
        have := fB_le p.msg (pre.map (fun x : Fl => x.1)) (fun y hy => by obtain ⟨z, _, rfl⟩ := List.mem_map.1 hy; have := z.2; omega)
        rw [List.length_map] at this
        omega
      have hpc := put_at hI.1.drew (by rw [List.length_append, dbl_length]; omega) (wid x.1) (wid_le x.1 (by omega)) (num p.msg x.1)
      have HPC : Hid (Calls Tryd.prog 25 #[.int .i64 (wid x.1 : Nat), .int .i64 (num p.msg x.1), .pointer (some ⟨w3.heap.size, 0, none⟩)] W.drew fun e W' => e = .returned (.tuple #[]) ∧ KeepsFrom W0.heap.size W W' ∧ True ∧ BI w p A cap w3.heap.size (w3.heap.size + 1) W8.heap.size l0 (pre ++ [x]) W') :=
        hpc.mono fun e W' ⟨h1, h2⟩ => ⟨h1, by
          have h3 := by_on (bn := W8.heap.size) x (W := W.drew) ⟨hI.1.drew, hI.2⟩ h2 W0.heap.size
          exact ⟨⟨h3.1.1, h3.1.2⟩, trivial, h3.2.2⟩⟩
      clear hI hpc hb1
      generalize pre ++ [x] = pre2 at *
      generalize num p.msg x.1 = v at *
      generalize x.1 = f at *
      generalize wid f = u at *
      gi_wp2_with fail
      refine wpIn_tail_round 8 (by kernel_rfl) (by kernel_rfl) (by kernel_rfl) ?_
      simp only [List.take_succ_cons, List.take_zero, List.drop_succ_cons, List.drop_zero]
      repeat still_step
      refine wpStill_nil ?_
      change wpList _ _ _ _ _ W.drew
      go_wp2_with fail
      refine HPC.out.mono ?_
      rintro e W' ⟨rfl, hh⟩
      have HH := Lib.hid hh
      clear hh HPC
      go_wp2
      exact HH.out
    case done =>
      rintro D xs W hD hS hI hK
      obtain ⟨l1, hl1⟩ : ∃ l1, l1 = l0 ++ dbl (fB p.msg (flds p.msg.kind)) := ⟨_, rfl⟩
      have hI1 : BS w p A cap w3.heap.size (w3.heap.size + 1) l1 W := by
        have h1 := hI.1
        have h2 : xs.map (fun x : Fl => x.1) = flds p.msg.kind := hS
        rw [h2] at h1
        rw [hl1]; exact h1
      have hl1b : l1.length ≤ 1000 := by
        have h1 := fB_le p.msg (flds p.msg.kind) (flds_len _).2
        have h2 := (flds_len p.msg.kind).1
        rw [hl1, List.length_append, dbl_length]
        omega
      have HBY : Hid (l1 ++ dbl (p.msg.claims.flatMap clm) = Wr.bytes p) := by
        rw [Hid, hl1, HL0.out]
        simp only [Wr.bytes, plain, body, fB, dbl_append, List.append_assoc]
      have HI1 := Lib.hid hI1
      have s14 := HK.out _ hI1.box 14 _ rfl
      clear hl1 hI hI1 hS
      gi_wp2
      gi_loopw [72] (fun i wr => ∃ k : Nat, k ≤ p.msg.claims.length ∧ i = .int .i64 (k : Int) ∧ BS w p A cap w3.heap.size (w3.heap.size + 1) (l1 ++ dbl ((p.msg.claims.take k).flatMap clm)) wr ∧ wr.heap[D]? = some (.deferred (some []))) (fun i _ => p.msg.claims.length - (intOf i).toNat)
      case atStart => exact ⟨0, Nat.zero_le _, rfl, by rw [List.take_zero]; simpa [dbl_nil] using HI1.out, hK⟩
      case round =>
        obtain ⟨k, hk, rfl, hS1, hD1⟩ := hrel
        rename World => V
        clear hK s14
        have HS1 := Lib.hid hS1
        have HD1 := Lib.hid hD1
        clear hS1 hD1
        by_cases hlt : k < p.msg.claims.length
        · obtain ⟨a, ha, g1, g2⟩ := HC.out.below HS1.out.below k hlt
          have hmem : p.msg.claims.getD k (0, 0) ∈ p.msg.claims := by
            rw [List.getD, List.getElem?_eq_getElem hlt]; exact List.getElem_mem hlt
          have hcg := wrap_u32 (HF.out.cgen _ hmem)
          have HTK : Hid (l1 ++ dbl ((p.msg.claims.take (k + 1)).flatMap clm) = l1 ++ dbl ((p.msg.claims.take k).flatMap clm) ++ dbl (be 2 (p.msg.claims.getD k (0, 0)).1) ++ dbl (be 4 (((p.msg.claims.getD k (0, 0)).2 : Nat) : Int))) := by
            rw [Hid, List.take_add_one, List.flatMap_append, List.getElem?_eq_getElem hlt]
            simp [dbl_append, List.append_assoc, clm, List.getD, hlt]
          have hlen : (l1 ++ dbl ((p.msg.claims.take k).flatMap clm)).length ≤ 2000 := by
            have h1 : ∀ l : List (Int × Nat), (l.flatMap clm).length = 6 * l.length := by
              intro l
              induction l with
              | nil => rfl
              | cons c l ih => simp [clm, be_length, ih]; omega
            rw [List.length_append, dbl_length, h1, List.length_take]
            omega
          clear hmem
          generalize p.msg.claims.getD k (0, 0) = c at *
          obtain ⟨c1, c2⟩ := c
          simp only at g1 g2 hcg HTK
          generalize l1 ++ dbl ((p.msg.claims.take k).flatMap clm) = l2 at *
          have HA := Lib.hid ha
          have r1 : ∀ o, (V.alloc o).cell? ⟨0, 3, none⟩ = some (.int .i64 2) := fun o => (HT.out.below (HS1.out.alloc o).below).rw_ 1 (by omega)
          have r3 : ∀ o, (V.alloc o).cell? ⟨w3.heap.size + 1, 0, none⟩ = some (putF w3.heap.size) := fun o => (HS1.out.alloc o).fnc
          have HLT : Hid (k < p.msg.claims.length) := hlt
          have HLE : Hid (l2.length ≤ 2000) := hlen
          clear hlen
          subst ha
          gi_wp2_with fail
          refine ⟨trivial, (callsIn_wide.2 (put_at (HS1.out.alloc _) (by have := HLE.out; omega) 2 (by omega) c1)).mono ?_⟩
          rintro e V2 ⟨rfl, hP1⟩
          have HS2 := Lib.hid hP1.bs
          have hbx : V2.heap[V.heap.size]? = some (.cells #[.int .i64 c1, .int .u32 (c2 : Nat)] 50 (0, 0)) := hP1.other _ _ _ _ (World.alloc_heap_new V _) (by decide) (by decide)
          have HD2 := Lib.hid ((hP1.keeps D).same D _ (Nat.le_refl _) ((Below.heap_alloc V _ D (blk_lt HD1.out)).trans HD1.out) rfl)
          have x1 : V2.cell? ⟨V.heap.size, 1, none⟩ = some (.int .u32 (c2 : Nat)) := by rw [blk_cell hbx]; rfl
          have x2 : V2.cell? ⟨0, 6, none⟩ = some (.int .i64 4) := (HT.out.below HS2.out.below).rw_ 2 (by omega)
          have x3 := HS2.out.fnc
          clear hP1 hbx r1 r3 g1 g2
          gi_wp2_with fail
          refine ⟨trivial, (callsIn_wide.2 (put_at HS2.out (by have := HLE.out; simp [dbl_length, be_length]; omega) 4 (by omega) (c2 : Int))).mono ?_⟩
          rintro e V3 ⟨rfl, hP2⟩
          have HR : Hid (BS w p (some a) cap w3.heap.size (w3.heap.size + 1) (l1 ++ dbl ((p.msg.claims.take (k + 1)).flatMap clm)) V3 ∧ V3.heap[D]? = some (.deferred (some []))) := by
            refine ⟨?_, (hP2.keeps D).same D _ (Nat.le_refl _) HD2.out rfl⟩
            rw [HTK.out]
            exact hP2.bs
          clear hP2 x1 x2 x3 hcg
          gi_wp2
          go_roundw
          case rel => exact ⟨k + 1, by have := HLT.out; omega, by go_num, HR.out.1, HR.out.2⟩
          case measure => have := HLT.out; simp [intOf]; omega
        · obtain rfl : k = p.msg.claims.length := by omega
          rw [List.take_length, HBY.out] at HS1
          obtain ⟨v, hv⟩ := HS1.out.buf
          have cv : V.cell? ⟨w3.heap.size, 0, none⟩ = some v := by rw [blk_cell hv.var]; rfl
          have HFIN : Hid (P (.returned (.tuple #[v, .int .i64 0])) (V.putObj D (.deferred none))) :=
            HQ.out _ _ (HS1.out.below.trans (belowK_b (w := W0) (by omega) V D _ _ hD HD1.out rfl rfl)) (row_obj hv.own HD1.out rfl)
          clear hv
          gi_wp2
          refine ⟨by simp, .inl ⟨_, _, rfl, run_takeDeferred HD1.out, ?_⟩⟩
          refine ⟨_, (by simp [results, Tryd.results9, go_sem]; rfl), ?_⟩
          exact HFIN.out
    case stop =>
      rintro D c pre W hD hS h
      exact h.elim
end Go.Proofs.YtmfbokaaoffdnaaDoor
