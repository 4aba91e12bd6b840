/-
  segment.row: an iterator that asks the map between two rounds.
-/
import Derived.Test.YtekhlaodlagbdaaGreatDoorSgJ
import Derived.Test.YtekhlaodlagbdaaGreatDoorRange2
import Derived.Deep.RegionHeld3
import Derived.StillTailTactics
namespace Go.Proofs.YtekhlaodlagbdaaGreatDoor
set_option maxRecDepth 100000
set_option linter.unusedSimpArgs false
open Go Go.RowKit

theorem leaves_zero (k : Nat) : leavesB k 0 = false := by
  unfold leavesB
  match k with
  | 0 => rfl
  | 1 => rfl
  | 2 => rfl
  | 3 => rfl
  | k + 4 => simp [mkK]
theorem out_from {R C : Nat} {ms : List UInt8} {a b : Nat} (h : b ∈ outs R C ms a) : a < ms.length := by
  obtain ⟨k, _, _, hg⟩ := mem_outs.1 h
  rcases Nat.lt_or_ge a ms.length with h1 | h1
  · exact h1
  · have e : ms.getD a 0 = 0 := by simp [List.getD, h1]
    unfold goes at hg
    rw [e, leaves_zero] at hg
    simp at hg
theorem jnF_jn {R C : Nat} {ms : List UInt8} (hC : 1 ≤ C) (hN : R * C = ms.length) : Sg.Jn ms.length (jnF R C ms) := by
  refine ⟨fun h => (jnF_mem.1 h).1, fun h => ?_, fun {a} h => ?_, jnF_rise R C ms⟩
  · rcases (jnF_mem.1 h).2 with h1 | h1
    · exact jnF_mem.2 ⟨out_from h1, .inr h1⟩
    · exact jnF_mem.2 ⟨by rw [← hN]; exact outs_bd h1, .inl h1⟩
  · have h1 : a ∈ outs R C ms a := by rcases (jnF_mem.1 h).2 with h1 | h1 <;> exact h1
    have h2 := (out_facts hC hN (out_from h1) h1).2.1
    have h3 := out_from h1
    unfold farZ apartZ at h2
    rw [if_pos (by omega)] at h2
    omega

/-- The blocks of the list in the variable at q. -/
def PQ (q : Nat) (w : World) (k : Nat) : Prop := k = q ∨ ∃ v, w.cell? ⟨q, 0, none⟩ = some v ∧ v.ownBlock = some k
/-- What a round keeps: of what there was below F all but X; and all cells but the list's. -/
structure KpQ (F : Nat) (X : Nat → Prop) (q : Nat) (A B : World) : Prop where
  os : B.os = A.os
  tape : B.tape = A.tape
  output : B.output = A.output
  size : A.heap.size ≤ B.heap.size
  low : ∀ k, k < F → ¬ X k → B.heap[k]? = A.heap[k]?
  blk : ∀ (k : Nat) (o : Obj), A.heap[k]? = some o → o.isCells = true → ¬ PQ q A k → B.heap[k]? = some o
  pq : ∀ k, PQ q B k → PQ q A k ∨ A.heap.size ≤ k
  lt : (∀ k, PQ q A k → k < A.heap.size) → ∀ k, PQ q B k → k < B.heap.size
section
variable {F q : Nat} {X : Nat → Prop} {A B C w : World}
theorem KpQ.refl (F : Nat) (X : Nat → Prop) (q : Nat) (A : World) : KpQ F X q A A := ⟨rfl, rfl, rfl, Nat.le_refl _, fun _ _ _ => rfl, fun _ _ h _ _ => h, fun _ h => .inl h, fun h => h⟩
theorem KpQ.trans (h : KpQ F X q A B) (k : KpQ F X q B C) : KpQ F X q A C :=
  ⟨k.os.trans h.os, k.tape.trans h.tape, k.output.trans h.output, Nat.le_trans h.size k.size, fun i hi hx => (k.low i hi hx).trans (h.low i hi hx),
    fun i o hi hc hn => k.blk i o (h.blk i o hi hc hn) hc (fun hp => (h.pq i hp).elim hn (fun h1 => by have := blk_lt hi; omega)),
    fun i hi => (k.pq i hi).elim (h.pq i) (fun h1 => .inr (Nat.le_trans h.size h1)), fun hl => k.lt (h.lt hl)⟩
theorem pq_still (h : B.heap[q]? = A.heap[q]?) (k : Nat) : PQ q B k ↔ PQ q A k := by
  unfold PQ
  rw [World.cell?_of_block (a := ⟨q, 0, none⟩) h]
theorem KpQ.of_kept {Y : Nat → Prop} (h : Kept Y A B) (hF : F ≤ A.heap.size) (hq : q < A.heap.size) (hY : ∀ k, ¬ Y k) : KpQ F X q A B :=
  ⟨h.os, h.tape, h.output, h.size, fun k hk _ => h.block k (by omega) (hY k), fun k _ hk _ _ => (h.block k (blk_lt hk) (hY k)).trans hk, fun k hk => .inl ((pq_still (h.block q hq (hY q)) k).1 hk),
    fun hl k hk => Nat.lt_of_lt_of_le (hl k ((pq_still (h.block q hq (hY q)) k).1 hk)) h.size⟩
theorem KpQ.putObj (W : World) {l : Nat} {o : Obj} (o' : Obj) (hl : W.heap[l]? = some o) (hc : o.isCells = false) (hF : F ≤ l) (hq : q ≠ l) : KpQ F X q W (W.putObj l o') := by
  refine ⟨rfl, rfl, rfl, by simp [World.putObj], fun k hk _ => World.putObj_heap_other (by omega), fun k x hk hx _ => ?_, fun k hk => .inl ((pq_still (World.putObj_heap_other hq) k).1 hk), fun h k hk => ?_⟩
  · rw [World.putObj_heap_other (by rintro rfl; rw [hl] at hk; cases hk; rw [hc] at hx; cases hx)]
    exact hk
  · have := h k ((pq_still (World.putObj_heap_other hq) k).1 hk)
    simpa [World.putObj] using this
/-- From the beginning on. -/
theorem Kept.kpq (h : Kept X w A) (k : KpQ w.heap.size X q A B) : Kept X w B :=
  ⟨k.os.trans h.os, k.tape.trans h.tape, k.output.trans h.output, Nat.le_trans h.size k.size, fun i hi hx => (k.low i hi hx).trans (h.block i hi hx)⟩
theorem KpQ.cell (h : KpQ F X q A B) {p : Addr} {v : Value} (hv : A.cell? p = some v) (hn : ¬ PQ q A p.block) : B.cell? p = some v := by
  have hlt := World.block_lt_of_cell? A p hv
  have ho : A.heap[p.block]? = some A.heap[p.block] := Array.getElem?_eq_getElem hlt
  exact (World.cell?_of_block ((h.blk _ _ ho (cells_of_cell hv ho) hn).trans ho.symm)).trans hv
end

/-- A list of two, in memory: its cells. -/
theorem two_cells {w : World} {B : Nat} {v : Value} {l : List Nat} (h : w.ownsRow B 3 1 v l.length (l.map natV)) (h2 : l.length = 2) : ∃ g c, v = .slice (some ⟨g, 0, none⟩) 2 c ∧ B ≤ g ∧ w.cell? ⟨g, 0, none⟩ = some (.int .i64 ((l.getD 0 0 : Nat) : Int)) ∧ w.cell? ⟨g, 1, none⟩ = some (.int .i64 ((l.getD 1 0 : Nat) : Int)) := by
  rcases h.2 with ⟨_, h0⟩ | ⟨g, cap, cur, rfl, h1, _⟩
  · omega
  · have hc := int_cells h
    exact ⟨g, cap, by rw [h2], h1, hc 0 (by omega), hc 1 (by omega)⟩
theorem row_slice {w : World} {B n : Nat} {v : Value} {xs : List Value} {e : TypeId} {s : Nat} (h : w.ownsRow B e s v n xs) : ∃ a c, v = .slice a n c := by
  rcases h.2 with ⟨rfl, rfl⟩ | ⟨g, cap, cur, rfl, _⟩
  · exact ⟨_, _, rfl⟩
  · exact ⟨_, _, rfl⟩

set_option maxHeartbeats 4000000 in
theorem row_tells (n : Nat) (hn : 1 ≤ n) {bm gm cm R C : Nat} {ms : List UInt8} {w0 : World} (hE : EM bm gm cm R C ms w0) (hd : DoneC bm w0) {bc bw bx a s m q : Nat} (hq : q < w0.heap.size) (hql : ∀ k, PQ q w0 k → k < w0.heap.size)
    (h1 : w0.cell? ⟨bc, 0, none⟩ = some (.int .i64 (a : Int))) (h2 : w0.cell? ⟨bw, 0, none⟩ = some (.int .i64 (s : Int))) (h3 : w0.cell? ⟨bx, 0, none⟩ = some (.pointer (some ⟨bm, 0, none⟩))) {X : Nat → Prop}
    (hX : ∀ k, TS bm gm w0 k → ¬ X k) (hXc : ¬ X bc) (hXw : ¬ X bw) (hXx : ¬ X bx) (ha : a < ms.length) (hr : Sg.Row (jnF R C ms) a s m) :
    Tells n Tryz.prog 113 #[.pointer (some ⟨bc, 0, none⟩), .pointer (some ⟨bw, 0, none⟩), .pointer (some ⟨bx, 0, none⟩)] (fun x : Nat => #[.int .i64 (x : Int)]) (fun A B => Below A.heap.size A B) (KpQ w0.heap.size X q)
      (fun xs _ => xs = (List.range' 1 m).map (Sg.wlk (jnF R C ms) a s)) ms.length w0 := by
  intro l J W hW hJ hY h0
  have hJn := jnF_jn (ms := ms) hE.hC hE.hN
  have hlen := hE.len
  have HWB : Hid (∀ i, i ≤ m + 1 → Sg.wlk (jnF R C ms) a s i < ms.length) := fun i hi => by
    rcases Nat.eq_zero_or_pos i with rfl | h
    · exact ha
    · have := hJn.bd (hr.trail.adj (i - 1) (by omega))
      rwa [show i - 1 + 1 = i by omega] at this
  have HJn := Lib.hid hJn
  have HE := Lib.hid hE
  have HD := Lib.hid hd
  have HX := Lib.hid hX
  have HR := Lib.hid hr
  have HQL := Lib.hid hql
  have HY' := Lib.hid hY
  have HJ' := Lib.hid hJ
  have kW : Kept X w0 W := (Kept.of_below hW (Nat.le_refl _))
  have hqW : ∀ k, PQ q W k → k < W.heap.size := fun k hk => Nat.lt_of_lt_of_le (hql k ((pq_still ((Kept.of_below (X := fun _ => False) hW (Nat.le_refl _)).block q hq id) k).1 hk)) hW.size
  have hml := hr.trail.lt hJn ha
  have HML := Lib.hid hml
  have HA := Lib.hid ha
  -- what a round begins with
  obtain ⟨I, hI⟩ : ∃ I : Nat → World → Prop, I = fun k V => Kept X w0 V ∧ J ((List.range' 1 k).map (Sg.wlk (jnF R C ms) a s)) V ∧ ∀ i, PQ q V i → i < V.heap.size := ⟨_, rfl⟩
  have HS : Hid (∃ k : Nat, k ≤ m ∧ Value.int .i64 (a : Int) = .int .i64 ((Sg.wlk (jnF R C ms) a s k : Nat) : Int) ∧ Value.int .i64 (s : Int) = .int .i64 ((Sg.wlk (jnF R C ms) a s (k + 1) : Nat) : Int) ∧ I k W.drew) :=
    ⟨0, Nat.zero_le _, rfl, rfl, by rw [hI]; exact ⟨kW.drew, by simpa using hJ _ _ _ h0 ((Below.refl _ W).drew), hqW⟩⟩
  have f1 := kW.cell h1 hXc
  have f2 := kW.cell h2 hXw
  have F1 := Lib.hid h1
  have F3 := Lib.hid h3
  have HXc := Lib.hid hXc
  have HXx := Lib.hid hXx
  have HII := Lib.hid hI
  clear hW hJ hY h0 hJn hE hd hX hr hql h1 h2 h3 hXc hXw hXx kW hqW hI
  refine callsIn_of_wp Tryz.func113 rfl trivial ?_ rfl
  simp only [Tryz.ntmps113, List.size_toArray, List.length_cons, List.length_nil, Nat.reduceAdd, Nat.reduceSub, Array.replicate_succ, Array.replicate_zero, List.push_toArray, List.append_toArray, List.nil_append, List.cons_append]
  gi_wp2_with fail
  gi_region
  clear f1 f2
  gi_wp2
  gi_loopw [5, 6] (fun last at_ wr => ∃ k : Nat, k ≤ m ∧ last = .int .i64 ((Sg.wlk (jnF R C ms) a s k : Nat) : Int) ∧ at_ = .int .i64 ((Sg.wlk (jnF R C ms) a s (k + 1) : Nat) : Int) ∧ I k wr) (fun last at_ _ => (Sg.rowF (jnF R C ms) a ms.length (intOf last).toNat (intOf at_).toNat).length)
  case atStart => exact HS.out
  case round =>
    obtain ⟨k, hk, rfl, rfl, hi⟩ := hrel
    rename World => V
    rw [HII.out] at hi
    obtain ⟨hkp, hj, hql⟩ := hi
    have HV := Lib.hid (HE.out.keptX hkp HX.out).1
    have HDV := Lib.hid (HD.out.kept hkp (HX.out bm (.inr (.inl rfl))))
    have g1 := hkp.cell F1.out HXc.out
    have g3 := hkp.cell F3.out HXx.out
    have HKP := Lib.hid hkp
    have HJV := Lib.hid hj
    have HQL2 := Lib.hid hql
    have HMe := Lib.hid (HR.out.left HJn.out HA.out hk)
    clear hkp hj hql HS
    by_cases hya : Sg.wlk (jnF R C ms) a s (k + 1) = a
    · have hkm := HR.out.ends hk (.inl hya)
      subst hkm
      have HF : Hid ((∃ v, Ending.returned (.tuple #[]) = .returned v) ∧ ∃ xs : List Nat, xs = (List.range' 1 k).map (Sg.wlk (jnF R C ms) a s) ∧ J xs V) := ⟨⟨_, rfl⟩, _, rfl, HJV.out⟩
      have e1 : ((Sg.wlk (jnF R C ms) a s (k + 1) : Nat) : Int) = (a : Int) := by rw [hya]
      rw [e1]
      clear hya e1 HMe
      gi_wp2
      exact bodyPost_end (results_none rfl _ _ _) rfl HF.out
    · have hyN := HWB.out (k + 1) (by omega)
      have hxN := HWB.out k (by omega)
      have HJo := Lib.hid (joined_any HV.out hyN)
      have d1 : (((Sg.wlk (jnF R C ms) a s (k + 1) : Nat) : Int) != (a : Int)) = true := by
        have : ¬ ((Sg.wlk (jnF R C ms) a s (k + 1) : Nat) : Int) = (a : Int) := by omega
        simpa using this
      by_cases h2 : (jnF R C ms (Sg.wlk (jnF R C ms) a s (k + 1))).length = 2
      · have hkm := HR.out.goes hk hya h2
        have HY1 : Hid (∀ W1, J ((List.range' 1 k).map (Sg.wlk (jnF R C ms) a s)) W1 → YieldAt Fence.wide (n - 1) Tryz.prog l #[.int .i64 ((Sg.wlk (jnF R C ms) a s (k + 1) : Nat) : Int)] W1 fun e W' => e = .returned (.bool true) ∧ J ((List.range' 1 (k + 1)).map (Sg.wlk (jnF R C ms) a s)) W' ∧ KpQ w0.heap.size X q W1 W') := fun W1 hJ1 => by
          have := HY'.out ((List.range' 1 k).map (Sg.wlk (jnF R C ms) a s)) (Sg.wlk (jnF R C ms) a s (k + 1)) W1 hJ1 (by have := HML.out; simp; omega)
          rw [Sg.row_snoc]
          exact this
        have HSt : Hid (∀ on, on = Sg.wlk (jnF R C ms) a s (k + 2) → ∀ W', I (k + 1) W' → ∃ k' : Nat, k' ≤ m ∧ Value.int .i64 ((Sg.wlk (jnF R C ms) a s (k + 1) : Nat) : Int) = .int .i64 ((Sg.wlk (jnF R C ms) a s k' : Nat) : Int) ∧ Value.int .i64 ((on : Nat) : Int) = .int .i64 ((Sg.wlk (jnF R C ms) a s (k' + 1) : Nat) : Int) ∧ I k' W') := fun on e W' hW' => ⟨k + 1, by omega, rfl, by rw [e], hW'⟩
        have hon := Sg.wlk_on (jn := jnF R C ms) a s k
        have hme2 := HR.out.left HJn.out HA.out (k := k + 1) (by omega)
        have HM : Hid (∀ on, on = Sg.wlk (jnF R C ms) a s (k + 2) → (Sg.rowF (jnF R C ms) a ms.length (Sg.wlk (jnF R C ms) a s (k + 1)) on).length < (Sg.rowF (jnF R C ms) a ms.length (Sg.wlk (jnF R C ms) a s k) (Sg.wlk (jnF R C ms) a s (k + 1))).length) := fun on e => by
          rw [e, hme2, HMe.out]
          simp
          omega
        have HON : Hid (Sg.wlk (jnF R C ms) a s (k + 2) = if (jnF R C ms (Sg.wlk (jnF R C ms) a s (k + 1))).getD 0 0 = Sg.wlk (jnF R C ms) a s k then (jnF R C ms (Sg.wlk (jnF R C ms) a s (k + 1))).getD 1 0 else (jnF R C ms (Sg.wlk (jnF R C ms) a s (k + 1))).getD 0 0) := by
          show _ = _
          rw [hon]; rfl
        clear hon hme2 hya
        generalize Sg.wlk (jnF R C ms) a s (k + 2) = z at *
        generalize Sg.wlk (jnF R C ms) a s (k + 1) = y at *
        generalize Sg.wlk (jnF R C ms) a s k = x at *
        have HLy := Lib.hid h2
        clear h2
        gi_wp2_with fail
        refine ⟨trivial, (callsIn_wide.2 HJo.out).mono ?_⟩
        rintro e w1 ⟨v1, B, rfl, hx1, hb1, hs1, _, ho1⟩
        have HB1 := Lib.hid (hx1.below HDV.out)
        obtain ⟨g, c, rfl, hg, hc0, hc1⟩ := two_cells ho1 HLy.out
        have hqV : q < V.heap.size := HQL2.out q (.inl rfl)
        have hK1 : KpQ w0.heap.size X q V w1 := KpQ.of_kept (Kept.of_below (X := fun _ => False) HB1.out (Nat.le_refl _)) HKP.out.size hqV (fun _ => id)
        have hng : ¬ PQ q w1 g := fun h => by
          have h1 := HQL2.out g ((pq_still ((Kept.of_below (X := fun _ => False) HB1.out (Nat.le_refl _)).block q hqV id) g).1 h)
          omega
        have HYw := Lib.hid (HY1.out w1 (HJ'.out _ _ _ HJV.out HB1.out))
        have HIk : Hid (∀ W', KpQ w0.heap.size X q w1 W' → J ((List.range' 1 (k + 1)).map (Sg.wlk (jnF R C ms) a s)) W' → I (k + 1) W') := fun W' h1 h2 => by
          rw [HII.out]
          exact ⟨HKP.out.kpq (hK1.trans h1), h2, (hK1.trans h1).lt HQL2.out⟩
        have HC0 := Lib.hid hc0
        have HC1 := Lib.hid hc1
        have HNG := Lib.hid hng
        clear hx1 hb1 hs1 ho1 hg hc0 hc1 hqV hK1 hng HY1
        generalize (jnF R C ms y).getD 0 0 = y0 at *
        generalize (jnF R C ms y).getD 1 0 = y1 at *
        obtain ⟨fn, tmps, assign, body, hrun, hR⟩ := HYw.out
        have HR2 := Lib.hid hR
        clear hR HYw
        gi_wp2
        refine HR2.out.mono ?_
        rintro e W' ⟨rfl, hJ', hK'⟩
        have c0 := hK'.cell HC0.out HNG.out
        have c1 := hK'.cell HC1.out HNG.out
        have HI' := Lib.hid (HIk.out W' hK' hJ')
        clear hJ' hK' hrun HR2
        by_cases hyx : y0 = x
        · have d2 : ((y0 : Int) == (x : Int)) = true := by simp [hyx]
          have HG := Lib.hid (HSt.out y1 (by rw [HON.out, if_pos hyx]) W' HI'.out)
          have HMz := Lib.hid (HM.out y1 (by rw [HON.out, if_pos hyx]))
          clear hyx
          gi_wp2
          go_roundw
          case rel => exact HG.out
          case measure => simpa [intOf] using HMz.out
        · have d2 : ((y0 : Int) == (x : Int)) = false := by
            have : ¬ (y0 : Int) = (x : Int) := by omega
            simpa using this
          have HG := Lib.hid (HSt.out y0 (by rw [HON.out, if_neg hyx]) W' HI'.out)
          have HMz := Lib.hid (HM.out y0 (by rw [HON.out, if_neg hyx]))
          clear hyx c1
          gi_wp2
          go_roundw
          case rel => exact HG.out
          case measure => simpa [intOf] using HMz.out
      · have hkm := HR.out.ends hk (.inr h2)
        subst hkm
        have HLy := Lib.hid h2
        clear h2 hya HMe
        obtain ⟨L, hL⟩ : ∃ L, L = jnF R C ms (Sg.wlk (jnF R C ms) a s (k + 1)) := ⟨_, rfl⟩
        rw [← hL] at HLy HJo
        have hLb : L.length ≤ ms.length := by rw [hL]; unfold jnF; exact Nat.le_trans (List.length_filter_le _ _) (by simp)
        have d2 : ((L.length : Int) != 2) = true := by
          have h3 := HLy.out
          have : ¬ (L.length : Int) = 2 := by omega
          simpa using this
        clear hL
        generalize Sg.wlk (jnF R C ms) a s (k + 1) = y at *
        gi_wp2_with fail
        refine ⟨trivial, (callsIn_wide.2 HJo.out).mono ?_⟩
        rintro e w1 ⟨v1, B, rfl, hx1, _, _, _, ho1⟩
        obtain ⟨ga, gc, rfl⟩ := row_slice ho1
        have HF : Hid ((∃ v, Ending.returned (.tuple #[]) = .returned v) ∧ ∃ xs : List Nat, xs = (List.range' 1 k).map (Sg.wlk (jnF R C ms) a s) ∧ J xs w1) := ⟨⟨_, rfl⟩, _, rfl, HJ'.out _ _ _ HJV.out (hx1.below HDV.out)⟩
        clear hx1 ho1
        generalize L.length = ln at *
        gi_wp2
        refine ⟨fun _ h => (by cases h), ?_⟩
        gi_wp2
        refine bodyPost_ret (results_none rfl _ _ _) rfl ?_
        exact HF.out
end Go.Proofs.YtekhlaodlagbdaaGreatDoor
