/-
  The chapter's first examples are as told.
-/
import Derived.Test.YtlmbbnkdiokabaaDoorLgH
import Derived.Laws.IdiomCopy
import Derived.Deep.OwnRows
namespace Go.Proofs.YtlmbbnkdiokabaaDoor
set_option maxRecDepth 100000
set_option linter.unusedSimpArgs false
open Go Go.RowKit Sp Lg

def strI (l : List Int) : ByteArray := ⟨(l.map fun x => UInt8.ofNat x.toNat).toArray⟩
theorem conv8 {w : World} {v : Value} {l : List Int} (h : R8 w v l) (hl : ∀ c ∈ l, 0 ≤ c ∧ c < 256) : (convert 52 9 v).run Tryd.prog w = .ok (.string (strI l)) w := by
  have h1 : Tryd.prog.underlying 52 = some (.slice 5) := by kernel_rfl
  have h2 : Tryd.prog.underlying 5 = some (.int .u8) := by kernel_rfl
  have h3 : Tryd.prog.underlying 9 = some .string := by kernel_rfl
  rcases h.2 with ⟨rfl, h0⟩ | ⟨g, cap, cur, rfl, hb, hg, hle, hmx, hsz, htk⟩
  · have : l = [] := List.length_eq_zero_iff.1 h0
    subst this
    exact run_convert_bytes_nil w _ _ h1 h2 _ _ _ h3
  · have := run_convert_bytes_back w _ _ _ ⟨g, 0, none⟩ cap (l.map fun x => UInt8.ofNat x.toNat) h1 h2 h3 (by
      intro j hj
      rw [List.length_map] at hj
      rw [h.cells rfl j _ (by simp [hj]; rfl)]
      obtain ⟨e1, e2⟩ := hl _ (List.getElem_mem hj)
      simp [byI]
      omega)
    rw [List.length_map] at this
    exact this

/-- What the first calls leave: sB, sC. -/
def sB : S := fewS.turn 2 ⟨1, 1⟩
def sC : S := sB.setQ 2 [⟨0, 9, 5⟩]
def qA : Dn := (Dn.none.write 2 ⟨1, 1⟩).post ⟨1, ⟨2, 2, 1, 7, 0, 0⟩⟩
def qB : Dn := ((Dn.none.post ⟨0, ⟨5, 2, 0, 9, 0, 1⟩⟩).post ⟨1, ⟨8, 2, 0, 0, 5, 0⟩⟩).post ⟨1, ⟨10, 2, 1, 0, 0, 0⟩⟩
def qC : Dn := ((Dn.none.write 2 ⟨-1, 1⟩).write 2 ⟨0, 2⟩).post ⟨0, ⟨2, 2, 2, 9, 0, 0⟩⟩
theorem ex1 : reqS fewS 1 2 7 3 = sB ∧ reqO fewS 1 2 7 3 = qA ∧ reqE fewS 1 2 3 = 0 := ⟨rfl, rfl, rfl⟩
theorem ex2 : reqS sB 0 2 9 5 = sC ∧ reqO sB 0 2 9 5 = qB ∧ reqE sB 0 2 5 = 0 := ⟨rfl, rfl, rfl⟩
theorem ex3 : relO sC 1 2 1 = qC ∧ relE sC 1 2 = 0 := ⟨rfl, rfl⟩
theorem typ_out {w w' : World} {b me mq N : Nat} {P : Int → Option Nat} {s : S} {k : Nat} {cs : Array Value} (hl : LedAt w b me mq P N s) (hk : Kept (LX b me mq P) w w') (h : w.heap[k]? = some (.cells cs 48 (0, 0))) : w'.heap[k]? = some (.cells cs 48 (0, 0)) := by
  refine (hk.block k (blk_lt h) (fun e => ?_)).trans h
  rcases hl.typ e ⟨_, _, h⟩ with e | e <;> exact absurd e (by decide)
set_option maxHeartbeats 4000000 in
theorem alive_any {w : World} (ha : AF w) : Calls Tryd.prog 21 #[] w fun e w' => e = .returned (.bool true) ∧ Below w.heap.size w w' := by
  obtain ⟨R, hR⟩ : ∃ R : Ending → World → Prop, R = fun e w' => e = .returned (.bool true) ∧ Below w.heap.size w w' := ⟨_, rfl⟩
  have HR : Hid (∀ w', Below w.heap.size w w' → R (.returned (.bool true)) w') := by rw [hR]; exact fun w' h => ⟨rfl, h⟩
  rw [← hR]
  clear hR
  go_enter Tryd.func21, Tryd.ntmps21
  go_wp2_with fail
  refine (few_any ha).mono ?_
  rintro e W1 ⟨b, me, mq, N1, rfl, hN1, hL1, hX1, hB1⟩
  -- the first request
  have H1 : Hid (Calls Tryd.prog 17 #[.pointer (some ⟨b, 0, none⟩), .int .i64 1, .int .i64 2, .int .u64 7, .int .i64 3] W1 fun e W2 => ∃ A1 c1 A2 c2 A3 c3, e = .returned (.tuple #[.agg #[.slice A1 1 c1, .slice A2 1 c2, .slice A3 1 c3], .int .i64 0]) ∧ ∃ P2 N2, N2 ≤ 3010 ∧ LedAt W2 b me mq P2 N2 sB ∧ OutQ W2 0 ⟨.slice A1 1 c1, .slice A2 1 c2, .slice A3 1 c3⟩ qA ∧ (∀ k, LX b me mq P2 k → w.heap.size ≤ k) ∧ Below w.heap.size w W2) := by
    refine (request_any hL1 1 2 7 3 (by unfold I64; omega) (by omega) (by omega) (fun _ => rfl) (by omega)).mono ?_
    rintro e W2 ⟨v, rfl, hO, P2, N2, h1, h2, h3, h4⟩
    rw [ex1.1] at h1
    rw [ex1.2.1] at hO
    obtain ⟨A1, c1, A2, c2, A3, c3, rfl, _⟩ := hO.sl
    refine ⟨A1, c1, A2, c2, A3, c3, by rw [ex1.2.2]; rfl, P2, N2, by omega, h1, hO.base (Nat.zero_le _), fun k hk => ?_, hB1.trans (h4.below hX1 hB1.size)⟩
    rcases LX.grow h3 hk with e | e
    · exact hX1 k e
    · have := hB1.size; omega
  clear hL1 hX1 hB1
  go_wp2_with fail
  refine H1.out.mono ?_
  rintro e W2 ⟨A1, c1, A2, c2, A3, c3, rfl, P2, N2, hN2, hL2, hO2, hX2, hB2⟩
  obtain ⟨oa, hoa⟩ : ∃ oa : Obj, oa = .cells #[.slice A1 1 c1, .slice A2 1 c2, .slice A3 1 c3] 48 := ⟨_, rfl⟩
  have ja := World.alloc_heap_new W2 oa
  have hBa := hB2.trans ((alloc_below W2 oa).mono hB2.size)
  have hLa := hL2.below (alloc_below W2 oa)
  have hOa := hO2.below (alloc_below W2 oa)
  rw [hoa] at ja
  have H2 : Hid (Calls Tryd.prog 17 #[.pointer (some ⟨b, 0, none⟩), .int .i64 0, .int .i64 2, .int .u64 9, .int .i64 5] (W2.alloc oa) fun e W3 => ∃ B1 d1 B2 d2 B3 d3, e = .returned (.tuple #[.agg #[.slice B1 0 d1, .slice B2 3 d2, .slice B3 3 d3], .int .i64 0]) ∧ ∃ P3 N3, N3 ≤ 3020 ∧ LedAt W3 b me mq P3 N3 sC ∧ OutQ W3 0 ⟨.slice A1 1 c1, .slice A2 1 c2, .slice A3 1 c3⟩ qA ∧ OutQ W3 0 ⟨.slice B1 0 d1, .slice B2 3 d2, .slice B3 3 d3⟩ qB ∧
      W3.heap[W2.heap.size]? = some (.cells #[.slice A1 1 c1, .slice A2 1 c2, .slice A3 1 c3] 48 (0, 0)) ∧ (∀ k, LX b me mq P3 k → w.heap.size ≤ k) ∧ Below w.heap.size w W3 ∧ W2.heap.size < W3.heap.size) := by
    refine (request_any hLa 0 2 9 5 (by unfold I64; omega) (by omega) (by omega) (fun e => absurd e (by decide)) (by omega)).mono ?_
    rintro e W3 ⟨v, rfl, hO, P3, N3, h1, h2, h3, h4⟩
    rw [ex2.1] at h1
    rw [ex2.2.1] at hO
    obtain ⟨B1, d1, B2, d2, B3, d3, rfl, _⟩ := hO.sl
    refine ⟨B1, d1, B2, d2, B3, d3, by rw [ex2.2.2]; rfl, P3, N3, by omega, h1, hOa.led hLa h4, hO.base (Nat.zero_le _), ?_, fun k hk => ?_, hBa.trans (h4.below hX2 hBa.size), by have := h4.size; simp at this; omega⟩
    · rw [← hoa] at ja ⊢
      have ja2 := ja
      rw [hoa] at ja ja2 ⊢
      exact typ_out (by rw [hoa] at hLa; exact hLa) (by rw [hoa] at h4; exact h4) ja
    rcases LX.grow h3 hk with e | e
    · exact hX2 k e
    · have := hBa.size; omega
  rw [hoa] at H2
  clear hL2 hO2 hX2 hB2 ja hBa hLa hOa hoa H1
  go_wp2_with fail
  refine H2.out.mono ?_
  rintro e W3 ⟨B1, d1, B2, d2, B3, d3, rfl, P3, N3, hN3, hL3, hOa, hOb, ja, hX3, hB3, hs23⟩
  obtain ⟨ob, hob⟩ : ∃ ob : Obj, ob = .cells #[.slice B1 0 d1, .slice B2 3 d2, .slice B3 3 d3] 48 := ⟨_, rfl⟩
  have jb := World.alloc_heap_new W3 ob
  have ja2 := heap_up (o := ob) ja
  have hBb := hB3.trans ((alloc_below W3 ob).mono hB3.size)
  have hLb := hL3.below (alloc_below W3 ob)
  have hOa2 := hOa.below (alloc_below W3 ob)
  have hOb2 := hOb.below (alloc_below W3 ob)
  have H3 : Hid (Calls Tryd.prog 25 #[.pointer (some ⟨b, 0, none⟩), .int .i64 1, .int .i64 2, .int .u32 1] (W3.alloc ob) fun e W4 => ∃ C1 f1 C2 f2 C3 f3, e = .returned (.tuple #[.agg #[.slice C1 2 f1, .slice C2 1 f2, .slice C3 1 f3], .int .i64 0]) ∧ OutQ W4 0 ⟨.slice A1 1 c1, .slice A2 1 c2, .slice A3 1 c3⟩ qA ∧ OutQ W4 0 ⟨.slice B1 0 d1, .slice B2 3 d2, .slice B3 3 d3⟩ qB ∧ OutQ W4 0 ⟨.slice C1 2 f1, .slice C2 1 f2, .slice C3 1 f3⟩ qC ∧
      W4.heap[W2.heap.size]? = some (.cells #[.slice A1 1 c1, .slice A2 1 c2, .slice A3 1 c3] 48 (0, 0)) ∧ W4.heap[W3.heap.size]? = some (.cells #[.slice B1 0 d1, .slice B2 3 d2, .slice B3 3 d3] 48 (0, 0)) ∧ Below w.heap.size w W4 ∧ W3.heap.size < W4.heap.size) := by
    refine (release_any hLb 1 2 1 (by unfold I64; omega) (by decide) (by omega)).mono ?_
    rintro e W4 ⟨v, rfl, hO, P4, N4, h1, h2, h3, h4⟩
    rw [ex3.1] at hO
    obtain ⟨C1, f1, C2, f2, C3, f3, rfl, _⟩ := hO.sl
    refine ⟨C1, f1, C2, f2, C3, f3, by rw [ex3.2]; rfl, hOa2.led hLb h4, hOb2.led hLb h4, hO.base (Nat.zero_le _), typ_out hLb h4 ja2, typ_out hLb h4 (jb.trans (by rw [hob])), hBb.trans (h4.below hX3 hBb.size), by have := h4.size; simp at this; omega⟩
  rw [hob] at H3
  clear hL3 hOa hOb hX3 hB3 ja2 jb hBb hLb hOa2 hOb2 hob H2 ja
  go_wp2_with fail
  refine H3.out.mono ?_
  rintro e W4 ⟨C1, f1, C2, f2, C3, f3, rfl, hOa, hOb, hOc, ja, jb, hB4, hs34⟩
  obtain ⟨oc, hoc⟩ : ∃ oc : Obj, oc = .cells #[.slice C1 2 f1, .slice C2 1 f2, .slice C3 1 f3] 48 := ⟨_, rfl⟩
  have jc := World.alloc_heap_new W4 oc
  rw [hoc] at jc
  obtain ⟨V, hV⟩ : ∃ V, V = W4.alloc oc := ⟨_, rfl⟩
  have hbV : Below W4.heap.size W4 V := by rw [hV]; exact alloc_below _ _
  have hBV := hB4.trans (hbV.mono hB4.size)
  have ja3 : V.heap[W2.heap.size]? = _ := (hbV.block _ (blk_lt ja)).trans ja
  have jb3 : V.heap[W3.heap.size]? = _ := (hbV.block _ (blk_lt jb)).trans jb
  have jc3 : V.heap[W4.heap.size]? = some (.cells #[.slice C1 2 f1, .slice C2 1 f2, .slice C3 1 f3] 48 (0, 0)) := by rw [hV, hoc]; exact jc
  have hOaV := hOa.below hbV
  have hObV := hOb.below hbV
  have hOcV := hOc.below hbV
  -- what can be read
  have hrd : ∃ ga gw gb gc ge d, A1 = some (⟨gw, 0, none⟩ : Addr) ∧ A2 = some (⟨ga, 0, none⟩ : Addr) ∧ B2 = some (⟨gb, 0, none⟩ : Addr) ∧ C2 = some (⟨gc, 0, none⟩ : Addr) ∧ C3 = some (⟨ge, 0, none⟩ : Addr) ∧ (∀ j x, (csP qA.ps)[j]? = some x → V.cell? ⟨ga, j, none⟩ = some x) ∧ (∀ j x, (csP qB.ps)[j]? = some x → V.cell? ⟨gb, j, none⟩ = some x) ∧ (∀ j x, (csP qC.ps)[j]? = some x → V.cell? ⟨gc, j, none⟩ = some x) ∧ (∀ j x, (csB qC.bs)[j]? = some x → V.cell? ⟨ge, j, none⟩ = some x) ∧ V.cell? ⟨gw, 2, none⟩ = some d ∧ R8 V d (recB ⟨1, 1⟩) := by
    obtain ⟨_, _, _, _, _, _, eA, pA, _, wA⟩ := hOaV.sl
    obtain ⟨_, _, _, _, _, _, eB, pB, _, _⟩ := hObV.sl
    obtain ⟨_, _, _, _, _, _, eC, pC, bC, _⟩ := hOcV.sl
    injection eA with eA1 eA2 eA3
    injection eB with eB1 eB2 eB3
    injection eC with eC1 eC2 eC3
    injection eA1 with eA1 _ _
    injection eA2 with eA2 _ _
    injection eB2 with eB2 _ _
    injection eC2 with eC2 _ _
    injection eC3 with eC3 _ _
    obtain ⟨ga, hga, ca⟩ := pA (by decide)
    obtain ⟨gw, d, hgw, _, cw, hd⟩ := wA 0 (by decide)
    obtain ⟨gb, hgb, cb⟩ := pB (by decide)
    obtain ⟨gc, hgc, cc⟩ := pC (by decide)
    obtain ⟨ge, hge, ce⟩ := bC (by decide)
    rw [← eA1] at hgw
    rw [← eA2] at hga
    rw [← eB2] at hgb
    rw [← eC2] at hgc
    rw [← eC3] at hge
    exact ⟨ga, gw, gb, gc, ge, d, hgw, hga, hgb, hgc, hge, ca, cb, cc, ce, cw, hd⟩
  obtain ⟨ga, gw, gb, gc, ge, d, rfl, rfl, rfl, rfl, rfl, ca, cb, cc, ce, cw, hd⟩ := hrd
  have HK : Hid (∀ V', Below V.heap.size V V' → (V'.cell? ⟨W2.heap.size, 0, none⟩ = some (.slice (some ⟨gw, 0, none⟩) 1 c1) ∧ V'.cell? ⟨W2.heap.size, 1, none⟩ = some (.slice (some ⟨ga, 0, none⟩) 1 c2) ∧ V'.cell? ⟨W3.heap.size, 1, none⟩ = some (.slice (some ⟨gb, 0, none⟩) 3 d2) ∧ V'.cell? ⟨W4.heap.size, 0, none⟩ = some (.slice C1 2 f1) ∧ V'.cell? ⟨W4.heap.size, 1, none⟩ = some (.slice (some ⟨gc, 0, none⟩) 1 f2) ∧ V'.cell? ⟨W4.heap.size, 2, none⟩ = some (.slice (some ⟨ge, 0, none⟩) 1 f3)) ∧
      (V'.cell? ⟨ga, 0, none⟩ = some (.int .i64 1) ∧ V'.cell? ⟨ga, 1, none⟩ = some (.int .i64 2) ∧ V'.cell? ⟨ga, 2, none⟩ = some (.int .i64 2) ∧ V'.cell? ⟨ga, 3, none⟩ = some (.int .u32 1) ∧ V'.cell? ⟨ga, 4, none⟩ = some (.int .u64 7) ∧ V'.cell? ⟨ga, 5, none⟩ = some (.int .i64 0) ∧ V'.cell? ⟨ga, 6, none⟩ = some (.int .i64 0) ∧ V'.cell? ⟨ga, 7, none⟩ = some (.int .i64 0) ∧ V'.cell? ⟨ga, 8, none⟩ = some (.int .i64 0) ∧ V'.cell? ⟨ga, 9, none⟩ = some (.slice none 0 0)) ∧
      (V'.cell? ⟨gw, 2, none⟩ = some d ∧ (convert 52 9 d).run Tryd.prog V' = .ok (.string { data := #[1, 0, 0, 0, 1] }) V') ∧
      (V'.cell? ⟨gb, 0, none⟩ = some (.int .i64 0) ∧ V'.cell? ⟨gb, 8, none⟩ = some (.int .i64 1) ∧ V'.cell? ⟨gb, 10, none⟩ = some (.int .i64 1) ∧ V'.cell? ⟨gb, 15, none⟩ = some (.int .i64 5) ∧ V'.cell? ⟨gb, 21, none⟩ = some (.int .i64 10)) ∧
      (V'.cell? ⟨gc, 0, none⟩ = some (.int .i64 0) ∧ V'.cell? ⟨gc, 3, none⟩ = some (.int .u32 2) ∧ V'.cell? ⟨gc, 4, none⟩ = some (.int .u64 9)) ∧ V'.cell? ⟨ge, 0, none⟩ = some (.int .i64 2)) := by
    intro V' hV'
    have kk : ∀ {p : Addr} {x : Value}, V.cell? p = some x → V'.cell? p = some x := fun h => (keptB hV').cell h id
    refine ⟨⟨kk (by rw [blk_cell ja3]; rfl), kk (by rw [blk_cell ja3]; rfl), kk (by rw [blk_cell jb3]; rfl), kk (by rw [blk_cell jc3]; rfl), kk (by rw [blk_cell jc3]; rfl), kk (by rw [blk_cell jc3]; rfl)⟩,
      ⟨kk (ca 0 _ rfl), kk (ca 1 _ rfl), kk (ca 2 _ rfl), kk (ca 3 _ rfl), kk (ca 4 _ rfl), kk (ca 5 _ rfl), kk (ca 6 _ rfl), kk (ca 7 _ rfl), kk (ca 8 _ rfl), kk (ca 9 _ rfl)⟩,
      ⟨kk cw, ?_⟩, ⟨kk (cb 0 _ rfl), kk (cb 8 _ rfl), kk (cb 10 _ rfl), kk (cb 15 _ rfl), kk (cb 21 _ rfl)⟩, ⟨kk (cc 0 _ rfl), kk (cc 3 _ rfl), kk (cc 4 _ rfl)⟩, kk (ce 0 _ rfl)⟩
    have := conv8 (hd.below hV') (by decide)
    exact this
  have HFin : Hid (∀ V', Below V.heap.size V V' → R (.returned (.bool true)) V') := fun V' h => HR.out V' (hBV.trans (h.mono hBV.size))
  have hVV := Lib.hid hV
  rw [hoc] at hVV
  obtain ⟨⟨x0, x1, x2, x3, x4, x5⟩, ⟨a0, a1, a2, a3, a4, a5, a6, a7, a8, a9⟩, ⟨w0', w1'⟩, ⟨b0, b1, b2, b3, b4⟩, ⟨g0, g1, g2⟩, e0'⟩ := HK.out V (Below.refl _ _)
  have hds : ∃ A n c, d = .slice A n c := by
    rcases hd.2 with ⟨rfl, _⟩ | ⟨g, cap, cur, rfl, _⟩
    · exact ⟨_, _, _, rfl⟩
    · exact ⟨_, _, _, rfl⟩
  obtain ⟨dA, dn, dc, rfl⟩ := hds
  clear hOa hOb hOc ja jb jc hB4 hs34 hbV hBV ja3 jb3 jc3 hOaV hObV hOcV ca cb cc ce cw hd hoc hV H3 hs23 HR w1'
  have eV := hVV.out
  clear hVV
  subst eV
  go_wp2_with fail
  refine (msame_any _ 2 2 1 7 0 0).mono ?_
  rintro e V2 ⟨rfl, hv2⟩
  have HF := Lib.hid (HFin.out V2 hv2)
  obtain ⟨⟨x0, x1, x2, x3, x4, x5⟩, ⟨a0, a1, a2, a3, a4, a5, a6, a7, a8, a9⟩, ⟨w0', w1'⟩, ⟨b0, b1, b2, b3, b4⟩, ⟨g0, g1, g2⟩, e0'⟩ := HK.out V2 hv2
  clear HK HFin hv2
  go_wp2
  exact HF.out
end Go.Proofs.YtlmbbnkdiokabaaDoor
