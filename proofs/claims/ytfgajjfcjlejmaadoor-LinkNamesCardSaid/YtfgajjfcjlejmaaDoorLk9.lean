/-
  Send, where the alarm is off.
-/
import Derived.Test.YtfgajjfcjlejmaaDoorLk8
namespace Go.Proofs.YtfgajjfcjlejmaaDoor
set_option maxRecDepth 100000
set_option linter.unusedSimpArgs false
open Go Go.RowKit Wr
attribute [local go_sem] Oper.semAt_some


set_option maxHeartbeats 8000000 in
theorem send_off {w : World} {T S : Nat → Prop} {o N : Nat} {s : Lk.S} (h : LnkAt w T S o N s) (hO : Lk.Ok s) (hT : Tab w) {n : Nat} (hn : n ≤ topT) (m : Msg) {A : Option Addr} {cap : Nat} (hC : ClT w T A m.claims cap) (hl : m.claims.length ≤ 100000) (hg : m.gen < 4294967296) (hk : okM m = true) (hb : Lk.isB m.kind = false) (hkn : s.kn ≠ 0) (hr : ¬ 16 ≤ s.opn.length) (hs : s.sent ≠ 4294967295) (hon : s.on = false) :
    Calls Tryd.prog 14 #[.pointer (some ⟨o, 0, none⟩), .int .u64 (n : Nat), msgA m A m.claims.length cap] w (SendP w T S o N (Lk.start { s with sent := s.sent + 1, opn := s.opn ++ [m] } n) (s.sent + 1) m) := by
  obtain ⟨P, hP⟩ : ∃ P : Ending → World → Prop, P = SendP w T S o N (Lk.start { s with sent := s.sent + 1, opn := s.opn ++ [m] } n) (s.sent + 1) m := ⟨_, rfl⟩
  obtain ⟨s3, hs3⟩ : ∃ s3 : Lk.S, s3 = Lk.start { s with sent := s.sent + 1, opn := s.opn ++ [m] } n := ⟨_, rfl⟩
  obtain ⟨s2, hs2⟩ : ∃ s2 : Lk.S, s2 = { s with sent := s.sent + 1, opn := s.opn ++ [m] } := ⟨_, rfl⟩
  obtain ⟨s1, hs1⟩ : ∃ s1 : Lk.S, s1 = { s with sent := s.sent + 1 } := ⟨_, rfl⟩
  have hst := hO.st
  obtain ⟨i0, hi, hz0, hz1, hz2⟩ := info_parts Tryd.infoMsg
  obtain ⟨T1, hT1⟩ : ∃ T1 : Nat → Prop, T1 = fun k => T k ∨ k = w.heap.size + 1 := ⟨_, rfl⟩
  have hSw : ∀ k, S k → k < w.heap.size := fun k hk => h.lt _ (h.st _ hk)
  obtain ⟨sq, hsq⟩ : ∃ sq, sq = s.sent + 1 := ⟨_, rfl⟩
  have hsw : IntKind.u32.wrap ((s.sent : Int) + 1) = (sq : Int) := by rw [hsq, u32_in (by omega) (by omega)]; push_cast; rfl
  have HM : Hid (∀ W, Below w.heap.size w W → Calls Tryd.prog 35 #[.pointer (some ⟨o, 0, none⟩)] W fun e w' => e = .returned (.bool true) ∧ w' = W) := fun W hW => made_any (h.below hW) hO.ep1
  have HCM : Hid (∀ W, Below w.heap.size w W → Calls Tryd.prog 40 #[msgA m A m.claims.length cap] W fun e w' => e = .returned (.int .i64 0) ∧ Below W.heap.size W w') := fun W hW => (check_any (hT.below hW) m cap (hC.at_.below hW) hl hg).mono (by rintro e w' ⟨rfl, hb⟩; rw [hk]; exact ⟨rfl, hb⟩)
  have HBN : Hid (∀ V, V = (w.alloc (.cells (msgC m A m.claims.length cap) 37)).alloc (.cells #[.int .i64 0, .int .i64 0, .int .u32 0, .int .u32 0, .int .u32 0, .int .u32 0, .int .i64 0, .int .i64 0, .int .u32 0, .int .u64 0, .int .i64 0, .int .i64 0, .int .i64 0, .int .i64 0, .slice none 0 0] 39) → Below w.heap.size w V ∧ Bxs w m A m.claims.length cap V) := by
    rintro V rfl
    exact ⟨((Below.refl _ w).alloc (Nat.le_refl _) _).alloc (by simp) _, Bxs.new w m A _ cap⟩
  have HCL : Hid (∀ W, Below w.heap.size w W → (W.cell? ⟨o, 3, none⟩ = some (.int .u32 (s.kn : Nat)) ∧ W.cell? ⟨o, 6, none⟩ = some (.int .u32 (s.sent : Nat)) ∧ W.frozen? ⟨o, 6, none⟩ = false) ∧ ∃ Ao co, W.cell? ⟨o, 7, none⟩ = some (.slice Ao s.opn.length co)) := by
    intro W hW
    have h' := h.below hW
    obtain ⟨_, _, _, c3, _, _, c6, _⟩ := h'.cells
    obtain ⟨Ao, co, c7, _⟩ := h'.lst
    exact ⟨⟨c3, c6, h'.free 6⟩, Ao, co, c7⟩
  -- behind the store of the number
  have HV : Hid (∀ W, Below w.heap.size w W → Bxs w m A m.claims.length cap W → Kept S w (W.setCell ⟨o, 6, none⟩ (.int .u32 (sq : Nat))) ∧ w.heap.size + 2 ≤ (W.setCell ⟨o, 6, none⟩ (.int .u32 (sq : Nat))).heap.size ∧ Bxs w m A m.claims.length cap (W.setCell ⟨o, 6, none⟩ (.int .u32 (sq : Nat))) ∧ LnkAt (W.setCell ⟨o, 6, none⟩ (.int .u32 (sq : Nat))) T1 S o N s1 ∧ ClT (W.setCell ⟨o, 6, none⟩ (.int .u32 (sq : Nat))) T1 A m.claims cap) := by
    intro W hW hB
    have hz := blk_lt hB.2
    have hL1 : LnkAt W T1 S o N s := h.grow hW (fun k hk h' => by rw [hT1] at h'; exact h'.elim id (fun e => by omega)) (fun k hk => by rw [hT1]; exact .inl (h.st k hk)) (fun k hk => by
      rw [hT1] at hk
      rcases hk with hk | rfl
      · have := h.lt k hk; have := hW.size; omega
      · exact hz)
    have hol := hSw _ h.so
    have hkO := kO W o 6 (.int .u32 (sq : Nat))
    refine ⟨(Kept.of_below (X := S) hW (Nat.le_refl _)).trans (hkO.mono (Y := S) (fun k _ e => by rw [e]; exact h.so)) (fun _ _ h => h), by simp only [World.size_setCell]; omega, hB.kept hkO (fun k e => .inl (by rw [e]; exact hol)), hL1.setO hkO (by rw [hs1]) (by rw [hs1]) (fun v mb hv => by rw [hs1, hsq]; exact blk_set hv 6 _), ?_⟩
    have hc1 : ClT W T1 A m.claims cap := (hC.more (T' := T1) (fun k hk h' => by rw [hT1] at h'; exact h'.elim id (fun e => by omega))).below hW
    exact hc1.kept hkO (fun k e => by rw [e, hT1]; exact .inl (h.st _ h.so))
  have HP : Hid (∀ V W0 w13 WF A3 cap3, Kept S w V → w.heap.size + 2 ≤ V.heap.size → StepL V T1 S o N s3 W0 → Below W0.heap.size W0 w13 → w13.ownsRow W0.heap.size 138 2 (.slice A3 m.claims.length cap3) m.claims.length (csC m.claims) → Kept (fun k => k = w.heap.size + 1) w13 WF → P (.returned (.tuple #[pktA (Lk.mk s3 sq m) A3 m.claims.length cap3, .int .i64 0])) WF) := by
    intro V W0 w13 WF A3 cap3 h1 h2 h3 h4 h5 h6
    rw [hP, ← hs3, ← hsq]
    rw [hT1] at h3
    exact ⟨A3, cap3, rfl, send_fin h1 h2 hSw h3 h4 h5 h6⟩
  rw [← hP]
  have hmk : Lk.mk s3 sq m = ⟨s.self, s.peer, s.ep, s.kn, sq, s.l, m⟩ := by rw [hs3]; rfl
  rw [hmk] at HP
  have hob : s2.sent = sq := by rw [hs2, hsq]
  have hob3 : s3.sent = sq := by rw [hs3, hsq]; rfl
  have hon2 : s2.on = false := by rw [hs2]; exact hon
  have hrl : okR s.b s.c = true := hO.rl
  have HSTA : Hid (∀ W, Calls Tryd.prog 36 #[ruV s.b s.c, .int .u64 (n : Nat)] W fun e w => e = .returned (alV true (beh n s.b) 0) ∧ Below W.heap.size W w) := fun W => start_any W hrl hn
  have HARX : Hid (∀ V W, StepL V T1 S o N s2 W → (W.cell? ⟨o, 4, none⟩ = some (.int .u64 (s.b : Nat)) ∧ W.cell? ⟨o, 5, none⟩ = some (.int .u64 (s.c : Nat)) ∧ W.cell? ⟨o, 11, none⟩ = some (.bool s2.on) ∧ W.cell? ⟨o, 12, none⟩ = some (.int .u64 (s.at_ : Nat)) ∧ W.cell? ⟨o, 13, none⟩ = some (.int .i64 s.tr) ∧ W.frozen? ⟨o, 11, none⟩ = false ∧ W.frozen? ⟨o, 12, none⟩ = false ∧ W.frozen? ⟨o, 13, none⟩ = false) ∧ StepL V T1 S o N s3 ((((W.setCell ⟨o, 11, none⟩ (.bool true)).setCell ⟨o, 12, none⟩ (.int .u64 (beh n s.b : Nat))).setCell ⟨o, 13, none⟩ (.int .i64 0)))) := by
    intro V W hW
    obtain ⟨_, S', hL, _⟩ := id hW
    obtain ⟨_, _, _, _, c4, c5, _, c11, c12, c13⟩ := hL.cells
    rw [show s2.b = s.b by rw [hs2]] at c4
    rw [show s2.c = s.c by rw [hs2]] at c5
    rw [show s2.at_ = s.at_ by rw [hs2]] at c12
    rw [show s2.tr = s.tr by rw [hs2]] at c13
    refine ⟨⟨c4, c5, c11, c12, c13, hL.free 11, hL.free 12, hL.free 13⟩, ?_⟩
    refine hW.trans (fun S1 h1 => ?_)
    have := StepL.al h1 true (beh n s.b) 0
    have hbb : Lk.start s2 n = { s2 with on := true, at_ := beh n s.b, tr := 0 } := by rw [show s.b = s2.b by rw [hs2]]; rfl
    rw [hs3, ← hs2, hbb]
    exact this
  have HENDX : Hid (∀ V W0 : World, Kept S w V → w.heap.size + 2 ≤ V.heap.size → Bxs w m A m.claims.length cap V → ClT V T1 A m.claims cap → StepL V T1 S o N s3 W0 → (Below W0.heap.size W0 W0.drew ∧ W0.drew.cell? ⟨o, 6, none⟩ = some (.int .u32 (sq : Nat)) ∧ W0.drew.heap[w.heap.size]? = some (.cells (msgC m A m.claims.length cap) 37 (0, 0))) ∧
      (∀ W, Below W0.heap.size W0 W → Calls Tryd.prog 43 #[.pointer (some ⟨o, 0, none⟩), .int .u32 (sq : Nat), msgA m A m.claims.length cap] W fun e w' => ∃ A3 cap3, e = .returned (pktA (Lk.mk s3 sq m) A3 m.claims.length cap3) ∧ w'.ownsRow W0.heap.size 138 2 (.slice A3 m.claims.length cap3) m.claims.length (csC m.claims) ∧ Below W0.heap.size W0 w') ∧
      (∀ w13 : World, Below W0.heap.size W0 w13 → (w13.cell? ⟨o, 6, none⟩ = some (.int .u32 (sq : Nat)) ∧ w13.heap[w.heap.size]? = some (.cells (msgC m A m.claims.length cap) 37 (0, 0))) ∧ w13.heap[w.heap.size + 1]? = some (.cells #[.int .i64 0, .int .i64 0, .int .u32 0, .int .u32 0, .int .u32 0, .int .u32 0, .int .i64 0, .int .i64 0, .int .u32 0, .int .u64 0, .int .i64 0, .int .i64 0, .int .i64 0, .int .i64 0, .slice none 0 0] 39 (0, 0)))) := by
    intro V W0 h1 h2 h3 h4 h5
    obtain ⟨k1, S', k2, k3, k4⟩ := id h5
    have hB0 : Bxs w m A m.claims.length cap W0 := h3.kept k1 (fun k hk => .inl (hSw k hk))
    have hc6 : ∀ W, Below W0.heap.size W0 W → W.cell? ⟨o, 6, none⟩ = some (.int .u32 (sq : Nat)) := by
      intro W hW
      obtain ⟨_, _, _, _, _, _, c6, _⟩ := (k2.below hW).cells
      rw [c6, hob3]
    have hd : Below W0.heap.size W0 W0.drew := (Below.refl _ W0).drew
    refine ⟨⟨hd, hc6 _ hd, hB0.1⟩, fun W hW => ?_, fun w13 hW => ⟨⟨hc6 _ hW, (hB0.below hW).1⟩, (hB0.below hW).2⟩⟩
    have hcW : ClT W (fun k => T1 k ∨ S' k) A m.claims cap := (h4.beside k1 (fun k hk => by rw [hT1]; exact .inl (h.st k hk)) k4).below hW
    refine (packet_any (k2.below hW) m hcW hl sq).mono ?_
    rintro e w' ⟨A3, cap3, rfl, e1, e2⟩
    exact ⟨A3, cap3, rfl, rowB e1 hW.size, hW.trans (e2.mono hW.size)⟩
  rw [hmk] at HENDX
  have HLIX : Hid (∀ V W : World, ClT V T1 A m.claims cap → Below V.heap.size V W → Calls Tryd.prog 42 #[msgA m A m.claims.length cap] W fun e w' => ∃ A' cap', e = .returned (msgA m A' m.claims.length cap') ∧ w'.ownsRow V.heap.size 138 2 (.slice A' m.claims.length cap') m.claims.length (csC m.claims) ∧ Below V.heap.size V w') := by
    intro V W hc hW
    refine (mlike_any m (hc.below hW) hl).mono ?_
    rintro e w' ⟨A3, cap3, rfl, e1, e2⟩
    exact ⟨A3, cap3, rfl, rowB e1 hW.size, hW.trans (e2.mono hW.size)⟩
  have HFNX : Hid (∀ (V : World) (v : Value) (E : List En) (mb : Nat), E.map (·.1) = s1.opn → V.heap[o]? = some (.cells (objL s1 v mb) 102 (0, 0)) → OpnAt V T1 v E → ErlAt V T1 mb N s1.erl → S mb → mb ≠ o → (∀ g, v.ownBlock = some g → S g ∧ g ≠ o ∧ g ≠ mb) → (∀ k, T1 k → k < V.heap.size) → ∀ (A2 : Option Addr) (cap2 : Nat) (w7 w9 : World) (g capg : Nat) (X : Obj), Below V.heap.size V w7 → w7.ownsRow V.heap.size 138 2 (.slice A2 m.claims.length cap2) m.claims.length (csC m.claims) → (w7.alloc X).grownBy w9 v.ownBlock → w9.ownsRow 0 37 9 (.slice (some ⟨g, 0, none⟩) (E.length + 1) capg) (E.length + 1) (csM E ++ msC m (.slice A2 m.claims.length cap2)) → (v.ownBlock = some g ∨ g = w7.heap.size + 1) →
      (w9.cell? ⟨o, 7, none⟩ = some v ∧ w9.frozen? ⟨o, 7, none⟩ = false) ∧ StepL V T1 S o N s2 (w9.setCell ⟨o, 7, none⟩ (.slice (some ⟨g, 0, none⟩) (E.length + 1) capg)) ∧ (Bxs w m A m.claims.length cap V → w9.heap[w.heap.size]? = some (.cells (msgC m A m.claims.length cap) 37 (0, 0)) ∧ (w9.setCell ⟨o, 7, none⟩ (.slice (some ⟨g, 0, none⟩) (E.length + 1) capg)).heap[w.heap.size]? = some (.cells (msgC m A m.claims.length cap) 37 (0, 0)))) := by
    intro V v E mb a1 a2 a3 a4 a5 a6 a7 a8 A2 cap2 w7 w9 g capg X b1 b2 b3 b4 b5
    have hst1 : ∀ k, S k → T1 k := fun k hk => by rw [hT1]; exact .inl (h.st k hk)
    have b6 : Below V.heap.size V (w7.alloc X) := b1.alloc b1.size X
    have hcl : ∀ T' : Nat → Prop, (∀ k, T' k → k < V.heap.size) → ClT (w7.alloc X) T' A2 m.claims cap2 := by
      intro T' hT'
      obtain ⟨A', c', e, hh⟩ := row_claims b2
      cases e
      exact (hh T' hT').below ((Below.refl _ w7).alloc (Nat.le_refl _) X)
    have hsz : (w7.alloc X).heap.size = w7.heap.size + 1 := by simp
    obtain ⟨c1, c2⟩ := snoc_fin a1 a2 a3 a4 a5 a6 a7 h.so hst1 a8 m hcl b6 b3 b4 (by rw [hsz]; exact b5)
    have e2 : ({ s1 with opn := s1.opn ++ [m] } : Lk.S) = s2 := by rw [hs1, hs2]
    rw [e2] at c2
    refine ⟨c1, c2, fun hB => ⟨?_, ?_⟩⟩
    · have hgk : Kept (fun k => v.ownBlock = some k) V w9 := (Kept.of_below (X := fun k => v.ownBlock = some k) b6 (Nat.le_refl _)).trans ((Kept.refl (fun k => v.ownBlock = some k) (w7.alloc X)).grown b3 (fun k e => .inl e)) (fun _ _ h => h)
      exact (hB.kept hgk (fun k e => .inl (hSw k (a7 k e).1))).1
    · exact (hB.kept c2.1 (fun k hk => .inl (hSw k hk))).1
  have hol1 : s1.opn.length < 16 := by rw [hs1]; show s.opn.length < 16; omega
  have hso := h.so
  have hst1 : ∀ k, S k → T1 k := fun k hk => by rw [hT1]; exact .inl (h.st k hk)
  have HK := Lib.hid hb
  have hk2 : ((s.kn : Int) == 0) = false := by
    have : ¬ (s.kn : Int) = 0 := by omega
    simpa using this
  have e1 : decide ((16 : Int) ≤ (s.opn.length : Int)) = false := by simp; omega
  have e2 : decide (16 ≤ s.opn.length) = false := by simpa using hr
  have e3 : ((s.sent : Int) == 4294967295) = false := by
    have : ¬ (s.sent : Int) = 4294967295 := by omega
    simpa using this
  clear h hO hT hC hl hg hk hb hkn hr hs hs2 hs3 hs1 hP hT1 hon hob hob3 hmk hst hsq hrl
  generalize s2.on = on2 at *
  generalize s.opn.length = OL at *
  generalize s.sent = SE at *
  generalize s.kn = KN at *
  generalize s.b = qB at *
  generalize s.c = qC at *
  generalize s.at_ = qT at *
  generalize s.tr = qR at *
  generalize beh n qB = qb at *
  obtain ⟨x0, x1, x2, x3, x4, x5, x6, x7, x8⟩ := m
  obtain ⟨a0, a1, a2, _, _, _, _, _, ll, _, _, _, _, _⟩ := s
  simp only [msgA, pktA, msC, msgC] at HCM HBN HENDX HLIX HFNX HP HV ⊢
  generalize csC x8 = ys at *
  generalize x8.length = L at *
  go_enter Tryd.func14, Tryd.ntmps14
  go_wp2_with fail
  obtain ⟨hb0, hx0⟩ := HBN.out _ rfl
  refine (HM.out _ hb0).mono ?_
  rintro e w1 ⟨rfl, hw1⟩
  rw [hw1]
  clear hw1
  have h9 := nine hx0.1
  obtain ⟨⟨y0, y1, y2, y3, y4, y5, y6, y7, y8⟩, _⟩ := h9
  go_wp2_with fail
  refine (HCM.out _ hb0).mono ?_
  rintro e w2 ⟨rfl, hb⟩
  have hb2 : Below w.heap.size w w2 := hb0.trans (hb.mono hb0.size)
  have hx2 := hx0.below hb
  clear hb0 hx0 hb y0 y1 y2 y3 y4 y5 y6 y7 y8 HCM HBN HM
  obtain ⟨⟨y0, _⟩, _⟩ := nine hx2.1
  obtain ⟨⟨c3, c6, f6⟩, Ao, co, c7⟩ := HCL.out _ hb2
  obtain ⟨hV1, hV2, hV3, hV4, hV5⟩ := HV.out _ hb2 hx2
  clear HV HCL hb2 hx2
  go_wp2_with ((with_reducible refine (isBare_any _ _).mono ?_); rintro e w3 ⟨rfl, hw3⟩; rw [hw3, HK.out]; clear hw3)
  obtain ⟨V, hV⟩ : ∃ V, w2.setCell ⟨o, 6, none⟩ (.int .u32 (sq : Nat)) = V := ⟨_, rfl⟩
  rw [hV] at hV1 hV2 hV3 hV4 hV5 ⊢
  clear hV c3 c6 f6 c7 y0
  have HEND := Lib.hid (fun W0 hW0 => HENDX.out V W0 hV1 hV2 hV3 hV5 hW0)
  have HAR := Lib.hid (fun W hW => HARX.out V W hW)
  have HLI := Lib.hid (fun W hW => HLIX.out V W hV5 hW)
  have HBX : Hid (∀ W, Below V.heap.size V W → Below V.heap.size V W ∧ W.heap[w.heap.size]? = some (.cells #[.int .i64 x0, .int .i64 x1, .int .u32 (x2 : Nat), .int .u64 (x3 : Nat), .int .i64 x4, .int .i64 x5, .int .i64 x6, .int .i64 x7, .slice A L cap] 37 (0, 0))) := fun W hW => ⟨hW, (hV3.below hW).1⟩
  have HAL : Hid (∀ (W : World) (X : Obj), Below V.heap.size V W → Below V.heap.size V (W.alloc X)) := fun W X hW => hW.alloc hW.size X
  have HLM : Hid (∀ W : World, W.heap[w.heap.size]? = some (.cells #[.int .i64 x0, .int .i64 x1, .int .u32 (x2 : Nat), .int .u64 (x3 : Nat), .int .i64 x4, .int .i64 x5, .int .i64 x6, .int .i64 x7, .slice A L cap] 37 (0, 0)) → W.cell? ⟨w.heap.size, 0, none⟩ = some (.int .i64 x0) ∧ W.cell? ⟨w.heap.size, 1, none⟩ = some (.int .i64 x1) ∧ W.cell? ⟨w.heap.size, 2, none⟩ = some (.int .u32 (x2 : Nat)) ∧ W.cell? ⟨w.heap.size, 3, none⟩ = some (.int .u64 (x3 : Nat)) ∧ W.cell? ⟨w.heap.size, 4, none⟩ = some (.int .i64 x4) ∧ W.cell? ⟨w.heap.size, 5, none⟩ = some (.int .i64 x5) ∧ W.cell? ⟨w.heap.size, 6, none⟩ = some (.int .i64 x6) ∧ W.cell? ⟨w.heap.size, 7, none⟩ = some (.int .i64 x7) ∧ W.cell? ⟨w.heap.size, 8, none⟩ = some (.slice A L cap)) := fun W hW => (nine hW).1
  have HLS : Hid (∀ W : World, (W.cell? ⟨o, 6, none⟩ = some (.int .u32 (sq : Nat)) ∧ W.heap[w.heap.size]? = some (.cells #[.int .i64 x0, .int .i64 x1, .int .u32 (x2 : Nat), .int .u64 (x3 : Nat), .int .i64 x4, .int .i64 x5, .int .i64 x6, .int .i64 x7, .slice A L cap] 37 (0, 0))) → W.cell? ⟨o, 6, none⟩ = some (.int .u32 (sq : Nat)) ∧ W.cell? ⟨w.heap.size, 0, none⟩ = some (.int .i64 x0) ∧ W.cell? ⟨w.heap.size, 1, none⟩ = some (.int .i64 x1) ∧ W.cell? ⟨w.heap.size, 2, none⟩ = some (.int .u32 (x2 : Nat)) ∧ W.cell? ⟨w.heap.size, 3, none⟩ = some (.int .u64 (x3 : Nat)) ∧ W.cell? ⟨w.heap.size, 4, none⟩ = some (.int .i64 x4) ∧ W.cell? ⟨w.heap.size, 5, none⟩ = some (.int .i64 x5) ∧ W.cell? ⟨w.heap.size, 6, none⟩ = some (.int .i64 x6) ∧ W.cell? ⟨w.heap.size, 7, none⟩ = some (.int .i64 x7) ∧ W.cell? ⟨w.heap.size, 8, none⟩ = some (.slice A L cap)) := fun W hW => ⟨hW.1, (nine hW.2).1⟩
  have HFZ : Hid (∀ (W0 : World), StepL V T1 S o N s3 W0 → ∀ (A3 : Option Addr) (cap3 : Nat) (w13 : World), w13.ownsRow W0.heap.size 138 2 (.slice A3 L cap3) L ys → Below W0.heap.size W0 w13 → (w13.cell? ⟨o, 6, none⟩ = some (.int .u32 (sq : Nat)) ∧ w13.heap[w.heap.size]? = some (.cells #[.int .i64 x0, .int .i64 x1, .int .u32 (x2 : Nat), .int .u64 (x3 : Nat), .int .i64 x4, .int .i64 x5, .int .i64 x6, .int .i64 x7, .slice A L cap] 37 (0, 0))) → w13.heap[w.heap.size + 1]? = some (.cells #[.int .i64 0, .int .i64 0, .int .u32 0, .int .u32 0, .int .u32 0, .int .u32 0, .int .i64 0, .int .i64 0, .int .u32 0, .int .u64 0, .int .i64 0, .int .i64 0, .int .i64 0, .int .i64 0, .slice none 0 0] 39 (0, 0)) →
        ((((((((((((((((w13.setCell ⟨w.heap.size + 1, 0, none⟩ (.int .i64 a0)).setCell ⟨w.heap.size + 1, 1, none⟩ (.int .i64 a1)).setCell ⟨w.heap.size + 1, 2, none⟩ (.int .u32 (a2 : Nat))).setCell ⟨w.heap.size + 1, 3, none⟩ (.int .u32 (KN : Nat))).setCell ⟨w.heap.size + 1, 4, none⟩ (.int .u32 (sq : Nat))).setCell ⟨w.heap.size + 1, 5, none⟩ (.int .u32 (ll : Nat))).setCell ⟨w.heap.size + 1, 6, none⟩ (.int .i64 x0)).setCell ⟨w.heap.size + 1, 7, none⟩ (.int .i64 x1)).setCell ⟨w.heap.size + 1, 8, none⟩ (.int .u32 (x2 : Nat))).setCell ⟨w.heap.size + 1, 9, none⟩ (.int .u64 (x3 : Nat))).setCell ⟨w.heap.size + 1, 10, none⟩ (.int .i64 x4)).setCell ⟨w.heap.size + 1, 11, none⟩ (.int .i64 x5)).setCell ⟨w.heap.size + 1, 12, none⟩ (.int .i64 x6)).setCell ⟨w.heap.size + 1, 13, none⟩ (.int .i64 x7)).setCell ⟨w.heap.size + 1, 14, none⟩ (.slice A3 L cap3)).cell? ⟨o, 6, none⟩ = some (.int .u32 (sq : Nat)) ∧ (((((((((((((((w13.setCell ⟨w.heap.size + 1, 0, none⟩ (.int .i64 a0)).setCell ⟨w.heap.size + 1, 1, none⟩ (.int .i64 a1)).setCell ⟨w.heap.size + 1, 2, none⟩ (.int .u32 (a2 : Nat))).setCell ⟨w.heap.size + 1, 3, none⟩ (.int .u32 (KN : Nat))).setCell ⟨w.heap.size + 1, 4, none⟩ (.int .u32 (sq : Nat))).setCell ⟨w.heap.size + 1, 5, none⟩ (.int .u32 (ll : Nat))).setCell ⟨w.heap.size + 1, 6, none⟩ (.int .i64 x0)).setCell ⟨w.heap.size + 1, 7, none⟩ (.int .i64 x1)).setCell ⟨w.heap.size + 1, 8, none⟩ (.int .u32 (x2 : Nat))).setCell ⟨w.heap.size + 1, 9, none⟩ (.int .u64 (x3 : Nat))).setCell ⟨w.heap.size + 1, 10, none⟩ (.int .i64 x4)).setCell ⟨w.heap.size + 1, 11, none⟩ (.int .i64 x5)).setCell ⟨w.heap.size + 1, 12, none⟩ (.int .i64 x6)).setCell ⟨w.heap.size + 1, 13, none⟩ (.int .i64 x7)).setCell ⟨w.heap.size + 1, 14, none⟩ (.slice A3 L cap3)).heap[w.heap.size]? = some (.cells #[.int .i64 x0, .int .i64 x1, .int .u32 (x2 : Nat), .int .u64 (x3 : Nat), .int .i64 x4, .int .i64 x5, .int .i64 x6, .int .i64 x7, .slice A L cap] 37 (0, 0))) ∧ (((((((((((((((w13.setCell ⟨w.heap.size + 1, 0, none⟩ (.int .i64 a0)).setCell ⟨w.heap.size + 1, 1, none⟩ (.int .i64 a1)).setCell ⟨w.heap.size + 1, 2, none⟩ (.int .u32 (a2 : Nat))).setCell ⟨w.heap.size + 1, 3, none⟩ (.int .u32 (KN : Nat))).setCell ⟨w.heap.size + 1, 4, none⟩ (.int .u32 (sq : Nat))).setCell ⟨w.heap.size + 1, 5, none⟩ (.int .u32 (ll : Nat))).setCell ⟨w.heap.size + 1, 6, none⟩ (.int .i64 x0)).setCell ⟨w.heap.size + 1, 7, none⟩ (.int .i64 x1)).setCell ⟨w.heap.size + 1, 8, none⟩ (.int .u32 (x2 : Nat))).setCell ⟨w.heap.size + 1, 9, none⟩ (.int .u64 (x3 : Nat))).setCell ⟨w.heap.size + 1, 10, none⟩ (.int .i64 x4)).setCell ⟨w.heap.size + 1, 11, none⟩ (.int .i64 x5)).setCell ⟨w.heap.size + 1, 12, none⟩ (.int .i64 x6)).setCell ⟨w.heap.size + 1, 13, none⟩ (.int .i64 x7)).setCell ⟨w.heap.size + 1, 14, none⟩ (.slice A3 L cap3)).heap[w.heap.size + 1]? = some (.cells #[.int .i64 a0, .int .i64 a1, .int .u32 (a2 : Nat), .int .u32 (KN : Nat), .int .u32 (sq : Nat), .int .u32 (ll : Nat), .int .i64 x0, .int .i64 x1, .int .u32 (x2 : Nat), .int .u64 (x3 : Nat), .int .i64 x4, .int .i64 x5, .int .i64 x6, .int .i64 x7, .slice A3 L cap3] 39 (0, 0)) ∧ P (.returned (.tuple #[.agg #[.int .i64 a0, .int .i64 a1, .int .u32 (a2 : Nat), .int .u32 (KN : Nat), .int .u32 (sq : Nat), .int .u32 (ll : Nat), .int .i64 x0, .int .i64 x1, .int .u32 (x2 : Nat), .int .u64 (x3 : Nat), .int .i64 x4, .int .i64 x5, .int .i64 x6, .int .i64 x7, .slice A3 L cap3], .int .i64 0])) (((((((((((((((w13.setCell ⟨w.heap.size + 1, 0, none⟩ (.int .i64 a0)).setCell ⟨w.heap.size + 1, 1, none⟩ (.int .i64 a1)).setCell ⟨w.heap.size + 1, 2, none⟩ (.int .u32 (a2 : Nat))).setCell ⟨w.heap.size + 1, 3, none⟩ (.int .u32 (KN : Nat))).setCell ⟨w.heap.size + 1, 4, none⟩ (.int .u32 (sq : Nat))).setCell ⟨w.heap.size + 1, 5, none⟩ (.int .u32 (ll : Nat))).setCell ⟨w.heap.size + 1, 6, none⟩ (.int .i64 x0)).setCell ⟨w.heap.size + 1, 7, none⟩ (.int .i64 x1)).setCell ⟨w.heap.size + 1, 8, none⟩ (.int .u32 (x2 : Nat))).setCell ⟨w.heap.size + 1, 9, none⟩ (.int .u64 (x3 : Nat))).setCell ⟨w.heap.size + 1, 10, none⟩ (.int .i64 x4)).setCell ⟨w.heap.size + 1, 11, none⟩ (.int .i64 x5)).setCell ⟨w.heap.size + 1, 12, none⟩ (.int .i64 x6)).setCell ⟨w.heap.size + 1, 13, none⟩ (.int .i64 x7)).setCell ⟨w.heap.size + 1, 14, none⟩ (.slice A3 L cap3))) := by
    intro W0 h0 A3 cap3 w13 g1 g2 g3 g4
    obtain ⟨h4, h5⟩ := pk_all g4 (.int .i64 a0) (.int .i64 a1) (.int .u32 (a2 : Nat)) (.int .u32 (KN : Nat)) (.int .u32 (sq : Nat)) (.int .u32 (ll : Nat)) (.int .i64 x0) (.int .i64 x1) (.int .u32 (x2 : Nat)) (.int .u64 (x3 : Nat)) (.int .i64 x4) (.int .i64 x5) (.int .i64 x6) (.int .i64 x7) (.slice A3 L cap3)
    have hf := HP.out V W0 w13 _ A3 cap3 hV1 hV2 h0 g2 g1 h5
    generalize (((((((((((((((w13.setCell ⟨w.heap.size + 1, 0, none⟩ (.int .i64 a0)).setCell ⟨w.heap.size + 1, 1, none⟩ (.int .i64 a1)).setCell ⟨w.heap.size + 1, 2, none⟩ (.int .u32 (a2 : Nat))).setCell ⟨w.heap.size + 1, 3, none⟩ (.int .u32 (KN : Nat))).setCell ⟨w.heap.size + 1, 4, none⟩ (.int .u32 (sq : Nat))).setCell ⟨w.heap.size + 1, 5, none⟩ (.int .u32 (ll : Nat))).setCell ⟨w.heap.size + 1, 6, none⟩ (.int .i64 x0)).setCell ⟨w.heap.size + 1, 7, none⟩ (.int .i64 x1)).setCell ⟨w.heap.size + 1, 8, none⟩ (.int .u32 (x2 : Nat))).setCell ⟨w.heap.size + 1, 9, none⟩ (.int .u64 (x3 : Nat))).setCell ⟨w.heap.size + 1, 10, none⟩ (.int .i64 x4)).setCell ⟨w.heap.size + 1, 11, none⟩ (.int .i64 x5)).setCell ⟨w.heap.size + 1, 12, none⟩ (.int .i64 x6)).setCell ⟨w.heap.size + 1, 13, none⟩ (.int .i64 x7)).setCell ⟨w.heap.size + 1, 14, none⟩ (.slice A3 L cap3)) = WF at *
    have hoo := hSw _ hso
    exact ⟨⟨(h5.cell g3.1 (by show ¬ o = w.heap.size + 1; omega)), (h5.block _ (blk_lt g3.2) (by omega)).trans g3.2⟩, h4, hf⟩
  have hlt1 := hV4.lt
  obtain ⟨⟨v, E, mb, p1, p2, p3, p4, p5, p6, p7⟩, _, _, _⟩ := hV4
  have HFN := Lib.hid (fun A2 cap2 w7 w9 g capg X b1 b2 b3 b4 b5 => have r := HFNX.out V v E mb p1 p2 p3 p4 p5 p6 p7 hlt1 A2 cap2 w7 w9 g capg X b1 b2 b3 b4 b5; And.intro r.1 (And.intro r.2.1 (r.2.2 hV3)))
  have HLD : Hid (∀ W, Below V.heap.size V W → W.cell? ⟨o, 7, none⟩ = some v) := by
    intro W hW
    rw [blk_cell ((hW.block o (hlt1 _ (hst1 _ hso))).trans p2)]; rfl
  have HOW : Hid (∀ W, Below V.heap.size V W → W.ownsRow 0 37 9 v E.length (csM E)) := fun W hW => owns_below p3.row hW (Nat.le_refl _)
  have hNE : E.length < 16 := by have := congrArg List.length p1; simp at this; omega
  have HX : Hid (∀ A2 cap2, ∀ u ∈ ([.int .i64 x0, .int .i64 x1, .int .u32 (x2 : Nat), .int .u64 (x3 : Nat), .int .i64 x4, .int .i64 x5, .int .i64 x6, .int .i64 x7, .slice A2 L cap2] : List Value), u.oneCell' = true) := by
    intro A2 cap2 u hu
    simp at hu
    rcases hu with rfl | rfl | rfl | rfl | rfl | rfl | rfl | rfl | rfl <;> rfl
  have hb0 : Below V.heap.size V V.drew ∧ V.drew.heap[w.heap.size]? = some (.cells #[.int .i64 x0, .int .i64 x1, .int .u32 (x2 : Nat), .int .u64 (x3 : Nat), .int .i64 x4, .int .i64 x5, .int .i64 x6, .int .i64 x7, .slice A L cap] 37 (0, 0)) := ⟨(Below.refl _ V).drew, hV3.1⟩
  clear HFNX HENDX HLIX HARX HP p1 p2 p3 p4 p5 p6 p7 hlt1 hV1 hV2 hV3 hV5 hSw hso hst1
  generalize E.length = NE at *
  generalize csM E = xs at *
  refine wp_region_held_drew (S := fun W => W.heap[w.heap.size]? = some (.cells #[.int .i64 x0, .int .i64 x1, .int .u32 (x2 : Nat), .int .u64 (x3 : Nat), .int .i64 x4, .int .i64 x5, .int .i64 x6, .int .i64 x7, .slice A L cap] 37 (0, 0))) (by kernel_rfl) hb0.2 (fun hHeld => ?_)
  simp only [List.size_toArray, List.length_cons, List.length_nil, Nat.reduceAdd, Array.replicate_succ, Array.replicate_zero, List.push_toArray, List.nil_append, List.cons_append, List.append_toArray]
  refine take_op (i := 0) (v := ?_) rfl (by kernel_rfl) (by kernel_rfl) (by kernel_rfl) (fun _ _ _ h => h) (Or.inl ⟨by rfl, ?_⟩) (by assumption) ?_
  rotate_left
  · (intro w' hSw; (try dsimp only at hSw); go_simp; (try with_reducible rfl))
  simp only [Act.put, List.setIfInBounds_toArray, List.set_cons_zero, List.set_cons_succ]
  refine take_op (i := 1) (v := ?_) rfl (by kernel_rfl) (by kernel_rfl) (by kernel_rfl) (fun _ _ _ h => h) (Or.inl ⟨by rfl, ?_⟩) (by assumption) ?_
  rotate_left
  · (intro w' hSw; (try dsimp only at hSw); go_simp; (try with_reducible rfl))
  simp only [Act.put, List.setIfInBounds_toArray, List.set_cons_zero, List.set_cons_succ]
  refine take_op (i := 2) (v := ?_) rfl (by kernel_rfl) (by kernel_rfl) (by kernel_rfl) (fun _ _ _ h => h) (Or.inl ⟨by rfl, ?_⟩) (by assumption) ?_
  rotate_left
  · (intro w' hSw; (try dsimp only at hSw); go_simp; (try with_reducible rfl))
  simp only [Act.put, List.setIfInBounds_toArray, List.set_cons_zero, List.set_cons_succ]
  refine take_op (i := 3) (v := ?_) rfl (by kernel_rfl) (by kernel_rfl) (by kernel_rfl) (fun _ _ _ h => h) (Or.inl ⟨by rfl, ?_⟩) (by assumption) ?_
  rotate_left
  · (intro w' hSw; (try dsimp only at hSw); go_simp; (try with_reducible rfl))
  simp only [Act.put, List.setIfInBounds_toArray, List.set_cons_zero, List.set_cons_succ]
  refine take_op (i := 4) (v := ?_) rfl (by kernel_rfl) (by kernel_rfl) (by kernel_rfl) (fun _ _ _ h => h) (Or.inl ⟨by rfl, ?_⟩) (by assumption) ?_
  rotate_left
  · (intro w' hSw; (try dsimp only at hSw); go_simp; (try with_reducible rfl))
  simp only [Act.put, List.setIfInBounds_toArray, List.set_cons_zero, List.set_cons_succ]
  refine take_op (i := 6) (v := ?_) rfl (by kernel_rfl) (by kernel_rfl) (by kernel_rfl) (fun _ _ _ h => h) (Or.inl ⟨by rfl, ?_⟩) (by assumption) ?_
  rotate_left
  · (intro w' hSw; obtain ⟨q0, q1, q2, q3, q4, q5, q6, q7, q8⟩ := HLM.out _ hSw; go_simp; (try with_reducible rfl))
  simp only [Act.put, List.setIfInBounds_toArray, List.set_cons_zero, List.set_cons_succ]
  refine wpAnyH_ready (rs := [5, 7]) (by kernel_rfl) (by simp) ?_
  refine cons_op rfl (fun K hK => ?_) (cons_op rfl (fun K hK => ?_) AllReadyH.nil)
  · skip
    have ld7 := HLD.out _ hb0.1
    go_simp
    refine hK.out _ _ hb0.2 (fun hHeld => ?_)
    clear hK K
    (try simp only [Act.put, List.setIfInBounds_toArray, List.set_cons_zero, List.set_cons_succ])
    refine wpAnyH_ready (rs := [7]) (by kernel_rfl) (by simp) ?_
    refine cons_op rfl (fun K hK => ?_) AllReadyH.nil
    go_simp
    refine (HLI.out _ hb0.1).mono ?_
    rintro e w7 ⟨A2, cap2, rfl, hr7, hb7q⟩
    have hb7 := HBX.out _ hb7q
    clear hb7q
    (try go_wp2_with fail)
    refine hK.out _ _ hb7.2 (fun hHeld => ?_)
    clear hK K
    (try simp only [Act.put, List.setIfInBounds_toArray, List.set_cons_zero, List.set_cons_succ])
    refine wpAnyH_ready (rs := [8]) (by kernel_rfl) (by simp) ?_
    refine cons_op rfl (fun K hK => ?_) AllReadyH.nil
    have hb8 := HBX.out _ (HAL.out w7 (.cells #[.int .i64 x0, .int .i64 x1, .int .u32 (x2 : Nat), .int .u64 (x3 : Nat), .int .i64 x4, .int .i64 x5, .int .i64 x6, .int .i64 x7, .slice A2 L cap2] 37) hb7.1)
    go_simp
    refine hK.out _ _ hb8.2 (fun hHeld => ?_)
    clear hK K
    (try simp only [Act.put, List.setIfInBounds_toArray, List.set_cons_zero, List.set_cons_succ])
    refine wpAnyH_ready (rs := [9]) (by kernel_rfl) (by simp) ?_
    refine cons_op rfl (fun K hK => ?_) AllReadyH.nil
    refine step_append_lies _ rfl (.tmp 61) (.tmp 64) 50 rfl 0 37 i0 zeroMsg 9 88 Tryd.underlying50 hi hz0 hz1 hz2 rfl (by decide) v NE xs (by simp [Act.eval]) (HOW.out _ hb8.1) ⟨w7.heap.size, 0, none⟩ 1 1 [.int .i64 x0, .int .i64 x1, .int .u32 (x2 : Nat), .int .u64 (x3 : Nat), .int .i64 x4, .int .i64 x5, .int .i64 x6, .int .i64 x7, .slice A2 L cap2] (by simp [Act.eval]) rfl (new_cells9 _ _ _ _ _ _ _ _ _ _ rfl) (HX.out A2 cap2) (by decide) (by unfold maxLen; omega) (by omega) (by simp) (w7.heap.size + 1) (by simp) ?_
    intro g2 capg w9 ho9 hg9 hat9 _
    obtain ⟨⟨ld9, lf9⟩, hst9, hbx9⟩ := HFN.out _ _ _ _ _ _ _ hb7.1 hr7 hg9 ho9 hat9
    refine hK.out _ _ hbx9.1 (fun hHeld => ?_)
    clear hK K
    (try simp only [Act.put, List.setIfInBounds_toArray, List.set_cons_zero, List.set_cons_succ])
    refine take_op (i := 10) (v := ?_) rfl (by kernel_rfl) (by kernel_rfl) (by kernel_rfl) (fun _ _ _ h => h) (Or.inl ⟨by rfl, ?_⟩) (by assumption) ?_
    rotate_left
    · (intro w' hSw; (try dsimp only at hSw); go_simp; (try with_reducible rfl))
    simp only [Act.put, List.setIfInBounds_toArray, List.set_cons_zero, List.set_cons_succ]
    refine take_op (i := 11) (v := ?_) rfl (by kernel_rfl) (by kernel_rfl) (by kernel_rfl) (fun _ _ _ h => h) (Or.inl ⟨by rfl, ?_⟩) (by assumption) ?_
    rotate_left
    · (intro w' hSw; (try dsimp only at hSw); go_simp; (try with_reducible rfl))
    simp only [Act.put, List.setIfInBounds_toArray, List.set_cons_zero, List.set_cons_succ]
    refine take_op (i := 12) (v := ?_) rfl (by kernel_rfl) (by kernel_rfl) (by kernel_rfl) (fun _ _ _ h => h) (Or.inl ⟨by rfl, ?_⟩) (by assumption) ?_
    rotate_left
    · (intro w' hSw; (try dsimp only at hSw); go_simp; (try with_reducible rfl))
    simp only [Act.put, List.setIfInBounds_toArray, List.set_cons_zero, List.set_cons_succ]
    refine wpAnyH_ready (rs := [13]) (by kernel_rfl) (by simp) ?_
    refine cons_op rfl (fun K hK => ?_) AllReadyH.nil
    go_simp
    refine hK.out _ _ hbx9.2 (fun hHeld => ?_)
    clear hK K
    (try simp only [Act.put, List.setIfInBounds_toArray, List.set_cons_zero, List.set_cons_succ])
    refine wpAnyH_done (by kernel_rfl) ?_ _
    obtain ⟨WA, hWA⟩ : ∃ WA, (w9.setCell ⟨o, 7, none⟩ (.slice (some ⟨g2, 0, none⟩) (NE + 1) capg)) = WA := ⟨_, rfl⟩
    have HSA := Lib.hid hst9
    rw [hWA] at HSA ⊢
    clear hWA hst9 hbx9 ho9 hg9 hat9 ld9 lf9 hb7 hr7 hb8 hb0
    obtain ⟨⟨c4, c5, d11, d12, d13, e11, e12, e13⟩, hal⟩ := HAR.out _ HSA.out
    rw [hon2] at d11
    clear hal
    go_wp2_with fail
    refine (HSTA.out _).mono ?_
    rintro e w11 ⟨rfl, hb11⟩
    clear c4 c5 d11 d12 d13 e11 e12 e13
    have HSB := Lib.hid (HSA.out.post hb11)
    clear hb11 HSA
    obtain ⟨⟨_, _, d11, d12, d13, e11, e12, e13⟩, hal⟩ := HAR.out _ HSB.out
    go_wp2_with fail
    obtain ⟨WB, hWB⟩ : ∃ WB, (((w11.setCell ⟨o, 11, none⟩ (.bool true)).setCell ⟨o, 12, none⟩ (.int .u64 (qb : Nat))).setCell ⟨o, 13, none⟩ (.int .i64 0)) = WB := ⟨_, rfl⟩
    have HSX := Lib.hid hal
    rw [hWB] at HSX ⊢
    clear hWB hal HSB d11 d12 d13 e11 e12 e13
    obtain ⟨hbd, HPK0, HSP0⟩ := HEND.out _ HSX.out
    have HFZ2 := Lib.hid (HFZ.out _ HSX.out)
    have HPK := Lib.hid HPK0
    have HSP := Lib.hid HSP0
    clear HSX HPK0 HSP0 HFZ HEND HAR
    refine wp_region_held_drew (S := fun W => W.cell? ⟨o, 6, none⟩ = some (.int .u32 (sq : Nat)) ∧ W.heap[w.heap.size]? = some (.cells #[.int .i64 x0, .int .i64 x1, .int .u32 (x2 : Nat), .int .u64 (x3 : Nat), .int .i64 x4, .int .i64 x5, .int .i64 x6, .int .i64 x7, .slice A L cap] 37 (0, 0))) (by kernel_rfl) hbd.2 (fun hHeld => ?_)
    simp only [List.size_toArray, List.length_cons, List.length_nil, Nat.reduceAdd, Array.replicate_succ, Array.replicate_zero, List.push_toArray, List.nil_append, List.cons_append, List.append_toArray]
    refine take_op (i := 0) (v := ?_) rfl (by kernel_rfl) (by kernel_rfl) (by kernel_rfl) (fun _ _ _ h => h) (Or.inl ⟨by rfl, ?_⟩) (by assumption) ?_
    rotate_left
    · (intro w' hSw; (try dsimp only at hSw); go_simp; (try with_reducible rfl))
    simp only [Act.put, List.setIfInBounds_toArray, List.set_cons_zero, List.set_cons_succ]
    refine take_op (i := 1) (v := ?_) rfl (by kernel_rfl) (by kernel_rfl) (by kernel_rfl) (fun _ _ _ h => h) (Or.inl ⟨by rfl, ?_⟩) (by assumption) ?_
    rotate_left
    · (intro w' hSw; (try dsimp only at hSw); go_simp; (try with_reducible rfl))
    simp only [Act.put, List.setIfInBounds_toArray, List.set_cons_zero, List.set_cons_succ]
    refine take_op (i := 2) (v := ?_) rfl (by kernel_rfl) (by kernel_rfl) (by kernel_rfl) (fun _ _ _ h => h) (Or.inl ⟨by rfl, ?_⟩) (by assumption) ?_
    rotate_left
    · (intro w' hSw; (try dsimp only at hSw); go_simp; (try with_reducible rfl))
    simp only [Act.put, List.setIfInBounds_toArray, List.set_cons_zero, List.set_cons_succ]
    refine take_op (i := 3) (v := ?_) rfl (by kernel_rfl) (by kernel_rfl) (by kernel_rfl) (fun _ _ _ h => h) (Or.inl ⟨by rfl, ?_⟩) (by assumption) ?_
    rotate_left
    · (intro w' hSw; (try dsimp only at hSw); go_simp; (try with_reducible rfl))
    simp only [Act.put, List.setIfInBounds_toArray, List.set_cons_zero, List.set_cons_succ]
    refine take_op (i := 4) (v := ?_) rfl (by kernel_rfl) (by kernel_rfl) (by kernel_rfl) (fun _ _ _ h => h) (Or.inl ⟨by rfl, ?_⟩) (by assumption) ?_
    rotate_left
    · (intro w' hSw; (try dsimp only at hSw); go_simp; (try with_reducible rfl))
    simp only [Act.put, List.setIfInBounds_toArray, List.set_cons_zero, List.set_cons_succ]
    refine take_op (i := 5) (v := ?_) rfl (by kernel_rfl) (by kernel_rfl) (by kernel_rfl) (fun _ _ _ h => h) (Or.inl ⟨by rfl, ?_⟩) (by assumption) ?_
    rotate_left
    · (intro w' hSw; obtain ⟨q9, q0, q1, q2, q3, q4, q5, q6, q7, q8⟩ := HLS.out _ hSw; go_simp; (try with_reducible rfl))
    simp only [Act.put, List.setIfInBounds_toArray, List.set_cons_zero, List.set_cons_succ]
    refine take_op (i := 6) (v := ?_) rfl (by kernel_rfl) (by kernel_rfl) (by kernel_rfl) (fun _ _ _ h => h) (Or.inl ⟨by rfl, ?_⟩) (by assumption) ?_
    rotate_left
    · (intro w' hSw; obtain ⟨q9, q0, q1, q2, q3, q4, q5, q6, q7, q8⟩ := HLS.out _ hSw; go_simp; (try with_reducible rfl))
    simp only [Act.put, List.setIfInBounds_toArray, List.set_cons_zero, List.set_cons_succ]
    refine wpAnyH_ready (rs := [7]) (by kernel_rfl) (by simp) ?_
    refine cons_op rfl (fun K hK => ?_) AllReadyH.nil
    go_simp
    refine (HPK.out _ hbd.1).mono ?_
    rintro e w13 ⟨A3, cap3, rfl, hr13, hb13⟩
    obtain ⟨hbe, hz13⟩ := HSP.out _ hb13
    (try go_wp2_with fail)
    refine hK.out _ _ hbe (fun hHeld => ?_)
    clear hK K
    (try simp only [Act.put, List.setIfInBounds_toArray, List.set_cons_zero, List.set_cons_succ])
    refine wpAnyH_ready (rs := [8]) (by kernel_rfl) (by simp) ?_
    refine cons_op rfl (fun K hK => ?_) AllReadyH.nil
    obtain ⟨⟨c0, c1, c2, c3, c4, c5, c6, c7, c8, c9, c10, c11, c12, c13, c14⟩, fz⟩ := pk_cells hz13
    have fz0 := fz 0
    have fz1 := fz 1
    have fz2 := fz 2
    have fz3 := fz 3
    have fz4 := fz 4
    have fz5 := fz 5
    have fz6 := fz 6
    have fz7 := fz 7
    have fz8 := fz 8
    have fz9 := fz 9
    have fz10 := fz 10
    have fz11 := fz 11
    have fz12 := fz 12
    have fz13 := fz 13
    have fz14 := fz 14
    clear fz
    have hfin := HFZ2.out _ _ _ hr13 hb13 hbe hz13
    go_simp
    refine hK.out _ _ hfin.1 (fun hHeld => ?_)
    clear hK K
    (try simp only [Act.put, List.setIfInBounds_toArray, List.set_cons_zero, List.set_cons_succ])
    refine take_op (i := 9) (v := ?_) rfl (by kernel_rfl) (by kernel_rfl) (by kernel_rfl) (fun _ _ _ h => h) (Or.inl ⟨by rfl, ?_⟩) (by assumption) ?_
    rotate_left
    · (intro w' hSw; (try dsimp only at hSw); go_simp; (try with_reducible rfl))
    simp only [Act.put, List.setIfInBounds_toArray, List.set_cons_zero, List.set_cons_succ]
    refine wpAnyH_done (by kernel_rfl) ?_ _
    obtain ⟨_, hF1, hF2⟩ := hfin
    obtain ⟨WF, hWF⟩ : ∃ WF, (((((((((((((((w13.setCell ⟨w.heap.size + 1, 0, none⟩ (.int .i64 a0)).setCell ⟨w.heap.size + 1, 1, none⟩ (.int .i64 a1)).setCell ⟨w.heap.size + 1, 2, none⟩ (.int .u32 (a2 : Nat))).setCell ⟨w.heap.size + 1, 3, none⟩ (.int .u32 (KN : Nat))).setCell ⟨w.heap.size + 1, 4, none⟩ (.int .u32 (sq : Nat))).setCell ⟨w.heap.size + 1, 5, none⟩ (.int .u32 (ll : Nat))).setCell ⟨w.heap.size + 1, 6, none⟩ (.int .i64 x0)).setCell ⟨w.heap.size + 1, 7, none⟩ (.int .i64 x1)).setCell ⟨w.heap.size + 1, 8, none⟩ (.int .u32 (x2 : Nat))).setCell ⟨w.heap.size + 1, 9, none⟩ (.int .u64 (x3 : Nat))).setCell ⟨w.heap.size + 1, 10, none⟩ (.int .i64 x4)).setCell ⟨w.heap.size + 1, 11, none⟩ (.int .i64 x5)).setCell ⟨w.heap.size + 1, 12, none⟩ (.int .i64 x6)).setCell ⟨w.heap.size + 1, 13, none⟩ (.int .i64 x7)).setCell ⟨w.heap.size + 1, 14, none⟩ (.slice A3 L cap3)) = WF := ⟨_, rfl⟩
    rw [hWF] at hF1 hF2 ⊢
    clear hWF hr13 hb13 hbe hz13 hbd
    obtain ⟨⟨s0, s1, s2, s3, s4, s5, s6, s7, s8, s9, s10, s11, s12, s13, s14⟩, _⟩ := pk_cells hF1
    have HFF := Lib.hid hF2
    go_wp2
    refine bodyPost_ret (v := .tuple #[.agg #[.int .i64 a0, .int .i64 a1, .int .u32 (a2 : Nat), .int .u32 (KN : Nat), .int .u32 (sq : Nat), .int .u32 (ll : Nat), .int .i64 x0, .int .i64 x1, .int .u32 (x2 : Nat), .int .u64 (x3 : Nat), .int .i64 x4, .int .i64 x5, .int .i64 x6, .int .i64 x7, .slice A3 L cap3], .int .i64 0]) (by simp only [results, Tryd.results14]; simp [go_sem, s0, s1, s2, s3, s4, s5, s6, s7, s8, s9, s10, s11, s12, s13, s14]) rfl HFF.out
  · skip
    go_simp
    refine (HLI.out _ hb0.1).mono ?_
    rintro e w7 ⟨A2, cap2, rfl, hr7, hb7q⟩
    have hb7 := HBX.out _ hb7q
    clear hb7q
    (try go_wp2_with fail)
    refine hK.out _ _ hb7.2 (fun hHeld => ?_)
    clear hK K
    (try simp only [Act.put, List.setIfInBounds_toArray, List.set_cons_zero, List.set_cons_succ])
    refine wpAnyH_ready (rs := [5, 8]) (by kernel_rfl) (by simp) ?_
    refine cons_op rfl (fun K hK => ?_) (cons_op rfl (fun K hK => ?_) AllReadyH.nil)
    · skip
      have ld7 := HLD.out _ hb7.1
      go_simp
      refine hK.out _ _ hb7.2 (fun hHeld => ?_)
      clear hK K
      (try simp only [Act.put, List.setIfInBounds_toArray, List.set_cons_zero, List.set_cons_succ])
      refine wpAnyH_ready (rs := [8]) (by kernel_rfl) (by simp) ?_
      refine cons_op rfl (fun K hK => ?_) AllReadyH.nil
      have hb8 := HBX.out _ (HAL.out w7 (.cells #[.int .i64 x0, .int .i64 x1, .int .u32 (x2 : Nat), .int .u64 (x3 : Nat), .int .i64 x4, .int .i64 x5, .int .i64 x6, .int .i64 x7, .slice A2 L cap2] 37) hb7.1)
      go_simp
      refine hK.out _ _ hb8.2 (fun hHeld => ?_)
      clear hK K
      (try simp only [Act.put, List.setIfInBounds_toArray, List.set_cons_zero, List.set_cons_succ])
      refine wpAnyH_ready (rs := [9]) (by kernel_rfl) (by simp) ?_
      refine cons_op rfl (fun K hK => ?_) AllReadyH.nil
      refine step_append_lies _ rfl (.tmp 61) (.tmp 64) 50 rfl 0 37 i0 zeroMsg 9 88 Tryd.underlying50 hi hz0 hz1 hz2 rfl (by decide) v NE xs (by simp [Act.eval]) (HOW.out _ hb8.1) ⟨w7.heap.size, 0, none⟩ 1 1 [.int .i64 x0, .int .i64 x1, .int .u32 (x2 : Nat), .int .u64 (x3 : Nat), .int .i64 x4, .int .i64 x5, .int .i64 x6, .int .i64 x7, .slice A2 L cap2] (by simp [Act.eval]) rfl (new_cells9 _ _ _ _ _ _ _ _ _ _ rfl) (HX.out A2 cap2) (by decide) (by unfold maxLen; omega) (by omega) (by simp) (w7.heap.size + 1) (by simp) ?_
      intro g2 capg w9 ho9 hg9 hat9 _
      obtain ⟨⟨ld9, lf9⟩, hst9, hbx9⟩ := HFN.out _ _ _ _ _ _ _ hb7.1 hr7 hg9 ho9 hat9
      refine hK.out _ _ hbx9.1 (fun hHeld => ?_)
      clear hK K
      (try simp only [Act.put, List.setIfInBounds_toArray, List.set_cons_zero, List.set_cons_succ])
      refine take_op (i := 10) (v := ?_) rfl (by kernel_rfl) (by kernel_rfl) (by kernel_rfl) (fun _ _ _ h => h) (Or.inl ⟨by rfl, ?_⟩) (by assumption) ?_
      rotate_left
      · (intro w' hSw; (try dsimp only at hSw); go_simp; (try with_reducible rfl))
      simp only [Act.put, List.setIfInBounds_toArray, List.set_cons_zero, List.set_cons_succ]
      refine take_op (i := 11) (v := ?_) rfl (by kernel_rfl) (by kernel_rfl) (by kernel_rfl) (fun _ _ _ h => h) (Or.inl ⟨by rfl, ?_⟩) (by assumption) ?_
      rotate_left
      · (intro w' hSw; (try dsimp only at hSw); go_simp; (try with_reducible rfl))
      simp only [Act.put, List.setIfInBounds_toArray, List.set_cons_zero, List.set_cons_succ]
      refine take_op (i := 12) (v := ?_) rfl (by kernel_rfl) (by kernel_rfl) (by kernel_rfl) (fun _ _ _ h => h) (Or.inl ⟨by rfl, ?_⟩) (by assumption) ?_
      rotate_left
      · (intro w' hSw; (try dsimp only at hSw); go_simp; (try with_reducible rfl))
      simp only [Act.put, List.setIfInBounds_toArray, List.set_cons_zero, List.set_cons_succ]
      refine wpAnyH_ready (rs := [13]) (by kernel_rfl) (by simp) ?_
      refine cons_op rfl (fun K hK => ?_) AllReadyH.nil
      go_simp
      refine hK.out _ _ hbx9.2 (fun hHeld => ?_)
      clear hK K
      (try simp only [Act.put, List.setIfInBounds_toArray, List.set_cons_zero, List.set_cons_succ])
      refine wpAnyH_done (by kernel_rfl) ?_ _
      obtain ⟨WA, hWA⟩ : ∃ WA, (w9.setCell ⟨o, 7, none⟩ (.slice (some ⟨g2, 0, none⟩) (NE + 1) capg)) = WA := ⟨_, rfl⟩
      have HSA := Lib.hid hst9
      rw [hWA] at HSA ⊢
      clear hWA hst9 hbx9 ho9 hg9 hat9 ld9 lf9 hb7 hr7 hb8 hb0
      obtain ⟨⟨c4, c5, d11, d12, d13, e11, e12, e13⟩, hal⟩ := HAR.out _ HSA.out
      rw [hon2] at d11
      clear hal
      go_wp2_with fail
      refine (HSTA.out _).mono ?_
      rintro e w11 ⟨rfl, hb11⟩
      clear c4 c5 d11 d12 d13 e11 e12 e13
      have HSB := Lib.hid (HSA.out.post hb11)
      clear hb11 HSA
      obtain ⟨⟨_, _, d11, d12, d13, e11, e12, e13⟩, hal⟩ := HAR.out _ HSB.out
      go_wp2_with fail
      obtain ⟨WB, hWB⟩ : ∃ WB, (((w11.setCell ⟨o, 11, none⟩ (.bool true)).setCell ⟨o, 12, none⟩ (.int .u64 (qb : Nat))).setCell ⟨o, 13, none⟩ (.int .i64 0)) = WB := ⟨_, rfl⟩
      have HSX := Lib.hid hal
      rw [hWB] at HSX ⊢
      clear hWB hal HSB d11 d12 d13 e11 e12 e13
      obtain ⟨hbd, HPK0, HSP0⟩ := HEND.out _ HSX.out
      have HFZ2 := Lib.hid (HFZ.out _ HSX.out)
      have HPK := Lib.hid HPK0
      have HSP := Lib.hid HSP0
      clear HSX HPK0 HSP0 HFZ HEND HAR
      refine wp_region_held_drew (S := fun W => W.cell? ⟨o, 6, none⟩ = some (.int .u32 (sq : Nat)) ∧ W.heap[w.heap.size]? = some (.cells #[.int .i64 x0, .int .i64 x1, .int .u32 (x2 : Nat), .int .u64 (x3 : Nat), .int .i64 x4, .int .i64 x5, .int .i64 x6, .int .i64 x7, .slice A L cap] 37 (0, 0))) (by kernel_rfl) hbd.2 (fun hHeld => ?_)
      simp only [List.size_toArray, List.length_cons, List.length_nil, Nat.reduceAdd, Array.replicate_succ, Array.replicate_zero, List.push_toArray, List.nil_append, List.cons_append, List.append_toArray]
      refine take_op (i := 0) (v := ?_) rfl (by kernel_rfl) (by kernel_rfl) (by kernel_rfl) (fun _ _ _ h => h) (Or.inl ⟨by rfl, ?_⟩) (by assumption) ?_
      rotate_left
      · (intro w' hSw; (try dsimp only at hSw); go_simp; (try with_reducible rfl))
      simp only [Act.put, List.setIfInBounds_toArray, List.set_cons_zero, List.set_cons_succ]
      refine take_op (i := 1) (v := ?_) rfl (by kernel_rfl) (by kernel_rfl) (by kernel_rfl) (fun _ _ _ h => h) (Or.inl ⟨by rfl, ?_⟩) (by assumption) ?_
      rotate_left
      · (intro w' hSw; (try dsimp only at hSw); go_simp; (try with_reducible rfl))
      simp only [Act.put, List.setIfInBounds_toArray, List.set_cons_zero, List.set_cons_succ]
      refine take_op (i := 2) (v := ?_) rfl (by kernel_rfl) (by kernel_rfl) (by kernel_rfl) (fun _ _ _ h => h) (Or.inl ⟨by rfl, ?_⟩) (by assumption) ?_
      rotate_left
      · (intro w' hSw; (try dsimp only at hSw); go_simp; (try with_reducible rfl))
      simp only [Act.put, List.setIfInBounds_toArray, List.set_cons_zero, List.set_cons_succ]
      refine take_op (i := 3) (v := ?_) rfl (by kernel_rfl) (by kernel_rfl) (by kernel_rfl) (fun _ _ _ h => h) (Or.inl ⟨by rfl, ?_⟩) (by assumption) ?_
      rotate_left
      · (intro w' hSw; (try dsimp only at hSw); go_simp; (try with_reducible rfl))
      simp only [Act.put, List.setIfInBounds_toArray, List.set_cons_zero, List.set_cons_succ]
      refine take_op (i := 4) (v := ?_) rfl (by kernel_rfl) (by kernel_rfl) (by kernel_rfl) (fun _ _ _ h => h) (Or.inl ⟨by rfl, ?_⟩) (by assumption) ?_
      rotate_left
      · (intro w' hSw; (try dsimp only at hSw); go_simp; (try with_reducible rfl))
      simp only [Act.put, List.setIfInBounds_toArray, List.set_cons_zero, List.set_cons_succ]
      refine take_op (i := 5) (v := ?_) rfl (by kernel_rfl) (by kernel_rfl) (by kernel_rfl) (fun _ _ _ h => h) (Or.inl ⟨by rfl, ?_⟩) (by assumption) ?_
      rotate_left
      · (intro w' hSw; obtain ⟨q9, q0, q1, q2, q3, q4, q5, q6, q7, q8⟩ := HLS.out _ hSw; go_simp; (try with_reducible rfl))
      simp only [Act.put, List.setIfInBounds_toArray, List.set_cons_zero, List.set_cons_succ]
      refine take_op (i := 6) (v := ?_) rfl (by kernel_rfl) (by kernel_rfl) (by kernel_rfl) (fun _ _ _ h => h) (Or.inl ⟨by rfl, ?_⟩) (by assumption) ?_
      rotate_left
      · (intro w' hSw; obtain ⟨q9, q0, q1, q2, q3, q4, q5, q6, q7, q8⟩ := HLS.out _ hSw; go_simp; (try with_reducible rfl))
      simp only [Act.put, List.setIfInBounds_toArray, List.set_cons_zero, List.set_cons_succ]
      refine wpAnyH_ready (rs := [7]) (by kernel_rfl) (by simp) ?_
      refine cons_op rfl (fun K hK => ?_) AllReadyH.nil
      go_simp
      refine (HPK.out _ hbd.1).mono ?_
      rintro e w13 ⟨A3, cap3, rfl, hr13, hb13⟩
      obtain ⟨hbe, hz13⟩ := HSP.out _ hb13
      (try go_wp2_with fail)
      refine hK.out _ _ hbe (fun hHeld => ?_)
      clear hK K
      (try simp only [Act.put, List.setIfInBounds_toArray, List.set_cons_zero, List.set_cons_succ])
      refine wpAnyH_ready (rs := [8]) (by kernel_rfl) (by simp) ?_
      refine cons_op rfl (fun K hK => ?_) AllReadyH.nil
      obtain ⟨⟨c0, c1, c2, c3, c4, c5, c6, c7, c8, c9, c10, c11, c12, c13, c14⟩, fz⟩ := pk_cells hz13
      have fz0 := fz 0
      have fz1 := fz 1
      have fz2 := fz 2
      have fz3 := fz 3
      have fz4 := fz 4
      have fz5 := fz 5
      have fz6 := fz 6
      have fz7 := fz 7
      have fz8 := fz 8
      have fz9 := fz 9
      have fz10 := fz 10
      have fz11 := fz 11
      have fz12 := fz 12
      have fz13 := fz 13
      have fz14 := fz 14
      clear fz
      have hfin := HFZ2.out _ _ _ hr13 hb13 hbe hz13
      go_simp
      refine hK.out _ _ hfin.1 (fun hHeld => ?_)
      clear hK K
      (try simp only [Act.put, List.setIfInBounds_toArray, List.set_cons_zero, List.set_cons_succ])
      refine take_op (i := 9) (v := ?_) rfl (by kernel_rfl) (by kernel_rfl) (by kernel_rfl) (fun _ _ _ h => h) (Or.inl ⟨by rfl, ?_⟩) (by assumption) ?_
      rotate_left
      · (intro w' hSw; (try dsimp only at hSw); go_simp; (try with_reducible rfl))
      simp only [Act.put, List.setIfInBounds_toArray, List.set_cons_zero, List.set_cons_succ]
      refine wpAnyH_done (by kernel_rfl) ?_ _
      obtain ⟨_, hF1, hF2⟩ := hfin
      obtain ⟨WF, hWF⟩ : ∃ WF, (((((((((((((((w13.setCell ⟨w.heap.size + 1, 0, none⟩ (.int .i64 a0)).setCell ⟨w.heap.size + 1, 1, none⟩ (.int .i64 a1)).setCell ⟨w.heap.size + 1, 2, none⟩ (.int .u32 (a2 : Nat))).setCell ⟨w.heap.size + 1, 3, none⟩ (.int .u32 (KN : Nat))).setCell ⟨w.heap.size + 1, 4, none⟩ (.int .u32 (sq : Nat))).setCell ⟨w.heap.size + 1, 5, none⟩ (.int .u32 (ll : Nat))).setCell ⟨w.heap.size + 1, 6, none⟩ (.int .i64 x0)).setCell ⟨w.heap.size + 1, 7, none⟩ (.int .i64 x1)).setCell ⟨w.heap.size + 1, 8, none⟩ (.int .u32 (x2 : Nat))).setCell ⟨w.heap.size + 1, 9, none⟩ (.int .u64 (x3 : Nat))).setCell ⟨w.heap.size + 1, 10, none⟩ (.int .i64 x4)).setCell ⟨w.heap.size + 1, 11, none⟩ (.int .i64 x5)).setCell ⟨w.heap.size + 1, 12, none⟩ (.int .i64 x6)).setCell ⟨w.heap.size + 1, 13, none⟩ (.int .i64 x7)).setCell ⟨w.heap.size + 1, 14, none⟩ (.slice A3 L cap3)) = WF := ⟨_, rfl⟩
      rw [hWF] at hF1 hF2 ⊢
      clear hWF hr13 hb13 hbe hz13 hbd
      obtain ⟨⟨s0, s1, s2, s3, s4, s5, s6, s7, s8, s9, s10, s11, s12, s13, s14⟩, _⟩ := pk_cells hF1
      have HFF := Lib.hid hF2
      go_wp2
      refine bodyPost_ret (v := .tuple #[.agg #[.int .i64 a0, .int .i64 a1, .int .u32 (a2 : Nat), .int .u32 (KN : Nat), .int .u32 (sq : Nat), .int .u32 (ll : Nat), .int .i64 x0, .int .i64 x1, .int .u32 (x2 : Nat), .int .u64 (x3 : Nat), .int .i64 x4, .int .i64 x5, .int .i64 x6, .int .i64 x7, .slice A3 L cap3], .int .i64 0]) (by simp only [results, Tryd.results14]; simp [go_sem, s0, s1, s2, s3, s4, s5, s6, s7, s8, s9, s10, s11, s12, s13, s14]) rfl HFF.out
    · skip
      have hb8 := HBX.out _ (HAL.out w7 (.cells #[.int .i64 x0, .int .i64 x1, .int .u32 (x2 : Nat), .int .u64 (x3 : Nat), .int .i64 x4, .int .i64 x5, .int .i64 x6, .int .i64 x7, .slice A2 L cap2] 37) hb7.1)
      go_simp
      refine hK.out _ _ hb8.2 (fun hHeld => ?_)
      clear hK K
      (try simp only [Act.put, List.setIfInBounds_toArray, List.set_cons_zero, List.set_cons_succ])
      refine wpAnyH_ready (rs := [5]) (by kernel_rfl) (by simp) ?_
      refine cons_op rfl (fun K hK => ?_) AllReadyH.nil
      have ld7 := HLD.out _ hb8.1
      go_simp
      refine hK.out _ _ hb8.2 (fun hHeld => ?_)
      clear hK K
      (try simp only [Act.put, List.setIfInBounds_toArray, List.set_cons_zero, List.set_cons_succ])
      refine wpAnyH_ready (rs := [9]) (by kernel_rfl) (by simp) ?_
      refine cons_op rfl (fun K hK => ?_) AllReadyH.nil
      refine step_append_lies _ rfl (.tmp 61) (.tmp 64) 50 rfl 0 37 i0 zeroMsg 9 88 Tryd.underlying50 hi hz0 hz1 hz2 rfl (by decide) v NE xs (by simp [Act.eval]) (HOW.out _ hb8.1) ⟨w7.heap.size, 0, none⟩ 1 1 [.int .i64 x0, .int .i64 x1, .int .u32 (x2 : Nat), .int .u64 (x3 : Nat), .int .i64 x4, .int .i64 x5, .int .i64 x6, .int .i64 x7, .slice A2 L cap2] (by simp [Act.eval]) rfl (new_cells9 _ _ _ _ _ _ _ _ _ _ rfl) (HX.out A2 cap2) (by decide) (by unfold maxLen; omega) (by omega) (by simp) (w7.heap.size + 1) (by simp) ?_
      intro g2 capg w9 ho9 hg9 hat9 _
      obtain ⟨⟨ld9, lf9⟩, hst9, hbx9⟩ := HFN.out _ _ _ _ _ _ _ hb7.1 hr7 hg9 ho9 hat9
      refine hK.out _ _ hbx9.1 (fun hHeld => ?_)
      clear hK K
      (try simp only [Act.put, List.setIfInBounds_toArray, List.set_cons_zero, List.set_cons_succ])
      refine take_op (i := 10) (v := ?_) rfl (by kernel_rfl) (by kernel_rfl) (by kernel_rfl) (fun _ _ _ h => h) (Or.inl ⟨by rfl, ?_⟩) (by assumption) ?_
      rotate_left
      · (intro w' hSw; (try dsimp only at hSw); go_simp; (try with_reducible rfl))
      simp only [Act.put, List.setIfInBounds_toArray, List.set_cons_zero, List.set_cons_succ]
      refine take_op (i := 11) (v := ?_) rfl (by kernel_rfl) (by kernel_rfl) (by kernel_rfl) (fun _ _ _ h => h) (Or.inl ⟨by rfl, ?_⟩) (by assumption) ?_
      rotate_left
      · (intro w' hSw; (try dsimp only at hSw); go_simp; (try with_reducible rfl))
      simp only [Act.put, List.setIfInBounds_toArray, List.set_cons_zero, List.set_cons_succ]
      refine take_op (i := 12) (v := ?_) rfl (by kernel_rfl) (by kernel_rfl) (by kernel_rfl) (fun _ _ _ h => h) (Or.inl ⟨by rfl, ?_⟩) (by assumption) ?_
      rotate_left
      · (intro w' hSw; (try dsimp only at hSw); go_simp; (try with_reducible rfl))
      simp only [Act.put, List.setIfInBounds_toArray, List.set_cons_zero, List.set_cons_succ]
      refine wpAnyH_ready (rs := [13]) (by kernel_rfl) (by simp) ?_
      refine cons_op rfl (fun K hK => ?_) AllReadyH.nil
      go_simp
      refine hK.out _ _ hbx9.2 (fun hHeld => ?_)
      clear hK K
      (try simp only [Act.put, List.setIfInBounds_toArray, List.set_cons_zero, List.set_cons_succ])
      refine wpAnyH_done (by kernel_rfl) ?_ _
      obtain ⟨WA, hWA⟩ : ∃ WA, (w9.setCell ⟨o, 7, none⟩ (.slice (some ⟨g2, 0, none⟩) (NE + 1) capg)) = WA := ⟨_, rfl⟩
      have HSA := Lib.hid hst9
      rw [hWA] at HSA ⊢
      clear hWA hst9 hbx9 ho9 hg9 hat9 ld9 lf9 hb7 hr7 hb8 hb0
      obtain ⟨⟨c4, c5, d11, d12, d13, e11, e12, e13⟩, hal⟩ := HAR.out _ HSA.out
      rw [hon2] at d11
      clear hal
      go_wp2_with fail
      refine (HSTA.out _).mono ?_
      rintro e w11 ⟨rfl, hb11⟩
      clear c4 c5 d11 d12 d13 e11 e12 e13
      have HSB := Lib.hid (HSA.out.post hb11)
      clear hb11 HSA
      obtain ⟨⟨_, _, d11, d12, d13, e11, e12, e13⟩, hal⟩ := HAR.out _ HSB.out
      go_wp2_with fail
      obtain ⟨WB, hWB⟩ : ∃ WB, (((w11.setCell ⟨o, 11, none⟩ (.bool true)).setCell ⟨o, 12, none⟩ (.int .u64 (qb : Nat))).setCell ⟨o, 13, none⟩ (.int .i64 0)) = WB := ⟨_, rfl⟩
      have HSX := Lib.hid hal
      rw [hWB] at HSX ⊢
      clear hWB hal HSB d11 d12 d13 e11 e12 e13
      obtain ⟨hbd, HPK0, HSP0⟩ := HEND.out _ HSX.out
      have HFZ2 := Lib.hid (HFZ.out _ HSX.out)
      have HPK := Lib.hid HPK0
      have HSP := Lib.hid HSP0
      clear HSX HPK0 HSP0 HFZ HEND HAR
      refine wp_region_held_drew (S := fun W => W.cell? ⟨o, 6, none⟩ = some (.int .u32 (sq : Nat)) ∧ W.heap[w.heap.size]? = some (.cells #[.int .i64 x0, .int .i64 x1, .int .u32 (x2 : Nat), .int .u64 (x3 : Nat), .int .i64 x4, .int .i64 x5, .int .i64 x6, .int .i64 x7, .slice A L cap] 37 (0, 0))) (by kernel_rfl) hbd.2 (fun hHeld => ?_)
      simp only [List.size_toArray, List.length_cons, List.length_nil, Nat.reduceAdd, Array.replicate_succ, Array.replicate_zero, List.push_toArray, List.nil_append, List.cons_append, List.append_toArray]
      refine take_op (i := 0) (v := ?_) rfl (by kernel_rfl) (by kernel_rfl) (by kernel_rfl) (fun _ _ _ h => h) (Or.inl ⟨by rfl, ?_⟩) (by assumption) ?_
      rotate_left
      · (intro w' hSw; (try dsimp only at hSw); go_simp; (try with_reducible rfl))
      simp only [Act.put, List.setIfInBounds_toArray, List.set_cons_zero, List.set_cons_succ]
      refine take_op (i := 1) (v := ?_) rfl (by kernel_rfl) (by kernel_rfl) (by kernel_rfl) (fun _ _ _ h => h) (Or.inl ⟨by rfl, ?_⟩) (by assumption) ?_
      rotate_left
      · (intro w' hSw; (try dsimp only at hSw); go_simp; (try with_reducible rfl))
      simp only [Act.put, List.setIfInBounds_toArray, List.set_cons_zero, List.set_cons_succ]
      refine take_op (i := 2) (v := ?_) rfl (by kernel_rfl) (by kernel_rfl) (by kernel_rfl) (fun _ _ _ h => h) (Or.inl ⟨by rfl, ?_⟩) (by assumption) ?_
      rotate_left
      · (intro w' hSw; (try dsimp only at hSw); go_simp; (try with_reducible rfl))
      simp only [Act.put, List.setIfInBounds_toArray, List.set_cons_zero, List.set_cons_succ]
      refine take_op (i := 3) (v := ?_) rfl (by kernel_rfl) (by kernel_rfl) (by kernel_rfl) (fun _ _ _ h => h) (Or.inl ⟨by rfl, ?_⟩) (by assumption) ?_
      rotate_left
      · (intro w' hSw; (try dsimp only at hSw); go_simp; (try with_reducible rfl))
      simp only [Act.put, List.setIfInBounds_toArray, List.set_cons_zero, List.set_cons_succ]
      refine take_op (i := 4) (v := ?_) rfl (by kernel_rfl) (by kernel_rfl) (by kernel_rfl) (fun _ _ _ h => h) (Or.inl ⟨by rfl, ?_⟩) (by assumption) ?_
      rotate_left
      · (intro w' hSw; (try dsimp only at hSw); go_simp; (try with_reducible rfl))
      simp only [Act.put, List.setIfInBounds_toArray, List.set_cons_zero, List.set_cons_succ]
      refine take_op (i := 5) (v := ?_) rfl (by kernel_rfl) (by kernel_rfl) (by kernel_rfl) (fun _ _ _ h => h) (Or.inl ⟨by rfl, ?_⟩) (by assumption) ?_
      rotate_left
      · (intro w' hSw; obtain ⟨q9, q0, q1, q2, q3, q4, q5, q6, q7, q8⟩ := HLS.out _ hSw; go_simp; (try with_reducible rfl))
      simp only [Act.put, List.setIfInBounds_toArray, List.set_cons_zero, List.set_cons_succ]
      refine take_op (i := 6) (v := ?_) rfl (by kernel_rfl) (by kernel_rfl) (by kernel_rfl) (fun _ _ _ h => h) (Or.inl ⟨by rfl, ?_⟩) (by assumption) ?_
      rotate_left
      · (intro w' hSw; obtain ⟨q9, q0, q1, q2, q3, q4, q5, q6, q7, q8⟩ := HLS.out _ hSw; go_simp; (try with_reducible rfl))
      simp only [Act.put, List.setIfInBounds_toArray, List.set_cons_zero, List.set_cons_succ]
      refine wpAnyH_ready (rs := [7]) (by kernel_rfl) (by simp) ?_
      refine cons_op rfl (fun K hK => ?_) AllReadyH.nil
      go_simp
      refine (HPK.out _ hbd.1).mono ?_
      rintro e w13 ⟨A3, cap3, rfl, hr13, hb13⟩
      obtain ⟨hbe, hz13⟩ := HSP.out _ hb13
      (try go_wp2_with fail)
      refine hK.out _ _ hbe (fun hHeld => ?_)
      clear hK K
      (try simp only [Act.put, List.setIfInBounds_toArray, List.set_cons_zero, List.set_cons_succ])
      refine wpAnyH_ready (rs := [8]) (by kernel_rfl) (by simp) ?_
      refine cons_op rfl (fun K hK => ?_) AllReadyH.nil
      obtain ⟨⟨c0, c1, c2, c3, c4, c5, c6, c7, c8, c9, c10, c11, c12, c13, c14⟩, fz⟩ := pk_cells hz13
      have fz0 := fz 0
      have fz1 := fz 1
      have fz2 := fz 2
      have fz3 := fz 3
      have fz4 := fz 4
      have fz5 := fz 5
      have fz6 := fz 6
      have fz7 := fz 7
      have fz8 := fz 8
      have fz9 := fz 9
      have fz10 := fz 10
      have fz11 := fz 11
      have fz12 := fz 12
      have fz13 := fz 13
      have fz14 := fz 14
      clear fz
      have hfin := HFZ2.out _ _ _ hr13 hb13 hbe hz13
      go_simp
      refine hK.out _ _ hfin.1 (fun hHeld => ?_)
      clear hK K
      (try simp only [Act.put, List.setIfInBounds_toArray, List.set_cons_zero, List.set_cons_succ])
      refine take_op (i := 9) (v := ?_) rfl (by kernel_rfl) (by kernel_rfl) (by kernel_rfl) (fun _ _ _ h => h) (Or.inl ⟨by rfl, ?_⟩) (by assumption) ?_
      rotate_left
      · (intro w' hSw; (try dsimp only at hSw); go_simp; (try with_reducible rfl))
      simp only [Act.put, List.setIfInBounds_toArray, List.set_cons_zero, List.set_cons_succ]
      refine wpAnyH_done (by kernel_rfl) ?_ _
      obtain ⟨_, hF1, hF2⟩ := hfin
      obtain ⟨WF, hWF⟩ : ∃ WF, (((((((((((((((w13.setCell ⟨w.heap.size + 1, 0, none⟩ (.int .i64 a0)).setCell ⟨w.heap.size + 1, 1, none⟩ (.int .i64 a1)).setCell ⟨w.heap.size + 1, 2, none⟩ (.int .u32 (a2 : Nat))).setCell ⟨w.heap.size + 1, 3, none⟩ (.int .u32 (KN : Nat))).setCell ⟨w.heap.size + 1, 4, none⟩ (.int .u32 (sq : Nat))).setCell ⟨w.heap.size + 1, 5, none⟩ (.int .u32 (ll : Nat))).setCell ⟨w.heap.size + 1, 6, none⟩ (.int .i64 x0)).setCell ⟨w.heap.size + 1, 7, none⟩ (.int .i64 x1)).setCell ⟨w.heap.size + 1, 8, none⟩ (.int .u32 (x2 : Nat))).setCell ⟨w.heap.size + 1, 9, none⟩ (.int .u64 (x3 : Nat))).setCell ⟨w.heap.size + 1, 10, none⟩ (.int .i64 x4)).setCell ⟨w.heap.size + 1, 11, none⟩ (.int .i64 x5)).setCell ⟨w.heap.size + 1, 12, none⟩ (.int .i64 x6)).setCell ⟨w.heap.size + 1, 13, none⟩ (.int .i64 x7)).setCell ⟨w.heap.size + 1, 14, none⟩ (.slice A3 L cap3)) = WF := ⟨_, rfl⟩
      rw [hWF] at hF1 hF2 ⊢
      clear hWF hr13 hb13 hbe hz13 hbd
      obtain ⟨⟨s0, s1, s2, s3, s4, s5, s6, s7, s8, s9, s10, s11, s12, s13, s14⟩, _⟩ := pk_cells hF1
      have HFF := Lib.hid hF2
      go_wp2
      refine bodyPost_ret (v := .tuple #[.agg #[.int .i64 a0, .int .i64 a1, .int .u32 (a2 : Nat), .int .u32 (KN : Nat), .int .u32 (sq : Nat), .int .u32 (ll : Nat), .int .i64 x0, .int .i64 x1, .int .u32 (x2 : Nat), .int .u64 (x3 : Nat), .int .i64 x4, .int .i64 x5, .int .i64 x6, .int .i64 x7, .slice A3 L cap3], .int .i64 0]) (by simp only [results, Tryd.results14]; simp [go_sem, s0, s1, s2, s3, s4, s5, s6, s7, s8, s9, s10, s11, s12, s13, s14]) rfl HFF.out
end Go.Proofs.YtfgajjfcjlejmaaDoor
