/-
  A message more is not acknowledged; what Send refuses.
-/
import Derived.Test.YtfgajjfcjlejmaaDoorLk6
namespace Go.Proofs.YtfgajjfcjlejmaaDoor
set_option maxRecDepth 100000
set_option linter.unusedSimpArgs false
open Go Go.RowKit Wr
attribute [local go_sem] Oper.semAt_some

/-- One more at the list's end. -/
theorem snoc_fin {V W8 w9 : World} {T S : Nat → Prop} {o N : Nat} {s : Lk.S} {v : Value} {E : List En} {mb : Nat} (hE : E.map (·.1) = s.opn) (ho : V.heap[o]? = some (.cells (objL s v mb) 102 (0, 0))) (hop : OpnAt V T v E) (her : ErlAt V T mb N s.erl) (hmb : S mb) (hmo : mb ≠ o) (hv : ∀ g, v.ownBlock = some g → S g ∧ g ≠ o ∧ g ≠ mb)
    (hso : S o) (hst : ∀ k, S k → T k) (hlt : ∀ k, T k → k < V.heap.size) (m : Msg) {A : Option Addr} {cap : Nat} (hcl : ∀ T' : Nat → Prop, (∀ k, T' k → k < V.heap.size) → ClT W8 T' A m.claims cap) (hb : Below V.heap.size V W8) {g cap2 : Nat} (hg : W8.grownBy w9 v.ownBlock)
    (hrow : w9.ownsRow 0 37 9 (.slice (some ⟨g, 0, none⟩) (E.length + 1) cap2) (E.length + 1) (csM E ++ msC m (.slice A m.claims.length cap))) (hat : v.ownBlock = some g ∨ g = W8.heap.size) :
    (w9.cell? ⟨o, 7, none⟩ = some v ∧ w9.frozen? ⟨o, 7, none⟩ = false) ∧ StepL V T S o N { s with opn := s.opn ++ [m] } (w9.setCell ⟨o, 7, none⟩ (.slice (some ⟨g, 0, none⟩) (E.length + 1) cap2)) := by
  have hgk : Kept (fun k => v.ownBlock = some k) V w9 := (Kept.of_below (X := fun k => v.ownBlock = some k) hb (Nat.le_refl _)).trans ((Kept.refl (fun k => v.ownBlock = some k) W8).grown hg (fun k e => .inl e)) (fun _ _ h => h)
  have hoT := hst _ hso
  have hol := hlt _ hoT
  have ho9 : w9.heap[o]? = _ := (hgk.block o hol (fun e => (hv o e).2.1 rfl)).trans ho
  have hsz : W8.heap.size ≤ w9.heap.size := hg.size
  have hgl : g < w9.heap.size := by
    rcases hrow.2 with ⟨h1, _⟩ | ⟨g', _, cur, h1, _, h2, _⟩
    · cases h1
    · cases h1; exact blk_lt h2
  obtain ⟨S', hS'⟩ : ∃ S' : Nat → Prop, S' = fun k => S k ∨ k = g := ⟨_, rfl⟩
  have hT' : ∀ k, k < V.heap.size → (T k ∨ S' k) → T k := by
    intro k hk h
    rcases h with h | h
    · exact h
    · rw [hS'] at h
      rcases h with h | rfl
      · exact hst k h
      · rcases hat with h | h
        · exact hst _ (hv _ h).1
        · have := hb.size; omega
  have hgo : g ≠ o := by
    rcases hat with h | h
    · exact (hv g h).2.1
    · have := hb.size; omega
  have hgm : g ≠ mb := by
    rcases hat with h | h
    · exact (hv g h).2.2
    · have := hb.size; have := hlt _ (hst _ hmb); omega
  have hset := kO w9 o 7 (.slice (some ⟨g, 0, none⟩) (E.length + 1) cap2)
  have hk1 : Kept S V (w9.setCell ⟨o, 7, none⟩ (.slice (some ⟨g, 0, none⟩) (E.length + 1) cap2)) := (hgk.mono (fun k _ e => (hv k e).1)).trans (hset.mono (fun k _ e => by rw [e]; exact hso)) (fun _ _ h => h)
  have hX : ∀ k, S k → (T k ∨ S' k) := fun k h => .inl (hst k h)
  have hcl9 : ClT (w9.setCell ⟨o, 7, none⟩ (.slice (some ⟨g, 0, none⟩) (E.length + 1) cap2)) (fun k => T k ∨ S' k) A m.claims cap := by
    have h1 := (hcl (fun k => k < V.heap.size) (fun _ h => h)).more (T' := fun k => T k ∨ S' k) (by
      intro k hk h
      rcases h with h | h
      · exact hlt k h
      · rw [hS'] at h
        rcases h with h | rfl
        · exact hlt k (hst k h)
        · rcases hat with h | h
          · exact hlt _ (hst _ (hv _ h).1)
          · omega)
    refine (h1.kept (X := fun k => v.ownBlock = some k) ((Kept.refl _ W8).grown hg (fun k e => .inl e)) (fun k e => .inl (hst _ (hv k e).1))).kept hset (fun k e => .inl (by rw [e]; exact hoT))
  refine ⟨⟨by rw [blk_cell ho9]; rfl, blk_free ho9 7⟩, hk1, S', ⟨⟨.slice (some ⟨g, 0, none⟩) (E.length + 1) cap2, E ++ [(m, A, cap)], mb, ?_, ?_, ⟨?_, ?_⟩, ?_, ?_, hmo, ?_⟩, ?_, fun k h => .inr h, ?_⟩, fun k h => by rw [hS']; exact .inl h, fun k h => ?_⟩
  · rw [List.map_append, hE]; rfl
  · exact blk_set ho9 7 _
  · rw [csM_append, List.length_append]
    have : csM [(m, A, cap)] = msC m (.slice A m.claims.length cap) := by simp [csM, En.v]
    rw [this]
    exact hset.row hrow (fun g' hg' => by simp [Value.ownBlock] at hg'; omega)
  · intro e he
    rcases List.mem_append.1 he with he | he
    · exact ((hop.cl e he).more hT').kept hk1 hX
    · rw [List.mem_singleton] at he; subst he; exact hcl9
  · exact (((her.more hT').kept hgk (fun k e => .inl (hst _ (hv k e).1)) (fun e => (hv mb e).2.2 rfl))).kept hset (fun k e => .inl (by rw [e]; exact hoT)) hmo
  · rw [hS']; exact .inl hmb
  · intro g' hg'
    simp [Value.ownBlock] at hg'
    subst hg'
    exact ⟨by rw [hS']; exact .inr rfl, hgo, hgm⟩
  · rw [hS']; exact .inl hso
  · intro k h
    simp only [World.size_setCell]
    have := hgk.size
    rcases h with h | h
    · have := hlt k h; omega
    · rw [hS'] at h
      rcases h with h | rfl
      · have := hlt k (hst k h); omega
      · exact hgl
  · rw [hS'] at h
    rcases h with h | rfl
    · exact .inl h
    · rcases hat with h | h
      · exact .inl (hv _ h).1
      · exact .inr (by have := hb.size; omega)

@[reducible] def zeroPk : Value := .agg #[.int .i64 0, .int .i64 0, .int .u32 0, .int .u32 0, .int .u32 0, .int .u32 0, .int .i64 0, .int .i64 0, .int .u32 0, .int .u64 0, .int .i64 0, .int .i64 0, .int .i64 0, .int .i64 0, .slice none 0 0]
/-- The box of a message, and the one of what is answered. -/
def Bxs (w : World) (m : Msg) (A : Option Addr) (L cap : Nat) (W : World) : Prop := W.heap[w.heap.size]? = some (.cells (msgC m A L cap) 37 (0, 0)) ∧ W.heap[w.heap.size + 1]? = some (.cells #[.int .i64 0, .int .i64 0, .int .u32 0, .int .u32 0, .int .u32 0, .int .u32 0, .int .i64 0, .int .i64 0, .int .u32 0, .int .u64 0, .int .i64 0, .int .i64 0, .int .i64 0, .int .i64 0, .slice none 0 0] 39 (0, 0))
theorem Bxs.below {w W W' : World} {m : Msg} {A : Option Addr} {L cap : Nat} (h : Bxs w m A L cap W) (hb : Below W.heap.size W W') : Bxs w m A L cap W' := ⟨(hb.block _ (blk_lt h.1)).trans h.1, (hb.block _ (blk_lt h.2)).trans h.2⟩
theorem Bxs.kept {w W W' : World} {X : Nat → Prop} {m : Msg} {A : Option Addr} {L cap : Nat} (h : Bxs w m A L cap W) (hb : Kept X W W') (hX : ∀ k, X k → k < w.heap.size ∨ W.heap.size ≤ k) : Bxs w m A L cap W' := by
  have h1 := blk_lt h.1
  have h2 := blk_lt h.2
  exact ⟨(hb.block _ h1 (fun hx => by have := hX _ hx; omega)).trans h.1, (hb.block _ h2 (fun hx => by have := hX _ hx; omega)).trans h.2⟩
theorem Bxs.new (w : World) (m : Msg) (A : Option Addr) (L cap : Nat) : Bxs w m A L cap ((w.alloc (.cells (msgC m A L cap) 37)).alloc (.cells #[.int .i64 0, .int .i64 0, .int .u32 0, .int .u32 0, .int .u32 0, .int .u32 0, .int .i64 0, .int .i64 0, .int .u32 0, .int .u64 0, .int .i64 0, .int .i64 0, .int .i64 0, .int .i64 0, .slice none 0 0] 39)) := by
  refine ⟨?_, ?_⟩
  · rw [Below.heap_alloc _ _ _ (by simp)]; exact World.alloc_heap_new w _
  · have := World.alloc_heap_new (w.alloc (.cells (msgC m A L cap) 37)) (.cells #[.int .i64 0, .int .i64 0, .int .u32 0, .int .u32 0, .int .u32 0, .int .u32 0, .int .i64 0, .int .i64 0, .int .u32 0, .int .u64 0, .int .i64 0, .int .i64 0, .int .i64 0, .int .i64 0, .slice none 0 0] 39)
    rw [World.size_alloc] at this
    exact this

set_option maxHeartbeats 2000000 in
theorem send_kind {w : World} {T S : Nat → Prop} {o N : Nat} {s : Lk.S} (h : LnkAt w T S o N s) (hO : Lk.Ok s) (hT : Tab w) (n : Nat) (m : Msg) {A : Option Addr} {cap : Nat} (hC : ClaimsAt w A m.claims) (hl : m.claims.length ≤ 100000) (hg : m.gen < 4294967296) (hk : okM m = false) :
    Calls Tryd.prog 14 #[.pointer (some ⟨o, 0, none⟩), .int .u64 (n : Nat), msgA m A m.claims.length cap] w fun e w' => e = .returned (.tuple #[zeroPk, .int .i64 71]) ∧ Below w.heap.size w w' := by
  obtain ⟨P, hP⟩ : ∃ P : Ending → World → Prop, P = fun e w' => e = .returned (.tuple #[zeroPk, .int .i64 71]) ∧ Below w.heap.size w w' := ⟨_, rfl⟩
  have HP : Hid (∀ W, Below w.heap.size w W → P (.returned (.tuple #[zeroPk, .int .i64 71])) W) := by rw [hP]; exact fun W h => ⟨rfl, h⟩
  rw [← hP]
  clear hP

  have HM : Hid (∀ W, Below w.heap.size w W → Calls Tryd.prog 35 #[.pointer (some ⟨o, 0, none⟩)] W fun e w' => e = .returned (.bool true) ∧ w' = W) := fun W hW => made_any (h.below hW) hO.ep1
  have HCM : Hid (∀ W, Below w.heap.size w W → Calls Tryd.prog 40 #[msgA m A m.claims.length cap] W fun e w' => e = .returned (.int .i64 71) ∧ Below W.heap.size W w') := fun W hW => (check_any (hT.below hW) m cap (hC.below hW) hl hg).mono (by rintro e w' ⟨rfl, hb⟩; rw [hk]; exact ⟨rfl, hb⟩)
  have HBN : Hid (∀ V, V = (w.alloc (.cells (msgC m A m.claims.length cap) 37)).alloc (.cells #[.int .i64 0, .int .i64 0, .int .u32 0, .int .u32 0, .int .u32 0, .int .u32 0, .int .i64 0, .int .i64 0, .int .u32 0, .int .u64 0, .int .i64 0, .int .i64 0, .int .i64 0, .int .i64 0, .slice none 0 0] 39) → Below w.heap.size w V ∧ Bxs w m A m.claims.length cap V) := by
    rintro V rfl
    exact ⟨((Below.refl _ w).alloc (Nat.le_refl _) _).alloc (by simp) _, Bxs.new w m A _ cap⟩
  have HCL : Hid (∀ W, Below w.heap.size w W → W.cell? ⟨o, 3, none⟩ = some (.int .u32 (s.kn : Nat)) ∧ W.cell? ⟨o, 6, none⟩ = some (.int .u32 (s.sent : Nat)) ∧ ∃ Ao co, W.cell? ⟨o, 7, none⟩ = some (.slice Ao s.opn.length co)) := by
    intro W hW
    have h' := h.below hW
    obtain ⟨_, _, _, c3, _, _, c6, _⟩ := h'.cells
    obtain ⟨Ao, co, c7, _⟩ := h'.lst
    exact ⟨c3, c6, Ao, co, c7⟩
  have HFI : Hid (∀ W, Below w.heap.size w W → Bxs w m A m.claims.length cap W → ((W.cell? ⟨w.heap.size, 0, none⟩ = some (.int .i64 m.kind)) ∧ (∃ z, z = W) ∧ (∀ j, W.frozen? ⟨w.heap.size + 1, j, none⟩ = false) ∧ W.heap[w.heap.size + 1]? = some (.cells #[.int .i64 0, .int .i64 0, .int .u32 0, .int .u32 0, .int .u32 0, .int .u32 0, .int .i64 0, .int .i64 0, .int .u32 0, .int .u64 0, .int .i64 0, .int .i64 0, .int .i64 0, .int .i64 0, .slice none 0 0] 39 (0, 0)))) := by
    intro W hW hB
    exact ⟨by rw [blk_cell hB.1]; rfl, ⟨W, rfl⟩, fun j => blk_free hB.2 j, hB.2⟩
  clear h hO hT hC hl hg
  generalize s.opn.length = OL at *
  generalize s.sent = SE at *
  generalize s.kn = KN at *
  obtain ⟨x0, x1, x2, x3, x4, x5, x6, x7, x8⟩ := m
  simp only [msgA] at HCM HFI ⊢
  go_enter Tryd.func14, Tryd.ntmps14
  go_wp2_with fail
  obtain ⟨hb0, hx0⟩ := HBN.out _ rfl
  refine (HM.out _ hb0).mono ?_
  rintro e w1 ⟨rfl, hw1⟩
  rw [hw1]
  clear hw1
  have h9 := nine hx0.1
  obtain ⟨⟨y0, y1, y2, y3, y4, y5, y6, y7, y8⟩, _⟩ := h9
  go_wp2_with fail
  refine (HCM.out _ hb0).mono ?_
  rintro e w2 ⟨rfl, hb⟩
  have hb2 : Below w.heap.size w w2 := hb0.trans (hb.mono hb0.size)
  have hx2 := hx0.below hb
  clear hb0 hx0 hb y0 y1 y2 y3 y4 y5 y6 y7 y8 HCM
  obtain ⟨y0, _, _, hz⟩ := HFI.out _ hb2 hx2
  obtain ⟨c3, c6, Ao, co, c7⟩ := HCL.out _ hb2
  obtain ⟨⟨b0, b1, b2, b3, b4, b5, b6, b7, b8, b9, b10, b11, b12, b13, b14⟩, fz⟩ := pk_cells hz
  have hpa := Lib.hid (pk_all hz (.int .i64 0) (.int .i64 0) (.int .u32 0) (.int .u32 0) (.int .u32 0) (.int .u32 0) (.int .i64 0) (.int .i64 0) (.int .u32 0) (.int .u64 0) (.int .i64 0) (.int .i64 0) (.int .i64 0) (.int .i64 0) (.slice none 0 0))
  have f0 := fz 0
  have f1 := fz 1
  have f2 := fz 2
  have f3 := fz 3
  have f4 := fz 4
  have f5 := fz 5
  have f6 := fz 6
  have f7 := fz 7
  have f8 := fz 8
  have f9 := fz 9
  have f10 := fz 10
  have f11 := fz 11
  have f12 := fz 12
  have f13 := fz 13
  have f14 := fz 14
  have HB2 := Lib.hid hb2
  clear fz hz hb2 hx2 HFI HCL HBN
  go_wp2
  obtain ⟨WF, hWF⟩ : ∃ WF, (((((((((((((((w2.setCell ⟨w.heap.size + 1, 0, none⟩ (.int .i64 0)).setCell ⟨w.heap.size + 1, 1, none⟩ (.int .i64 0)).setCell ⟨w.heap.size + 1, 2, none⟩ (.int .u32 0)).setCell ⟨w.heap.size + 1, 3, none⟩ (.int .u32 0)).setCell ⟨w.heap.size + 1, 4, none⟩ (.int .u32 0)).setCell ⟨w.heap.size + 1, 5, none⟩ (.int .u32 0)).setCell ⟨w.heap.size + 1, 6, none⟩ (.int .i64 0)).setCell ⟨w.heap.size + 1, 7, none⟩ (.int .i64 0)).setCell ⟨w.heap.size + 1, 8, none⟩ (.int .u32 0)).setCell ⟨w.heap.size + 1, 9, none⟩ (.int .u64 0)).setCell ⟨w.heap.size + 1, 10, none⟩ (.int .i64 0)).setCell ⟨w.heap.size + 1, 11, none⟩ (.int .i64 0)).setCell ⟨w.heap.size + 1, 12, none⟩ (.int .i64 0)).setCell ⟨w.heap.size + 1, 13, none⟩ (.int .i64 0)).setCell ⟨w.heap.size + 1, 14, none⟩ (.slice none 0 0)) = WF := ⟨_, rfl⟩
  have hpa2 := hpa.out
  rw [hWF] at hpa2 ⊢
  clear hWF hpa
  obtain ⟨bF, kF⟩ := hpa2
  obtain ⟨⟨s0, s1, s2, s3, s4, s5, s6, s7, s8, s9, s10, s11, s12, s13, s14⟩, _⟩ := pk_cells bF
  have HFF := Lib.hid (HP.out WF (HB2.out.trans (kF.below (fun k h => by omega) HB2.out.size)))
  go_wp2
  refine bodyPost_ret (v := .tuple #[zeroPk, .int .i64 71]) (by simp only [results, Tryd.results14]; simp [go_sem, s0, s1, s2, s3, s4, s5, s6, s7, s8, s9, s10, s11, s12, s13, s14]) rfl HFF.out

set_option maxHeartbeats 2000000 in
theorem send_bare {w : World} {T S : Nat → Prop} {o N : Nat} {s : Lk.S} (h : LnkAt w T S o N s) (hO : Lk.Ok s) (hT : Tab w) (n : Nat) (m : Msg) {A : Option Addr} {cap : Nat} (hC : ClaimsAt w A m.claims) (hl : m.claims.length ≤ 100000) (hg : m.gen < 4294967296) (hk : okM m = true) (hb : Lk.isB m.kind = true) :
    Calls Tryd.prog 14 #[.pointer (some ⟨o, 0, none⟩), .int .u64 (n : Nat), msgA m A m.claims.length cap] w fun e w' => e = .returned (.tuple #[zeroPk, .int .i64 71]) ∧ Below w.heap.size w w' := by
  obtain ⟨P, hP⟩ : ∃ P : Ending → World → Prop, P = fun e w' => e = .returned (.tuple #[zeroPk, .int .i64 71]) ∧ Below w.heap.size w w' := ⟨_, rfl⟩
  have HP : Hid (∀ W, Below w.heap.size w W → P (.returned (.tuple #[zeroPk, .int .i64 71])) W) := by rw [hP]; exact fun W h => ⟨rfl, h⟩
  rw [← hP]
  clear hP
  have HK := Lib.hid hb
  clear hb
  have HM : Hid (∀ W, Below w.heap.size w W → Calls Tryd.prog 35 #[.pointer (some ⟨o, 0, none⟩)] W fun e w' => e = .returned (.bool true) ∧ w' = W) := fun W hW => made_any (h.below hW) hO.ep1
  have HCM : Hid (∀ W, Below w.heap.size w W → Calls Tryd.prog 40 #[msgA m A m.claims.length cap] W fun e w' => e = .returned (.int .i64 0) ∧ Below W.heap.size W w') := fun W hW => (check_any (hT.below hW) m cap (hC.below hW) hl hg).mono (by rintro e w' ⟨rfl, hb⟩; rw [hk]; exact ⟨rfl, hb⟩)
  have HBN : Hid (∀ V, V = (w.alloc (.cells (msgC m A m.claims.length cap) 37)).alloc (.cells #[.int .i64 0, .int .i64 0, .int .u32 0, .int .u32 0, .int .u32 0, .int .u32 0, .int .i64 0, .int .i64 0, .int .u32 0, .int .u64 0, .int .i64 0, .int .i64 0, .int .i64 0, .int .i64 0, .slice none 0 0] 39) → Below w.heap.size w V ∧ Bxs w m A m.claims.length cap V) := by
    rintro V rfl
    exact ⟨((Below.refl _ w).alloc (Nat.le_refl _) _).alloc (by simp) _, Bxs.new w m A _ cap⟩
  have HCL : Hid (∀ W, Below w.heap.size w W → W.cell? ⟨o, 3, none⟩ = some (.int .u32 (s.kn : Nat)) ∧ W.cell? ⟨o, 6, none⟩ = some (.int .u32 (s.sent : Nat)) ∧ ∃ Ao co, W.cell? ⟨o, 7, none⟩ = some (.slice Ao s.opn.length co)) := by
    intro W hW
    have h' := h.below hW
    obtain ⟨_, _, _, c3, _, _, c6, _⟩ := h'.cells
    obtain ⟨Ao, co, c7, _⟩ := h'.lst
    exact ⟨c3, c6, Ao, co, c7⟩
  have HFI : Hid (∀ W, Below w.heap.size w W → Bxs w m A m.claims.length cap W → ((W.cell? ⟨w.heap.size, 0, none⟩ = some (.int .i64 m.kind)) ∧ (∃ z, z = W) ∧ (∀ j, W.frozen? ⟨w.heap.size + 1, j, none⟩ = false) ∧ W.heap[w.heap.size + 1]? = some (.cells #[.int .i64 0, .int .i64 0, .int .u32 0, .int .u32 0, .int .u32 0, .int .u32 0, .int .i64 0, .int .i64 0, .int .u32 0, .int .u64 0, .int .i64 0, .int .i64 0, .int .i64 0, .int .i64 0, .slice none 0 0] 39 (0, 0)))) := by
    intro W hW hB
    exact ⟨by rw [blk_cell hB.1]; rfl, ⟨W, rfl⟩, fun j => blk_free hB.2 j, hB.2⟩
  clear h hO hT hC hl hg
  generalize s.opn.length = OL at *
  generalize s.sent = SE at *
  generalize s.kn = KN at *
  obtain ⟨x0, x1, x2, x3, x4, x5, x6, x7, x8⟩ := m
  simp only [msgA] at HCM HFI ⊢
  go_enter Tryd.func14, Tryd.ntmps14
  go_wp2_with fail
  obtain ⟨hb0, hx0⟩ := HBN.out _ rfl
  refine (HM.out _ hb0).mono ?_
  rintro e w1 ⟨rfl, hw1⟩
  rw [hw1]
  clear hw1
  have h9 := nine hx0.1
  obtain ⟨⟨y0, y1, y2, y3, y4, y5, y6, y7, y8⟩, _⟩ := h9
  go_wp2_with fail
  refine (HCM.out _ hb0).mono ?_
  rintro e w2 ⟨rfl, hb⟩
  have hb2 : Below w.heap.size w w2 := hb0.trans (hb.mono hb0.size)
  have hx2 := hx0.below hb
  clear hb0 hx0 hb y0 y1 y2 y3 y4 y5 y6 y7 y8 HCM
  obtain ⟨y0, _, _, hz⟩ := HFI.out _ hb2 hx2
  obtain ⟨c3, c6, Ao, co, c7⟩ := HCL.out _ hb2
  obtain ⟨⟨b0, b1, b2, b3, b4, b5, b6, b7, b8, b9, b10, b11, b12, b13, b14⟩, fz⟩ := pk_cells hz
  have hpa := Lib.hid (pk_all hz (.int .i64 0) (.int .i64 0) (.int .u32 0) (.int .u32 0) (.int .u32 0) (.int .u32 0) (.int .i64 0) (.int .i64 0) (.int .u32 0) (.int .u64 0) (.int .i64 0) (.int .i64 0) (.int .i64 0) (.int .i64 0) (.slice none 0 0))
  have f0 := fz 0
  have f1 := fz 1
  have f2 := fz 2
  have f3 := fz 3
  have f4 := fz 4
  have f5 := fz 5
  have f6 := fz 6
  have f7 := fz 7
  have f8 := fz 8
  have f9 := fz 9
  have f10 := fz 10
  have f11 := fz 11
  have f12 := fz 12
  have f13 := fz 13
  have f14 := fz 14
  have HB2 := Lib.hid hb2
  clear fz hz hb2 hx2 HFI HCL HBN
  go_wp2_with ((with_reducible refine (isBare_any _ _).mono ?_); rintro e w3 ⟨rfl, hw3⟩; rw [hw3, HK.out]; clear hw3)
  obtain ⟨WF, hWF⟩ : ∃ WF, (((((((((((((((w2.setCell ⟨w.heap.size + 1, 0, none⟩ (.int .i64 0)).setCell ⟨w.heap.size + 1, 1, none⟩ (.int .i64 0)).setCell ⟨w.heap.size + 1, 2, none⟩ (.int .u32 0)).setCell ⟨w.heap.size + 1, 3, none⟩ (.int .u32 0)).setCell ⟨w.heap.size + 1, 4, none⟩ (.int .u32 0)).setCell ⟨w.heap.size + 1, 5, none⟩ (.int .u32 0)).setCell ⟨w.heap.size + 1, 6, none⟩ (.int .i64 0)).setCell ⟨w.heap.size + 1, 7, none⟩ (.int .i64 0)).setCell ⟨w.heap.size + 1, 8, none⟩ (.int .u32 0)).setCell ⟨w.heap.size + 1, 9, none⟩ (.int .u64 0)).setCell ⟨w.heap.size + 1, 10, none⟩ (.int .i64 0)).setCell ⟨w.heap.size + 1, 11, none⟩ (.int .i64 0)).setCell ⟨w.heap.size + 1, 12, none⟩ (.int .i64 0)).setCell ⟨w.heap.size + 1, 13, none⟩ (.int .i64 0)).setCell ⟨w.heap.size + 1, 14, none⟩ (.slice none 0 0)) = WF := ⟨_, rfl⟩
  have hpa2 := hpa.out
  rw [hWF] at hpa2 ⊢
  clear hWF hpa
  obtain ⟨bF, kF⟩ := hpa2
  obtain ⟨⟨s0, s1, s2, s3, s4, s5, s6, s7, s8, s9, s10, s11, s12, s13, s14⟩, _⟩ := pk_cells bF
  have HFF := Lib.hid (HP.out WF (HB2.out.trans (kF.below (fun k h => by omega) HB2.out.size)))
  go_wp2
  refine bodyPost_ret (v := .tuple #[zeroPk, .int .i64 71]) (by simp only [results, Tryd.results14]; simp [go_sem, s0, s1, s2, s3, s4, s5, s6, s7, s8, s9, s10, s11, s12, s13, s14]) rfl HFF.out

set_option maxHeartbeats 2000000 in
theorem send_link {w : World} {T S : Nat → Prop} {o N : Nat} {s : Lk.S} (h : LnkAt w T S o N s) (hO : Lk.Ok s) (hT : Tab w) (n : Nat) (m : Msg) {A : Option Addr} {cap : Nat} (hC : ClaimsAt w A m.claims) (hl : m.claims.length ≤ 100000) (hg : m.gen < 4294967296) (hk : okM m = true) (hb : Lk.isB m.kind = false) (hn : s.kn = 0) :
    Calls Tryd.prog 14 #[.pointer (some ⟨o, 0, none⟩), .int .u64 (n : Nat), msgA m A m.claims.length cap] w fun e w' => e = .returned (.tuple #[zeroPk, .int .i64 110]) ∧ Below w.heap.size w w' := by
  obtain ⟨P, hP⟩ : ∃ P : Ending → World → Prop, P = fun e w' => e = .returned (.tuple #[zeroPk, .int .i64 110]) ∧ Below w.heap.size w w' := ⟨_, rfl⟩
  have HP : Hid (∀ W, Below w.heap.size w W → P (.returned (.tuple #[zeroPk, .int .i64 110])) W) := by rw [hP]; exact fun W h => ⟨rfl, h⟩
  rw [← hP]
  clear hP
  have HK := Lib.hid hb
  have hkn : ((s.kn : Int) == 0) = true := by rw [hn]; rfl
  clear hb hn
  have HM : Hid (∀ W, Below w.heap.size w W → Calls Tryd.prog 35 #[.pointer (some ⟨o, 0, none⟩)] W fun e w' => e = .returned (.bool true) ∧ w' = W) := fun W hW => made_any (h.below hW) hO.ep1
  have HCM : Hid (∀ W, Below w.heap.size w W → Calls Tryd.prog 40 #[msgA m A m.claims.length cap] W fun e w' => e = .returned (.int .i64 0) ∧ Below W.heap.size W w') := fun W hW => (check_any (hT.below hW) m cap (hC.below hW) hl hg).mono (by rintro e w' ⟨rfl, hb⟩; rw [hk]; exact ⟨rfl, hb⟩)
  have HBN : Hid (∀ V, V = (w.alloc (.cells (msgC m A m.claims.length cap) 37)).alloc (.cells #[.int .i64 0, .int .i64 0, .int .u32 0, .int .u32 0, .int .u32 0, .int .u32 0, .int .i64 0, .int .i64 0, .int .u32 0, .int .u64 0, .int .i64 0, .int .i64 0, .int .i64 0, .int .i64 0, .slice none 0 0] 39) → Below w.heap.size w V ∧ Bxs w m A m.claims.length cap V) := by
    rintro V rfl
    exact ⟨((Below.refl _ w).alloc (Nat.le_refl _) _).alloc (by simp) _, Bxs.new w m A _ cap⟩
  have HCL : Hid (∀ W, Below w.heap.size w W → W.cell? ⟨o, 3, none⟩ = some (.int .u32 (s.kn : Nat)) ∧ W.cell? ⟨o, 6, none⟩ = some (.int .u32 (s.sent : Nat)) ∧ ∃ Ao co, W.cell? ⟨o, 7, none⟩ = some (.slice Ao s.opn.length co)) := by
    intro W hW
    have h' := h.below hW
    obtain ⟨_, _, _, c3, _, _, c6, _⟩ := h'.cells
    obtain ⟨Ao, co, c7, _⟩ := h'.lst
    exact ⟨c3, c6, Ao, co, c7⟩
  have HFI : Hid (∀ W, Below w.heap.size w W → Bxs w m A m.claims.length cap W → ((W.cell? ⟨w.heap.size, 0, none⟩ = some (.int .i64 m.kind)) ∧ (∃ z, z = W) ∧ (∀ j, W.frozen? ⟨w.heap.size + 1, j, none⟩ = false) ∧ W.heap[w.heap.size + 1]? = some (.cells #[.int .i64 0, .int .i64 0, .int .u32 0, .int .u32 0, .int .u32 0, .int .u32 0, .int .i64 0, .int .i64 0, .int .u32 0, .int .u64 0, .int .i64 0, .int .i64 0, .int .i64 0, .int .i64 0, .slice none 0 0] 39 (0, 0)))) := by
    intro W hW hB
    exact ⟨by rw [blk_cell hB.1]; rfl, ⟨W, rfl⟩, fun j => blk_free hB.2 j, hB.2⟩
  clear h hO hT hC hl hg
  generalize s.opn.length = OL at *
  generalize s.sent = SE at *
  generalize s.kn = KN at *
  obtain ⟨x0, x1, x2, x3, x4, x5, x6, x7, x8⟩ := m
  simp only [msgA] at HCM HFI ⊢
  go_enter Tryd.func14, Tryd.ntmps14
  go_wp2_with fail
  obtain ⟨hb0, hx0⟩ := HBN.out _ rfl
  refine (HM.out _ hb0).mono ?_
  rintro e w1 ⟨rfl, hw1⟩
  rw [hw1]
  clear hw1
  have h9 := nine hx0.1
  obtain ⟨⟨y0, y1, y2, y3, y4, y5, y6, y7, y8⟩, _⟩ := h9
  go_wp2_with fail
  refine (HCM.out _ hb0).mono ?_
  rintro e w2 ⟨rfl, hb⟩
  have hb2 : Below w.heap.size w w2 := hb0.trans (hb.mono hb0.size)
  have hx2 := hx0.below hb
  clear hb0 hx0 hb y0 y1 y2 y3 y4 y5 y6 y7 y8 HCM
  obtain ⟨y0, _, _, hz⟩ := HFI.out _ hb2 hx2
  obtain ⟨c3, c6, Ao, co, c7⟩ := HCL.out _ hb2
  obtain ⟨⟨b0, b1, b2, b3, b4, b5, b6, b7, b8, b9, b10, b11, b12, b13, b14⟩, fz⟩ := pk_cells hz
  have hpa := Lib.hid (pk_all hz (.int .i64 0) (.int .i64 0) (.int .u32 0) (.int .u32 0) (.int .u32 0) (.int .u32 0) (.int .i64 0) (.int .i64 0) (.int .u32 0) (.int .u64 0) (.int .i64 0) (.int .i64 0) (.int .i64 0) (.int .i64 0) (.slice none 0 0))
  have f0 := fz 0
  have f1 := fz 1
  have f2 := fz 2
  have f3 := fz 3
  have f4 := fz 4
  have f5 := fz 5
  have f6 := fz 6
  have f7 := fz 7
  have f8 := fz 8
  have f9 := fz 9
  have f10 := fz 10
  have f11 := fz 11
  have f12 := fz 12
  have f13 := fz 13
  have f14 := fz 14
  have HB2 := Lib.hid hb2
  clear fz hz hb2 hx2 HFI HCL HBN
  go_wp2_with ((with_reducible refine (isBare_any _ _).mono ?_); rintro e w3 ⟨rfl, hw3⟩; rw [hw3, HK.out]; clear hw3)
  obtain ⟨WF, hWF⟩ : ∃ WF, (((((((((((((((w2.setCell ⟨w.heap.size + 1, 0, none⟩ (.int .i64 0)).setCell ⟨w.heap.size + 1, 1, none⟩ (.int .i64 0)).setCell ⟨w.heap.size + 1, 2, none⟩ (.int .u32 0)).setCell ⟨w.heap.size + 1, 3, none⟩ (.int .u32 0)).setCell ⟨w.heap.size + 1, 4, none⟩ (.int .u32 0)).setCell ⟨w.heap.size + 1, 5, none⟩ (.int .u32 0)).setCell ⟨w.heap.size + 1, 6, none⟩ (.int .i64 0)).setCell ⟨w.heap.size + 1, 7, none⟩ (.int .i64 0)).setCell ⟨w.heap.size + 1, 8, none⟩ (.int .u32 0)).setCell ⟨w.heap.size + 1, 9, none⟩ (.int .u64 0)).setCell ⟨w.heap.size + 1, 10, none⟩ (.int .i64 0)).setCell ⟨w.heap.size + 1, 11, none⟩ (.int .i64 0)).setCell ⟨w.heap.size + 1, 12, none⟩ (.int .i64 0)).setCell ⟨w.heap.size + 1, 13, none⟩ (.int .i64 0)).setCell ⟨w.heap.size + 1, 14, none⟩ (.slice none 0 0)) = WF := ⟨_, rfl⟩
  have hpa2 := hpa.out
  rw [hWF] at hpa2 ⊢
  clear hWF hpa
  obtain ⟨bF, kF⟩ := hpa2
  obtain ⟨⟨s0, s1, s2, s3, s4, s5, s6, s7, s8, s9, s10, s11, s12, s13, s14⟩, _⟩ := pk_cells bF
  have HFF := Lib.hid (HP.out WF (HB2.out.trans (kF.below (fun k h => by omega) HB2.out.size)))
  go_wp2
  refine bodyPost_ret (v := .tuple #[zeroPk, .int .i64 110]) (by simp only [results, Tryd.results14]; simp [go_sem, s0, s1, s2, s3, s4, s5, s6, s7, s8, s9, s10, s11, s12, s13, s14]) rfl HFF.out

set_option maxHeartbeats 2000000 in
theorem send_room1 {w : World} {T S : Nat → Prop} {o N : Nat} {s : Lk.S} (h : LnkAt w T S o N s) (hO : Lk.Ok s) (hT : Tab w) (n : Nat) (m : Msg) {A : Option Addr} {cap : Nat} (hC : ClaimsAt w A m.claims) (hl : m.claims.length ≤ 100000) (hg : m.gen < 4294967296) (hk : okM m = true) (hb : Lk.isB m.kind = false) (hn : s.kn ≠ 0) (hr : 16 ≤ s.opn.length) :
    Calls Tryd.prog 14 #[.pointer (some ⟨o, 0, none⟩), .int .u64 (n : Nat), msgA m A m.claims.length cap] w fun e w' => e = .returned (.tuple #[zeroPk, .int .i64 111]) ∧ Below w.heap.size w w' := by
  obtain ⟨P, hP⟩ : ∃ P : Ending → World → Prop, P = fun e w' => e = .returned (.tuple #[zeroPk, .int .i64 111]) ∧ Below w.heap.size w w' := ⟨_, rfl⟩
  have HP : Hid (∀ W, Below w.heap.size w W → P (.returned (.tuple #[zeroPk, .int .i64 111])) W) := by rw [hP]; exact fun W h => ⟨rfl, h⟩
  rw [← hP]
  clear hP
  have HK := Lib.hid hb
  have hkn : ((s.kn : Int) == 0) = false := by
    have : ¬ (s.kn : Int) = 0 := by omega
    simpa using this
  have e1 : decide ((16 : Int) ≤ (s.opn.length : Int)) = true := by simp; omega
  have e2 : decide (16 ≤ s.opn.length) = true := by simpa using hr
  clear hb hn hr
  have HM : Hid (∀ W, Below w.heap.size w W → Calls Tryd.prog 35 #[.pointer (some ⟨o, 0, none⟩)] W fun e w' => e = .returned (.bool true) ∧ w' = W) := fun W hW => made_any (h.below hW) hO.ep1
  have HCM : Hid (∀ W, Below w.heap.size w W → Calls Tryd.prog 40 #[msgA m A m.claims.length cap] W fun e w' => e = .returned (.int .i64 0) ∧ Below W.heap.size W w') := fun W hW => (check_any (hT.below hW) m cap (hC.below hW) hl hg).mono (by rintro e w' ⟨rfl, hb⟩; rw [hk]; exact ⟨rfl, hb⟩)
  have HBN : Hid (∀ V, V = (w.alloc (.cells (msgC m A m.claims.length cap) 37)).alloc (.cells #[.int .i64 0, .int .i64 0, .int .u32 0, .int .u32 0, .int .u32 0, .int .u32 0, .int .i64 0, .int .i64 0, .int .u32 0, .int .u64 0, .int .i64 0, .int .i64 0, .int .i64 0, .int .i64 0, .slice none 0 0] 39) → Below w.heap.size w V ∧ Bxs w m A m.claims.length cap V) := by
    rintro V rfl
    exact ⟨((Below.refl _ w).alloc (Nat.le_refl _) _).alloc (by simp) _, Bxs.new w m A _ cap⟩
  have HCL : Hid (∀ W, Below w.heap.size w W → W.cell? ⟨o, 3, none⟩ = some (.int .u32 (s.kn : Nat)) ∧ W.cell? ⟨o, 6, none⟩ = some (.int .u32 (s.sent : Nat)) ∧ ∃ Ao co, W.cell? ⟨o, 7, none⟩ = some (.slice Ao s.opn.length co)) := by
    intro W hW
    have h' := h.below hW
    obtain ⟨_, _, _, c3, _, _, c6, _⟩ := h'.cells
    obtain ⟨Ao, co, c7, _⟩ := h'.lst
    exact ⟨c3, c6, Ao, co, c7⟩
  have HFI : Hid (∀ W, Below w.heap.size w W → Bxs w m A m.claims.length cap W → ((W.cell? ⟨w.heap.size, 0, none⟩ = some (.int .i64 m.kind)) ∧ (∃ z, z = W) ∧ (∀ j, W.frozen? ⟨w.heap.size + 1, j, none⟩ = false) ∧ W.heap[w.heap.size + 1]? = some (.cells #[.int .i64 0, .int .i64 0, .int .u32 0, .int .u32 0, .int .u32 0, .int .u32 0, .int .i64 0, .int .i64 0, .int .u32 0, .int .u64 0, .int .i64 0, .int .i64 0, .int .i64 0, .int .i64 0, .slice none 0 0] 39 (0, 0)))) := by
    intro W hW hB
    exact ⟨by rw [blk_cell hB.1]; rfl, ⟨W, rfl⟩, fun j => blk_free hB.2 j, hB.2⟩
  clear h hO hT hC hl hg
  generalize s.opn.length = OL at *
  generalize s.sent = SE at *
  generalize s.kn = KN at *
  obtain ⟨x0, x1, x2, x3, x4, x5, x6, x7, x8⟩ := m
  simp only [msgA] at HCM HFI ⊢
  go_enter Tryd.func14, Tryd.ntmps14
  go_wp2_with fail
  obtain ⟨hb0, hx0⟩ := HBN.out _ rfl
  refine (HM.out _ hb0).mono ?_
  rintro e w1 ⟨rfl, hw1⟩
  rw [hw1]
  clear hw1
  have h9 := nine hx0.1
  obtain ⟨⟨y0, y1, y2, y3, y4, y5, y6, y7, y8⟩, _⟩ := h9
  go_wp2_with fail
  refine (HCM.out _ hb0).mono ?_
  rintro e w2 ⟨rfl, hb⟩
  have hb2 : Below w.heap.size w w2 := hb0.trans (hb.mono hb0.size)
  have hx2 := hx0.below hb
  clear hb0 hx0 hb y0 y1 y2 y3 y4 y5 y6 y7 y8 HCM
  obtain ⟨y0, _, _, hz⟩ := HFI.out _ hb2 hx2
  obtain ⟨c3, c6, Ao, co, c7⟩ := HCL.out _ hb2
  obtain ⟨⟨b0, b1, b2, b3, b4, b5, b6, b7, b8, b9, b10, b11, b12, b13, b14⟩, fz⟩ := pk_cells hz
  have hpa := Lib.hid (pk_all hz (.int .i64 0) (.int .i64 0) (.int .u32 0) (.int .u32 0) (.int .u32 0) (.int .u32 0) (.int .i64 0) (.int .i64 0) (.int .u32 0) (.int .u64 0) (.int .i64 0) (.int .i64 0) (.int .i64 0) (.int .i64 0) (.slice none 0 0))
  have f0 := fz 0
  have f1 := fz 1
  have f2 := fz 2
  have f3 := fz 3
  have f4 := fz 4
  have f5 := fz 5
  have f6 := fz 6
  have f7 := fz 7
  have f8 := fz 8
  have f9 := fz 9
  have f10 := fz 10
  have f11 := fz 11
  have f12 := fz 12
  have f13 := fz 13
  have f14 := fz 14
  have HB2 := Lib.hid hb2
  clear fz hz hb2 hx2 HFI HCL HBN
  go_wp2_with ((with_reducible refine (isBare_any _ _).mono ?_); rintro e w3 ⟨rfl, hw3⟩; rw [hw3, HK.out]; clear hw3)
  obtain ⟨WF, hWF⟩ : ∃ WF, (((((((((((((((w2.setCell ⟨w.heap.size + 1, 0, none⟩ (.int .i64 0)).setCell ⟨w.heap.size + 1, 1, none⟩ (.int .i64 0)).setCell ⟨w.heap.size + 1, 2, none⟩ (.int .u32 0)).setCell ⟨w.heap.size + 1, 3, none⟩ (.int .u32 0)).setCell ⟨w.heap.size + 1, 4, none⟩ (.int .u32 0)).setCell ⟨w.heap.size + 1, 5, none⟩ (.int .u32 0)).setCell ⟨w.heap.size + 1, 6, none⟩ (.int .i64 0)).setCell ⟨w.heap.size + 1, 7, none⟩ (.int .i64 0)).setCell ⟨w.heap.size + 1, 8, none⟩ (.int .u32 0)).setCell ⟨w.heap.size + 1, 9, none⟩ (.int .u64 0)).setCell ⟨w.heap.size + 1, 10, none⟩ (.int .i64 0)).setCell ⟨w.heap.size + 1, 11, none⟩ (.int .i64 0)).setCell ⟨w.heap.size + 1, 12, none⟩ (.int .i64 0)).setCell ⟨w.heap.size + 1, 13, none⟩ (.int .i64 0)).setCell ⟨w.heap.size + 1, 14, none⟩ (.slice none 0 0)) = WF := ⟨_, rfl⟩
  have hpa2 := hpa.out
  rw [hWF] at hpa2 ⊢
  clear hWF hpa
  obtain ⟨bF, kF⟩ := hpa2
  obtain ⟨⟨s0, s1, s2, s3, s4, s5, s6, s7, s8, s9, s10, s11, s12, s13, s14⟩, _⟩ := pk_cells bF
  have HFF := Lib.hid (HP.out WF (HB2.out.trans (kF.below (fun k h => by omega) HB2.out.size)))
  go_wp2
  refine bodyPost_ret (v := .tuple #[zeroPk, .int .i64 111]) (by simp only [results, Tryd.results14]; simp [go_sem, s0, s1, s2, s3, s4, s5, s6, s7, s8, s9, s10, s11, s12, s13, s14]) rfl HFF.out

set_option maxHeartbeats 2000000 in
theorem send_room2 {w : World} {T S : Nat → Prop} {o N : Nat} {s : Lk.S} (h : LnkAt w T S o N s) (hO : Lk.Ok s) (hT : Tab w) (n : Nat) (m : Msg) {A : Option Addr} {cap : Nat} (hC : ClaimsAt w A m.claims) (hl : m.claims.length ≤ 100000) (hg : m.gen < 4294967296) (hk : okM m = true) (hb : Lk.isB m.kind = false) (hn : s.kn ≠ 0) (hr : ¬ 16 ≤ s.opn.length) (hs : s.sent = 4294967295) :
    Calls Tryd.prog 14 #[.pointer (some ⟨o, 0, none⟩), .int .u64 (n : Nat), msgA m A m.claims.length cap] w fun e w' => e = .returned (.tuple #[zeroPk, .int .i64 111]) ∧ Below w.heap.size w w' := by
  obtain ⟨P, hP⟩ : ∃ P : Ending → World → Prop, P = fun e w' => e = .returned (.tuple #[zeroPk, .int .i64 111]) ∧ Below w.heap.size w w' := ⟨_, rfl⟩
  have HP : Hid (∀ W, Below w.heap.size w W → P (.returned (.tuple #[zeroPk, .int .i64 111])) W) := by rw [hP]; exact fun W h => ⟨rfl, h⟩
  rw [← hP]
  clear hP
  have HK := Lib.hid hb
  have hkn : ((s.kn : Int) == 0) = false := by
    have : ¬ (s.kn : Int) = 0 := by omega
    simpa using this
  have e1 : decide ((16 : Int) ≤ (s.opn.length : Int)) = false := by simp; omega
  have e2 : decide (16 ≤ s.opn.length) = false := by simpa using hr
  have e3 : ((s.sent : Int) == 4294967295) = true := by rw [hs]; rfl
  clear hb hn hr hs
  have HM : Hid (∀ W, Below w.heap.size w W → Calls Tryd.prog 35 #[.pointer (some ⟨o, 0, none⟩)] W fun e w' => e = .returned (.bool true) ∧ w' = W) := fun W hW => made_any (h.below hW) hO.ep1
  have HCM : Hid (∀ W, Below w.heap.size w W → Calls Tryd.prog 40 #[msgA m A m.claims.length cap] W fun e w' => e = .returned (.int .i64 0) ∧ Below W.heap.size W w') := fun W hW => (check_any (hT.below hW) m cap (hC.below hW) hl hg).mono (by rintro e w' ⟨rfl, hb⟩; rw [hk]; exact ⟨rfl, hb⟩)
  have HBN : Hid (∀ V, V = (w.alloc (.cells (msgC m A m.claims.length cap) 37)).alloc (.cells #[.int .i64 0, .int .i64 0, .int .u32 0, .int .u32 0, .int .u32 0, .int .u32 0, .int .i64 0, .int .i64 0, .int .u32 0, .int .u64 0, .int .i64 0, .int .i64 0, .int .i64 0, .int .i64 0, .slice none 0 0] 39) → Below w.heap.size w V ∧ Bxs w m A m.claims.length cap V) := by
    rintro V rfl
    exact ⟨((Below.refl _ w).alloc (Nat.le_refl _) _).alloc (by simp) _, Bxs.new w m A _ cap⟩
  have HCL : Hid (∀ W, Below w.heap.size w W → W.cell? ⟨o, 3, none⟩ = some (.int .u32 (s.kn : Nat)) ∧ W.cell? ⟨o, 6, none⟩ = some (.int .u32 (s.sent : Nat)) ∧ ∃ Ao co, W.cell? ⟨o, 7, none⟩ = some (.slice Ao s.opn.length co)) := by
    intro W hW
    have h' := h.below hW
    obtain ⟨_, _, _, c3, _, _, c6, _⟩ := h'.cells
    obtain ⟨Ao, co, c7, _⟩ := h'.lst
    exact ⟨c3, c6, Ao, co, c7⟩
  have HFI : Hid (∀ W, Below w.heap.size w W → Bxs w m A m.claims.length cap W → ((W.cell? ⟨w.heap.size, 0, none⟩ = some (.int .i64 m.kind)) ∧ (∃ z, z = W) ∧ (∀ j, W.frozen? ⟨w.heap.size + 1, j, none⟩ = false) ∧ W.heap[w.heap.size + 1]? = some (.cells #[.int .i64 0, .int .i64 0, .int .u32 0, .int .u32 0, .int .u32 0, .int .u32 0, .int .i64 0, .int .i64 0, .int .u32 0, .int .u64 0, .int .i64 0, .int .i64 0, .int .i64 0, .int .i64 0, .slice none 0 0] 39 (0, 0)))) := by
    intro W hW hB
    exact ⟨by rw [blk_cell hB.1]; rfl, ⟨W, rfl⟩, fun j => blk_free hB.2 j, hB.2⟩
  clear h hO hT hC hl hg
  generalize s.opn.length = OL at *
  generalize s.sent = SE at *
  generalize s.kn = KN at *
  obtain ⟨x0, x1, x2, x3, x4, x5, x6, x7, x8⟩ := m
  simp only [msgA] at HCM HFI ⊢
  go_enter Tryd.func14, Tryd.ntmps14
  go_wp2_with fail
  obtain ⟨hb0, hx0⟩ := HBN.out _ rfl
  refine (HM.out _ hb0).mono ?_
  rintro e w1 ⟨rfl, hw1⟩
  rw [hw1]
  clear hw1
  have h9 := nine hx0.1
  obtain ⟨⟨y0, y1, y2, y3, y4, y5, y6, y7, y8⟩, _⟩ := h9
  go_wp2_with fail
  refine (HCM.out _ hb0).mono ?_
  rintro e w2 ⟨rfl, hb⟩
  have hb2 : Below w.heap.size w w2 := hb0.trans (hb.mono hb0.size)
  have hx2 := hx0.below hb
  clear hb0 hx0 hb y0 y1 y2 y3 y4 y5 y6 y7 y8 HCM
  obtain ⟨y0, _, _, hz⟩ := HFI.out _ hb2 hx2
  obtain ⟨c3, c6, Ao, co, c7⟩ := HCL.out _ hb2
  obtain ⟨⟨b0, b1, b2, b3, b4, b5, b6, b7, b8, b9, b10, b11, b12, b13, b14⟩, fz⟩ := pk_cells hz
  have hpa := Lib.hid (pk_all hz (.int .i64 0) (.int .i64 0) (.int .u32 0) (.int .u32 0) (.int .u32 0) (.int .u32 0) (.int .i64 0) (.int .i64 0) (.int .u32 0) (.int .u64 0) (.int .i64 0) (.int .i64 0) (.int .i64 0) (.int .i64 0) (.slice none 0 0))
  have f0 := fz 0
  have f1 := fz 1
  have f2 := fz 2
  have f3 := fz 3
  have f4 := fz 4
  have f5 := fz 5
  have f6 := fz 6
  have f7 := fz 7
  have f8 := fz 8
  have f9 := fz 9
  have f10 := fz 10
  have f11 := fz 11
  have f12 := fz 12
  have f13 := fz 13
  have f14 := fz 14
  have HB2 := Lib.hid hb2
  clear fz hz hb2 hx2 HFI HCL HBN
  go_wp2_with ((with_reducible refine (isBare_any _ _).mono ?_); rintro e w3 ⟨rfl, hw3⟩; rw [hw3, HK.out]; clear hw3)
  obtain ⟨WF, hWF⟩ : ∃ WF, (((((((((((((((w2.setCell ⟨w.heap.size + 1, 0, none⟩ (.int .i64 0)).setCell ⟨w.heap.size + 1, 1, none⟩ (.int .i64 0)).setCell ⟨w.heap.size + 1, 2, none⟩ (.int .u32 0)).setCell ⟨w.heap.size + 1, 3, none⟩ (.int .u32 0)).setCell ⟨w.heap.size + 1, 4, none⟩ (.int .u32 0)).setCell ⟨w.heap.size + 1, 5, none⟩ (.int .u32 0)).setCell ⟨w.heap.size + 1, 6, none⟩ (.int .i64 0)).setCell ⟨w.heap.size + 1, 7, none⟩ (.int .i64 0)).setCell ⟨w.heap.size + 1, 8, none⟩ (.int .u32 0)).setCell ⟨w.heap.size + 1, 9, none⟩ (.int .u64 0)).setCell ⟨w.heap.size + 1, 10, none⟩ (.int .i64 0)).setCell ⟨w.heap.size + 1, 11, none⟩ (.int .i64 0)).setCell ⟨w.heap.size + 1, 12, none⟩ (.int .i64 0)).setCell ⟨w.heap.size + 1, 13, none⟩ (.int .i64 0)).setCell ⟨w.heap.size + 1, 14, none⟩ (.slice none 0 0)) = WF := ⟨_, rfl⟩
  have hpa2 := hpa.out
  rw [hWF] at hpa2 ⊢
  clear hWF hpa
  obtain ⟨bF, kF⟩ := hpa2
  obtain ⟨⟨s0, s1, s2, s3, s4, s5, s6, s7, s8, s9, s10, s11, s12, s13, s14⟩, _⟩ := pk_cells bF
  have HFF := Lib.hid (HP.out WF (HB2.out.trans (kF.below (fun k h => by omega) HB2.out.size)))
  go_wp2
  refine bodyPost_ret (v := .tuple #[zeroPk, .int .i64 111]) (by simp only [results, Tryd.results14]; simp [go_sem, s0, s1, s2, s3, s4, s5, s6, s7, s8, s9, s10, s11, s12, s13, s14]) rfl HFF.out
end Go.Proofs.YtfgajjfcjlejmaaDoor
