/-
  BagRefuses: what is known behind the calls.
-/
import Derived.Test.YtinihggcibghaaaBn0b
namespace Go.Proofs.Ytinihggcibghaaa
set_option maxRecDepth 100000
set_option linter.unusedSimpArgs false
open Go Go.RowKit Bg
attribute [local go_sem] Oper.semAt_some

/-- Between two rounds. -/
def RfI (w w1 : World) (o1 o2 j : Nat) (wr : World) : Prop := ∃ b : St, Two w o1 o2 b b (fun k => k = w.heap.size) w1 wr ∧ Bd (600 * j) b ∧ Srt b
/-- Behind the calls: the bag, the list that was told, its counts. -/
structure Mid (w : World) (o1 o2 : Nat) (b : St) (x : Cl) (F : Nat → Prop) (V : World) (c : Nat) (A2 : Option Addr) (cap2 : Nat) : Prop where
  two : Two w o1 o2 b b F V V
  bd : Bd 80000 b
  srt : Srt b
  box : V.heap[w.heap.size]? = some (opX x) ∧ F w.heap.size
  cnt : V.heap[c]? = some (.cells #[.int .i64 (b.c.sent : Nat), .int .i64 (b.c.del : Nat), .int .i64 (b.c.drp : Nat), .int .i64 (b.c.dbl : Nat), .int .i64 (b.c.spt : Nat), .int .i64 (b.c.lost : Nat)] 27 (0, 0)) ∧ F c
  was : ∀ W, (∀ k, F k → W.heap[k]? = V.heap[k]?) → AllL W b.l A2 cap2
  ok : x.v < 256
def cntC (b : St) (c : Nat) (W : World) : Prop := W.cell? ⟨c, 0, none⟩ = some (.int .i64 (b.c.sent : Nat)) ∧ W.cell? ⟨c, 1, none⟩ = some (.int .i64 (b.c.del : Nat)) ∧ W.cell? ⟨c, 2, none⟩ = some (.int .i64 (b.c.drp : Nat)) ∧ W.cell? ⟨c, 3, none⟩ = some (.int .i64 (b.c.dbl : Nat)) ∧ W.cell? ⟨c, 4, none⟩ = some (.int .i64 (b.c.spt : Nat)) ∧ W.cell? ⟨c, 5, none⟩ = some (.int .i64 (b.c.lost : Nat))
section
variable {w V : World} {o1 o2 c cap2 : Nat} {b : St} {x : Cl} {F : Nat → Prop} {A2 : Option Addr}
theorem Mid.made {w w1 wr w3 w4 : World} (hT : Two w o1 o2 b b (fun k => k = w.heap.size) w1 wr) (hb : Bd 80000 b) (hs : Srt b) (hbx : w1.heap[w.heap.size]? = some (opX x)) (hv : x.v < 256) {v : Value} (hv2 : v = .slice A2 b.l.length cap2) (hTo : Told w o1 o2 b b (fun k => k = w.heap.size) w1 wr b.l v w3) (h4 : Below w3.heap.size w3 w4) :
    Mid w o1 o2 b x (fun k => k = w.heap.size ∨ wr.heap.size ≤ k ∧ k < w4.heap.size + 1) (w4.alloc (.cells #[.int .i64 (b.c.sent : Nat), .int .i64 (b.c.del : Nat), .int .i64 (b.c.drp : Nat), .int .i64 (b.c.dbl : Nat), .int .i64 (b.c.spt : Nat), .int .i64 (b.c.lost : Nat)] 27)) w4.heap.size A2 cap2 := by
  have hb3 : Below wr.heap.size wr w4 := hTo.below.trans (h4.mono hTo.below.size)
  have hb5 : Below wr.heap.size wr (w4.alloc (.cells #[.int .i64 (b.c.sent : Nat), .int .i64 (b.c.del : Nat), .int .i64 (b.c.drp : Nat), .int .i64 (b.c.dbl : Nat), .int .i64 (b.c.spt : Nat), .int .i64 (b.c.lost : Nat)] 27)) := hb3.alloc hb3.size _
  have hT5 := hT.fresh hb5
  have hq := hT.flt (k := w.heap.size) rfl
  have hsz3 := hTo.below.size
  have hsz4 := h4.size
  refine ⟨?_, hb, hs, ⟨?_, .inl rfl⟩, ⟨World.alloc_heap_new w4 _, .inr ⟨by omega, by omega⟩⟩, fun W hW => ?_, hv⟩
  · simpa using hT5
  · exact (hb5.block _ hq).trans ((hT.blk (k := w.heap.size) rfl).trans hbx)
  · refine hTo.allL hv2 (fun k h1 h2 => ?_) hb.len (fun y hy => (hb.dat y hy).2)
    rw [hW k (.inr ⟨h1, by omega⟩), Below.heap_alloc _ _ _ (by omega)]
    exact h4.block k h2
theorem Mid.cells (h : Mid w o1 o2 b x F V c A2 cap2) {W : World} (hW : ∀ k, F k → W.heap[k]? = V.heap[k]?) : opCells W w.heap.size x ∧ cntC b c W := by
  have h1 : W.heap[w.heap.size]? = _ := (hW _ h.box.2).trans h.box.1
  have h2 : W.heap[c]? = _ := (hW _ h.cnt.2).trans h.cnt.1
  exact ⟨opX_cells h1, by rw [blk_cell h2]; rfl, by rw [blk_cell h2]; rfl, by rw [blk_cell h2]; rfl, by rw [blk_cell h2]; rfl, by rw [blk_cell h2]; rfl, by rw [blk_cell h2]; rfl⟩
theorem Mid.del (h : Mid w o1 o2 b x F V c A2 cap2) (hk : x.kind = 1) : Calls Try.prog 20 #[.pointer (some ⟨o1, 0, none⟩), .int .i64 x.n] V fun e w6 => (∃ u, e = .returned (.tuple #[u, .int .i64 (eV b x)])) ∧ Two w o1 o2 (opS b x) b F V w6 := by
  refine (two1_del h.two h.bd (by omega) x.n).mono ?_
  rintro e w6 ⟨A, cap, rfl, _, h3, h4⟩
  have e1 : eV b x = (delX b x.n).2 := by unfold eV; rw [if_pos hk]
  have e2 : opS b x = delS b x.n := by unfold opS; rw [if_neg (by omega), if_pos hk]
  rw [e1, e2]
  exact ⟨⟨_, rfl⟩, h3.back (fun k hk => ⟨.inl hk, h4 k hk⟩)⟩
theorem Mid.drop (h : Mid w o1 o2 b x F V c A2 cap2) (hk : x.kind = 2) : Calls Try.prog 21 #[.pointer (some ⟨o1, 0, none⟩), .int .i64 x.n] V fun e w6 => e = .returned (.int .i64 (eV b x)) ∧ Two w o1 o2 (opS b x) b F V w6 := by
  refine (two1_drop h.two h.bd (by omega) x.n).mono ?_
  rintro e w6 ⟨rfl, h3⟩
  have e1 : eV b x = errV b x.n := by unfold eV; rw [if_neg (by omega), if_pos hk]
  have e2 : opS b x = dropS b x.n := by unfold opS; rw [if_neg (by omega), if_neg (by omega), if_pos hk]
  rw [e1, e2]
  exact ⟨rfl, h3⟩
theorem Mid.dbl (h : Mid w o1 o2 b x F V c A2 cap2) (hk : x.kind = 3) : Calls Try.prog 22 #[.pointer (some ⟨o1, 0, none⟩), .int .i64 x.n] V fun e w6 => (∃ u, e = .returned (.tuple #[u, .int .i64 (eV b x)])) ∧ Two w o1 o2 (opS b x) b F V w6 := by
  refine (two1_dbl h.two h.bd (by omega) x.n).mono ?_
  rintro e w6 ⟨rfl, h3⟩
  have e1 : eV b x = (dblX b x.n).2 := by unfold eV; rw [if_neg (by omega), if_neg (by omega), if_pos hk]
  have e2 : opS b x = dblS b x.n := by unfold opS; rw [if_neg (by omega), if_neg (by omega), if_neg (by omega), if_pos hk]
  rw [e1, e2]
  exact ⟨⟨_, rfl⟩, h3⟩
theorem Mid.spoil (h : Mid w o1 o2 b x F V c A2 cap2) (hk : x.kind = 4) : Calls Try.prog 23 #[.pointer (some ⟨o1, 0, none⟩), .int .i64 x.n, .int .i64 x.at_, .int .u8 (x.v : Nat)] V fun e w6 => e = .returned (.int .i64 (eV b x)) ∧ Two w o1 o2 (opS b x) b F V w6 := by
  refine (two1_spoil h.two h.bd (by omega) x.n x.at_ h.ok).mono ?_
  rintro e w6 ⟨rfl, h3⟩
  have e1 : eV b x = spoilV b x.n x.at_ x.v := by unfold eV; rw [if_neg (by omega), if_neg (by omega), if_neg (by omega), if_pos hk]
  have e2 : opS b x = spoilS b x.n x.at_ x.v := by unfold opS; rw [if_neg (by omega), if_neg (by omega), if_neg (by omega), if_neg (by omega), if_pos hk]
  rw [e1, e2]
  exact ⟨rfl, h3⟩
theorem Mid.other (h : Mid w o1 o2 b x F V c A2 cap2) (h0 : x.kind ≠ 0) (h1 : x.kind ≠ 1) (h2 : x.kind ≠ 2) (h3 : x.kind ≠ 3) (h4 : x.kind ≠ 4) : eV b x = 0 ∧ Two w o1 o2 (opS b x) b F V V := by
  have e1 : eV b x = 0 := by unfold eV; rw [if_neg h1, if_neg h2, if_neg h3, if_neg h4]
  have e2 : opS b x = b := by unfold opS; rw [if_neg h0, if_neg h1, if_neg h2, if_neg h3, if_neg h4]
  rw [e2]
  exact ⟨e1, h.two⟩
/-- Refused: what All and Count tell is what they told. -/
theorem Mid.again (h : Mid w o1 o2 b x F V c A2 cap2) {wx : World} (hT : Two w o1 o2 b b F V wx) :
    Calls Try.prog 14 #[.pointer (some ⟨o1, 0, none⟩)] wx fun e w7 => ∃ A7 c7, e = .returned (.slice A7 b.l.length c7) ∧ cntC b c w7 ∧ Calls Try.prog 16 #[.slice A7 b.l.length c7, .slice A2 b.l.length cap2] w7 fun e w8 => e = .returned (.bool true) ∧ cntC b c w8 ∧
      Calls Try.prog 18 #[.pointer (some ⟨o1, 0, none⟩)] w8 fun e w9 => e = .returned (ctA b.c) ∧ cntC b c w9 ∧ Below w.heap.size w w9 := by
  refine (two1_all hT h.bd).mono ?_
  rintro e w7 ⟨v, rfl, ⟨A7, c7, rfl, _, _⟩, hTo⟩
  have hlt : ∀ y ∈ b.l, ∀ c ∈ y.d, c < 256 := fun y hy => (h.bd.dat y hy).2
  have hf := fun k (hk : F k) => hTo.two.blk hk
  refine ⟨A7, c7, rfl, (h.cells hf).2, (rall_any (hTo.allL rfl (fun _ _ _ => rfl) h.bd.len hlt) (h.was _ hf)).mono ?_⟩
  rintro e w8 ⟨rfl, hb8⟩
  have hT8 := hTo.two.later hb8
  refine ⟨by rw [decide_eq_true rfl], (h.cells (fun k hk => hT8.blk hk)).2, (two1_count hT8).mono ?_⟩
  rintro e w9 ⟨rfl, hb9⟩
  have hT9 := hT8.later hb9
  exact ⟨rfl, (h.cells (fun k hk => hT9.blk hk)).2, hT9.1⟩
/-- Done: a packet of those that were told. -/
theorem Mid.each (h : Mid w o1 o2 b x F V c A2 cap2) (h0 : x.kind ≠ 0) {wx : World} (hT : Two w o1 o2 (opS b x) b F V wx) {i : Nat} (hi : i < b.l.length) (hb2 : Bd 80002 (opS b x)) :
    ∃ g Aq cq, A2 = some ⟨g, 0, none⟩ ∧ (∀ W, Below wx.heap.size wx W → (W.cell? ⟨g, i * 5, none⟩ = some (.int .i64 (b.l.getD i noFl).n) ∧ W.cell? ⟨g, i * 5 + 1, none⟩ = some (.int .i64 (b.l.getD i noFl).f) ∧ W.cell? ⟨g, i * 5 + 2, none⟩ = some (.int .i64 (b.l.getD i noFl).t) ∧ W.cell? ⟨g, i * 5 + 3, none⟩ = some (.slice Aq (b.l.getD i noFl).d.length cq) ∧ W.cell? ⟨g, i * 5 + 4, none⟩ = some (.bool (b.l.getD i noFl).s)) ∧ W.cell? ⟨w.heap.size, 1, none⟩ = some (.int .i64 x.n)) ∧
      Calls Try.prog 12 #[.pointer (some ⟨o1, 0, none⟩), .int .i64 (b.l.getD i noFl).n] wx fun e w7 => ∃ (y : Fl) (A7 : Option Addr) (c7 : Nat) (is : Bool), e = .returned (.tuple #[flA y (.slice A7 y.d.length c7), .bool is]) ∧ Below wx.heap.size wx w7 ∧
        ((b.l.getD i noFl).n ≠ x.n → y = b.l.getD i noFl ∧ is = true ∧ ∀ W, Below w7.heap.size w7 W → Calls Try.prog 15 #[flA (b.l.getD i noFl) (.slice A7 (b.l.getD i noFl).d.length c7), flA (b.l.getD i noFl) (.slice Aq (b.l.getD i noFl).d.length cq)] W fun e w8 => e = .returned (.bool true) ∧ Below W.heap.size W w8) := by
  have hwx : ∀ k, F k → wx.heap[k]? = V.heap[k]? := fun k hk => hT.blk hk
  obtain ⟨g, hg, hq⟩ := (h.was wx hwx).at_ (by omega)
  obtain ⟨⟨z0, z1, z2, z4⟩, Aq, cq, z3, hBy⟩ := hq.cells i hi
  have hxc := (h.cells hwx).1.2.1
  refine ⟨g, Aq, cq, hg, fun W hW => ?_, (two1_find hT hb2 (b.l.getD i noFl).n).mono ?_⟩
  · have kk : Kept (fun _ => False) wx W := Kept.of_below hW (Nat.le_refl _)
    exact ⟨⟨kk.cell z0 id, kk.cell z1 id, kk.cell z2 id, kk.cell z3 id, kk.cell z4 id⟩, kk.cell hxc id⟩
  · rintro e w7 ⟨⟨A7, c7, rfl, hA7, _⟩, hb7⟩
    refine ⟨_, A7, c7, _, rfl, hb7, fun hne => ?_⟩
    have hfd := found h.srt h0 hi hne
    rw [hfd] at hA7 ⊢
    have hlt := (h.bd.at_ hi).2
    refine ⟨rfl, rfl, fun W hW => (same_any _ _ c7 cq (hA7.below hW) ((hBy.below hb7).below hW) hlt hlt).mono ?_⟩
    rintro e w8 ⟨rfl, hb8⟩
    exact ⟨by rw [decide_eq_true rfl], hb8⟩
end
end Go.Proofs.Ytinihggcibghaaa
