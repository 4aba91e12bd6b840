/-
  One bag from call to call; the laws' example.
-/
import Derived.Test.YtinihggcibghaaaB9
import Derived.Lib.SlBytesConst
namespace Go.Proofs.Ytinihggcibghaaa
set_option maxRecDepth 100000
set_option linter.unusedSimpArgs false
open Go Go.RowKit Bg
attribute [local go_sem] Oper.semAt_some

/-- A bag that a law has made: its blocks lie above what there was. -/
def One (t : TypeId) (w0 : World) (o : Nat) (b : St) (W : World) : Prop := Below w0.heap.size w0 W ∧ ∃ S, BagAt t W S o b ∧ ∀ k, S k → w0.heap.size ≤ k
namespace One
variable {t : TypeId} {w0 W W' : World} {o : Nat} {b b' : St}
theorem of {S : Nat → Prop} (h1 : Below w0.heap.size w0 W) (h3 : ∀ k, S k → w0.heap.size ≤ k) (k : StepTo t W S o b' W') : One t w0 o b' W' := by
  obtain ⟨k1, S', k2, k3, k4⟩ := k
  exact ⟨h1.trans (k1.below h3 h1.size), S', k2, fun i hi => (k4 i hi).elim (h3 i) (fun h => Nat.le_trans h1.size h)⟩
theorem later (h : One t w0 o b W) (hb : Below W.heap.size W W') : One t w0 o b W' := by
  obtain ⟨h1, S, h2, h3⟩ := h
  exact ⟨h1.trans (hb.mono h1.size), S, h2.below hb, h3⟩
theorem le (h : One t w0 o b W) : w0.heap.size ≤ W.heap.size := h.1.size
theorem new (w0 W : World) (hb : Below w0.heap.size w0 W) (t : TypeId) : One t w0 W.heap.size Bg.zero (W.alloc (.cells #[.slice none 0 0, .int .i64 0, .int .i64 0, .int .i64 0, .int .i64 0, .int .i64 0, .int .i64 0, .int .i64 0] t)) := by
  refine ⟨hb.alloc hb.size _, fun k => k = W.heap.size, ⟨⟨.slice none 0 0, [], rfl, World.alloc_heap_new W _, ⟨World.ownsRow_nil _ _ _ _, fun e he => absurd he (List.not_mem_nil), fun g hg => (by cases hg), fun e he => absurd he (List.not_mem_nil), List.Pairwise.nil⟩⟩, rfl, fun k hk => by rw [hk]; simp⟩, fun k hk => by rw [hk]; exact hb.size⟩
end One

section
variable {w0 W : World} {o k : Nat} {b : St}
theorem one_len (h : One 29 w0 o b W) : Calls Try.prog 17 #[.pointer (some ⟨o, 0, none⟩)] W fun e w' => e = .returned (.int .i64 (b.l.length : Nat)) ∧ W = w' := by
  obtain ⟨_, S, h2, _⟩ := h
  exact len_any h2
theorem one_count (h : One 29 w0 o b W) : Calls Try.prog 18 #[.pointer (some ⟨o, 0, none⟩)] W fun e w' => e = .returned (ctA b.c) ∧ One 29 w0 o b w' := by
  have h0 := h
  obtain ⟨_, S, h2, _⟩ := h
  exact (count_any h2).mono fun e w' ⟨h3, h4⟩ => ⟨h3, h0.later h4⟩
theorem one_send (h : One 29 w0 o b W) (hb : Bd k b) (hk : k ≤ 900000) (f t : Int) {d : List Nat} {A : Option Addr} {cap : Nat} (hA : BytesAt W A d) (hX : ∀ a, A = some a → 0 < d.length → a.block ≠ o) (hn : A = none → d = [] ∧ cap = 0) (hd : d.length ≤ 100000) :
    Calls Try.prog 33 #[.pointer (some ⟨o, 0, none⟩), .int .i64 f, .int .i64 t, .slice A d.length cap] W fun e w' => e = .returned (.int .i64 (comeV b)) ∧ One 29 w0 o (sendS b f t d) w' := by
  obtain ⟨h1, S, h2, h3⟩ := h
  exact (send_any h2 hb hk f t hA hX hn hd).mono fun e w' ⟨q1, q2⟩ => ⟨q1, One.of h1 h3 q2⟩
theorem one_del (h : One 29 w0 o b W) (hb : Bd k b) (hk : k ≤ 900000) (n : Int) :
    Calls Try.prog 20 #[.pointer (some ⟨o, 0, none⟩), .int .i64 n] W fun e w' => DelP (delX b n) e w' ∧ One 29 w0 o (delS b n) w' := by
  obtain ⟨h1, S, h2, h3⟩ := h
  exact (deliver_any h2 hb hk n).mono fun e w' ⟨q1, q2⟩ => ⟨q1, One.of h1 h3 q2⟩
theorem one_drop (h : One 29 w0 o b W) (hb : Bd k b) (hk : k ≤ 900000) (n : Int) :
    Calls Try.prog 21 #[.pointer (some ⟨o, 0, none⟩), .int .i64 n] W fun e w' => e = .returned (.int .i64 (errV b n)) ∧ One 29 w0 o (dropS b n) w' := by
  obtain ⟨h1, S, h2, h3⟩ := h
  exact (drop_any h2 hb hk n).mono fun e w' ⟨q1, q2⟩ => ⟨q1, One.of h1 h3 q2⟩
theorem one_dbl (h : One 29 w0 o b W) (hb : Bd k b) (hk : k ≤ 900000) (n : Int) :
    Calls Try.prog 22 #[.pointer (some ⟨o, 0, none⟩), .int .i64 n] W fun e w' => e = .returned (.tuple #[.int .i64 (dblX b n).1, .int .i64 (dblX b n).2]) ∧ One 29 w0 o (dblS b n) w' := by
  obtain ⟨h1, S, h2, h3⟩ := h
  exact (dbl_any h2 hb hk n).mono fun e w' ⟨q1, q2⟩ => ⟨q1, One.of h1 h3 q2⟩
theorem one_spoil (h : One 29 w0 o b W) (hb : Bd k b) (hk : k ≤ 900000) (n a : Int) {v : Nat} (hv : v < 256) :
    Calls Try.prog 23 #[.pointer (some ⟨o, 0, none⟩), .int .i64 n, .int .i64 a, .int .u8 (v : Nat)] W fun e w' => e = .returned (.int .i64 (spoilV b n a v)) ∧ One 29 w0 o (spoilS b n a v) w' := by
  obtain ⟨h1, S, h2, h3⟩ := h
  exact (spoil_any h2 hb hk n a hv).mono fun e w' ⟨q1, q2⟩ => ⟨q1, One.of h1 h3 q2⟩
theorem one_find (h : One 29 w0 o b W) (hb : Bd k b) (n : Int) :
    Calls Try.prog 12 #[.pointer (some ⟨o, 0, none⟩), .int .i64 n] W fun e w' => FinP (finX b n) e w' ∧ Below W.heap.size W w' ∧ One 29 w0 o b w' := by
  have h0 := h
  obtain ⟨h1, S, h2, h3⟩ := h
  exact (find_any h2 hb n).mono fun e w' ⟨q1, q2⟩ => ⟨q1, q2, h0.later q2⟩
theorem one_all (h : One 29 w0 o b W) (hb : Bd k b) :
    Calls Try.prog 14 #[.pointer (some ⟨o, 0, none⟩)] W fun e w' => AllP W b.l e w' ∧ One 29 w0 o b w' := by
  have h0 := h
  obtain ⟨h1, S, h2, h3⟩ := h
  refine (all_any h2 hb).mono fun e w' h4 => ⟨h4, ?_⟩
  obtain ⟨v, E, _, _, _, h5⟩ := h4
  exact h0.later h5
end

set_option maxHeartbeats 2000000 in
theorem alive_any (w : World) : Calls Try.prog 19 #[] w fun e w' => e = .returned (.bool true) ∧ Below w.heap.size w w' := by
  have H0 : Hid (∀ (W : World) (d : List Nat) (A : Option Addr) (cap : Nat), One 29 w w.heap.size Bg.zero W → BytesAt W A d → (∀ a, A = some a → 0 < d.length → a.block ≠ w.heap.size) → (A = none → d = [] ∧ cap = 0) → d = [97, 98] → Calls Try.prog 33 #[.pointer (some ⟨w.heap.size, 0, none⟩), .int .i64 1, .int .i64 2, .slice A 2 cap] W fun e w' => e = .returned (.int .i64 1) ∧ One 29 w w.heap.size (sendS Bg.zero 1 2 [97, 98]) w') := fun W d A cap h1 h2 h3 h4 h5 => by
    subst h5
    exact one_send h1 (Bd.zero 0) (by omega) 1 2 h2 h3 h4 (by decide)
  have b1 : Bd 2 (sendS Bg.zero 1 2 [97, 98]) := (Bd.zero 0).send 1 2 (by decide) (by decide)
  have b2 : Bd 4 (dblS (sendS Bg.zero 1 2 [97, 98]) 1) := b1.dbl2 1
  have b3 : Bd 5 (spoilS (dblS (sendS Bg.zero 1 2 [97, 98]) 1) 1 0 2) := b2.spoil1 1 0 (by decide)
  have H1 : Hid (∀ W, One 29 w w.heap.size (sendS Bg.zero 1 2 [97, 98]) W → Calls Try.prog 22 #[.pointer (some ⟨w.heap.size, 0, none⟩), .int .i64 1] W fun e w' => e = .returned (.tuple #[.int .i64 2, .int .i64 0]) ∧ One 29 w w.heap.size (dblS (sendS Bg.zero 1 2 [97, 98]) 1) w') := fun W h => one_dbl h b1 (by omega) 1
  have H2 : Hid (∀ W, One 29 w w.heap.size (dblS (sendS Bg.zero 1 2 [97, 98]) 1) W → Calls Try.prog 23 #[.pointer (some ⟨w.heap.size, 0, none⟩), .int .i64 1, .int .i64 0, .int .u8 2] W fun e w' => e = .returned (.int .i64 0) ∧ One 29 w w.heap.size (spoilS (dblS (sendS Bg.zero 1 2 [97, 98]) 1) 1 0 2) w') := fun W h => one_spoil h b2 (by omega) 1 0 (v := 2) (by decide)
  have H3 : Hid (∀ W, One 29 w w.heap.size (spoilS (dblS (sendS Bg.zero 1 2 [97, 98]) 1) 1 0 2) W → Calls Try.prog 23 #[.pointer (some ⟨w.heap.size, 0, none⟩), .int .i64 1, .int .i64 0, .int .u8 2] W fun e w' => e = .returned (.int .i64 80) ∧ One 29 w w.heap.size (spoilS (spoilS (dblS (sendS Bg.zero 1 2 [97, 98]) 1) 1 0 2) 1 0 2) w') := fun W h => one_spoil h b3 (by omega) 1 0 (v := 2) (by decide)
  have H4 : Hid (∀ W, One 29 w w.heap.size (spoilS (spoilS (dblS (sendS Bg.zero 1 2 [97, 98]) 1) 1 0 2) 1 0 2) W → Calls Try.prog 17 #[.pointer (some ⟨w.heap.size, 0, none⟩)] W fun e w' => e = .returned (.int .i64 2) ∧ W = w') := fun W h => one_len h
  have HN : Hid (∀ (x : Obj), One 29 w w.heap.size Bg.zero ((w.alloc (.cells #[.slice none 0 0, .int .i64 0, .int .i64 0, .int .i64 0, .int .i64 0, .int .i64 0, .int .i64 0, .int .i64 0] 29)).alloc x)) := fun x =>
    (One.new w w (Below.refl _ w) 29).later ((Below.refl _ _).alloc (Nat.le_refl _) _)
  have kc : ∀ (W : World) (x : Obj) (C : Array Value) (n c : Nat), (convert 34 34 (.slice (some ⟨W.heap.size + 1, 0, none⟩) n c)).run Try.prog ((W.alloc x).alloc (.cells C 5)) = .ok (.slice (some ⟨W.heap.size + 1, 0, none⟩) n c) ((W.alloc x).alloc (.cells C 5 (C.size, C.size + 1))) := fun W x C n c => by
    have := Lib.run_convert_bytes_const (P := Try.prog) (W.alloc x) 34 5 C n c Try.underlying34 Try.underlying5
    rwa [World.size_alloc] at this
  go_enter Try.func19, Try.ntmps19
  go_wp2_with fail
  have hnew : ((w.alloc (.cells #[.slice none 0 0, .int .i64 0, .int .i64 0, .int .i64 0, .int .i64 0, .int .i64 0, .int .i64 0, .int .i64 0] 29)).alloc (.cells #[.int .u8 97, .int .u8 98] 5 (2, 3))).heap[w.heap.size + 1]? = some (.cells #[.int .u8 97, .int .u8 98] 5 (2, 3)) := by
    have := World.alloc_heap_new (w.alloc (.cells #[.slice none 0 0, .int .i64 0, .int .i64 0, .int .i64 0, .int .i64 0, .int .i64 0, .int .i64 0, .int .i64 0] 29)) (.cells #[.int .u8 97, .int .u8 98] 5 (2, 3))
    rwa [World.size_alloc] at this
  refine (H0.out _ [97, 98] _ _ (HN.out _) (fun j hj => ⟨_, rfl, ?_⟩) (fun a ha _ => by cases ha; simp) (fun e => by cases e) rfl).mono ?_
  · match j, hj with
    | 0, _ => rw [show (⟨w.heap.size + 1, 0, none⟩ : Addr).add 0 = ⟨w.heap.size + 1, 0, none⟩ from rfl, blk_cell hnew]; rfl
    | 1, _ => rw [show (⟨w.heap.size + 1, 0, none⟩ : Addr).add 1 = ⟨w.heap.size + 1, 1, none⟩ from rfl, blk_cell hnew]; rfl
  clear hnew
  rintro e w1 ⟨rfl, h1⟩
  have P1 := Lib.hid (H1.out w1 h1)
  clear H0 H1 HN h1 kc
  go_wp2_with fail
  refine P1.out.mono ?_
  rintro e w2 ⟨rfl, h2⟩
  have P2 := Lib.hid (H2.out w2 h2)
  clear H2 P1 h2
  go_wp2_with fail
  refine P2.out.mono ?_
  rintro e w3 ⟨rfl, h3⟩
  have P3 := Lib.hid (H3.out w3 h3)
  clear H3 P2 h3
  go_wp2_with fail
  refine P3.out.mono ?_
  rintro e w4 ⟨rfl, h4⟩
  have P4 := Lib.hid (H4.out w4 h4)
  have HB := Lib.hid h4.1
  clear H4 P3 h4
  go_wp2_with fail
  refine P4.out.mono ?_
  rintro e w5 ⟨rfl, rfl⟩
  go_wp2
  go_ret
  exact ⟨rfl, HB.out⟩
end Go.Proofs.Ytinihggcibghaaa
