/-
  Two bags side by side, and blocks that stay.
-/
import Derived.Test.YtinihggcibghaaaBl6
import Derived.Test.YtinihggcibghaaaBa
import Derived.Test.YtinihggcibghaaaBc
namespace Go.Proofs.Ytinihggcibghaaa
set_option maxRecDepth 100000
set_option linter.unusedSimpArgs false
open Go Go.RowKit Bg
attribute [local go_sem] Oper.semAt_some

/-- The program's bag and the document's; the blocks F are as they were in V. -/
def Two (w0 : World) (o1 o2 : Nat) (b1 b2 : St) (F : Nat → Prop) (V W : World) : Prop := Below w0.heap.size w0 W ∧ ∃ S1 S2, BagAt 29 W S1 o1 b1 ∧ BagAt 32 W S2 o2 b2 ∧ (∀ k, S1 k → ¬ S2 k) ∧ (∀ k, S1 k → w0.heap.size ≤ k) ∧ (∀ k, S2 k → w0.heap.size ≤ k) ∧ ∀ k, F k → (k < V.heap.size ∧ W.heap[k]? = V.heap[k]?) ∧ ¬ S1 k ∧ ¬ S2 k
namespace Two
variable {w0 V W W' : World} {o1 o2 : Nat} {b1 b2 b1' b2' : St} {F F' : Nat → Prop}
theorem use1 (h : Two w0 o1 o2 b1 b2 F V W) : ∃ S, BagAt 29 W S o1 b1 ∧ (∀ k, S k → w0.heap.size ≤ k) ∧ ∀ W' b', StepTo 29 W S o1 b' W' → Two w0 o1 o2 b' b2 F V W' := by
  obtain ⟨h1, S1, S2, h2, h3, h4, h5, h6, h7⟩ := h
  refine ⟨S1, h2, h5, fun W' b' hs => ?_⟩
  obtain ⟨k1, S', k2, k3, k4⟩ := hs
  refine ⟨h1.trans (k1.below h5 h1.size), S', S2, k2, h3.kept k1 (fun k hk hs => h4 k hs hk), fun k hk hs => (k4 k hk).elim (fun h => h4 k h hs) (fun h => by have := h3.lt k hs; omega), fun k hk => (k4 k hk).elim (h5 k) (fun h => Nat.le_trans h1.size h), h6, fun k hk => ?_⟩
  obtain ⟨⟨q1, q2⟩, q3, q4⟩ := h7 k hk
  have hlt : k < W.heap.size := by
    rw [Array.getElem?_eq_getElem q1] at q2
    exact (Array.getElem?_eq_some_iff.1 q2).1
  exact ⟨⟨q1, (k1.block k hlt q3).trans q2⟩, fun hs => (k4 k hs).elim q3 (fun h => by omega), q4⟩
theorem use2 (h : Two w0 o1 o2 b1 b2 F V W) : ∃ S, BagAt 32 W S o2 b2 ∧ (∀ k, S k → w0.heap.size ≤ k) ∧ ∀ W' b', StepTo 32 W S o2 b' W' → Two w0 o1 o2 b1 b' F V W' := by
  obtain ⟨h1, S1, S2, h2, h3, h4, h5, h6, h7⟩ := h
  refine ⟨S2, h3, h6, fun W' b' hs => ?_⟩
  obtain ⟨k1, S', k2, k3, k4⟩ := hs
  refine ⟨h1.trans (k1.below h6 h1.size), S1, S', h2.kept k1 (fun k hk hs => h4 k hk hs), k2, fun k hk hs => (k4 k hs).elim (fun h => h4 k hk h) (fun h => by have := h2.lt k hk; omega), h5, fun k hk => (k4 k hk).elim (h6 k) (fun h => Nat.le_trans h1.size h), fun k hk => ?_⟩
  obtain ⟨⟨q1, q2⟩, q3, q4⟩ := h7 k hk
  have hlt : k < W.heap.size := by
    rw [Array.getElem?_eq_getElem q1] at q2
    exact (Array.getElem?_eq_some_iff.1 q2).1
  exact ⟨⟨q1, (k1.block k hlt q4).trans q2⟩, q3, fun hs => (k4 k hs).elim q4 (fun h => by omega)⟩
theorem flt (h : Two w0 o1 o2 b1 b2 F V W) {k : Nat} (hk : F k) : k < W.heap.size := by
  obtain ⟨h1, S1, S2, h2, h3, h4, h5, h6, h7⟩ := h
  obtain ⟨⟨q1, q2⟩, _⟩ := h7 k hk
  rw [Array.getElem?_eq_getElem q1] at q2
  exact (Array.getElem?_eq_some_iff.1 q2).1
theorem blk (h : Two w0 o1 o2 b1 b2 F V W) {k : Nat} (hk : F k) : W.heap[k]? = V.heap[k]? := by
  obtain ⟨h1, S1, S2, h2, h3, h4, h5, h6, h7⟩ := h
  exact (h7 k hk).1.2
theorem bytes (h : Two w0 o1 o2 b1 b2 F V W) {A : Option Addr} {d : List Nat} (hA : BytesAt V A d) (hF : ∀ a, A = some a → 0 < d.length → F a.block) : BytesAt W A d := by
  intro j hj
  obtain ⟨a, e, h1⟩ := hA j hj
  refine ⟨a, e, ?_⟩
  have e2 : W.heap[(a.add j).block]? = V.heap[(a.add j).block]? := by rw [add_block]; exact h.blk (hF a e (by omega))
  rw [World.cell?_of_block e2]
  exact h1
/-- The world grows: what is new stays as it is. -/
theorem fresh (h : Two w0 o1 o2 b1 b2 F V W) (hb : Below W.heap.size W W') : Two w0 o1 o2 b1 b2 (fun k => F k ∨ W.heap.size ≤ k ∧ k < W'.heap.size) W' W' := by
  have hf := fun k => h.flt (k := k)
  obtain ⟨h1, S1, S2, h2, h3, h4, h5, h6, h7⟩ := h
  refine ⟨h1.trans (hb.mono h1.size), S1, S2, h2.below hb, h3.below hb, h4, h5, h6, fun k hk => ?_⟩
  have hsz := hb.size
  rcases hk with hk | ⟨hk, hk2⟩
  · have := hf k hk
    exact ⟨⟨by omega, rfl⟩, (h7 k hk).2⟩
  · exact ⟨⟨hk2, rfl⟩, fun hs => by have := h2.lt k hs; omega, fun hs => by have := h3.lt k hs; omega⟩
theorem later (h : Two w0 o1 o2 b1 b2 F V W) (hb : Below W.heap.size W W') : Two w0 o1 o2 b1 b2 F V W' := by
  have hf := fun k => h.flt (k := k)
  obtain ⟨h1, S1, S2, h2, h3, h4, h5, h6, h7⟩ := h
  exact ⟨h1.trans (hb.mono h1.size), S1, S2, h2.below hb, h3.below hb, h4, h5, h6, fun k hk => ⟨⟨(h7 k hk).1.1, (hb.block k (hf k hk)).trans (h7 k hk).1.2⟩, (h7 k hk).2⟩⟩
theorem less (h : Two w0 o1 o2 b1 b2 F V W) (hF : ∀ k, F' k → F k) : Two w0 o1 o2 b1 b2 F' V W := by
  obtain ⟨h1, S1, S2, h2, h3, h4, h5, h6, h7⟩ := h
  exact ⟨h1, S1, S2, h2, h3, h4, h5, h6, fun k hk => h7 k (hF k hk)⟩
/-- Blocks that stayed are written. -/
theorem writes {G : Nat → Prop} (h : Two w0 o1 o2 b1 b2 F V W) (hk : Kept G W W') (hG : ∀ k, G k → F k ∧ w0.heap.size ≤ k) : Two w0 o1 o2 b1 b2 (fun k => F k ∧ ¬ G k) V W' := by
  have hf := fun k => h.flt (k := k)
  obtain ⟨h1, S1, S2, h2, h3, h4, h5, h6, h7⟩ := h
  exact ⟨h1.trans (hk.below (fun k hk => (hG k hk).2) h1.size), S1, S2, h2.kept hk (fun k hs hg => (h7 k (hG k hg).1).2.1 hs), h3.kept hk (fun k hs hg => (h7 k (hG k hg).1).2.2 hs), h4, h5, h6, fun k hk' => ⟨⟨(h7 k hk'.1).1.1, (hk.block k (hf k hk'.1) hk'.2).trans (h7 k hk'.1).1.2⟩, (h7 k hk'.1).2⟩⟩
theorem rewrite {G : Nat → Prop} (h : Two w0 o1 o2 b1 b2 F V W) (hk : Kept G W W') (hG : ∀ k, G k → F k ∧ w0.heap.size ≤ k) : Two w0 o1 o2 b1 b2 F W' W' := by
  have hf := fun k => h.flt (k := k)
  obtain ⟨h1, S1, S2, h2, h3, h4, h5, h6, h7⟩ := h
  exact ⟨h1.trans (hk.below (fun k hk => (hG k hk).2) h1.size), S1, S2, h2.kept hk (fun k hs hg => (h7 k (hG k hg).1).2.1 hs), h3.kept hk (fun k hs hg => (h7 k (hG k hg).1).2.2 hs), h4, h5, h6, fun k hk' => ⟨⟨Nat.lt_of_lt_of_le (hf k hk') hk.size, rfl⟩, (h7 k hk').2⟩⟩
/-- Back to what was known before. -/
theorem back {V2 W2 : World} {F2 : Nat → Prop} (h2 : Two w0 o1 o2 b1 b2 F2 V2 W2) (hF : ∀ k, F k → F2 k ∧ k < V.heap.size ∧ V2.heap[k]? = V.heap[k]?) : Two w0 o1 o2 b1 b2 F V W2 := by
  have hbk := fun k => h2.blk (k := k)
  obtain ⟨h1, S1, S2, q2, q3, q4, q5, q6, q7⟩ := h2
  exact ⟨h1, S1, S2, q2, q3, q4, q5, q6, fun k hk => ⟨⟨(hF k hk).2.1, (hbk k (hF k hk).1).trans (hF k hk).2.2⟩, (q7 k (hF k hk).1).2⟩⟩
theorem ne1 (h : Two w0 o1 o2 b1 b2 F V W) {k : Nat} (hk : F k) : k ≠ o1 := by
  obtain ⟨h1, S1, S2, h2, h3, h4, h5, h6, h7⟩ := h
  exact fun e => (h7 k hk).2.1 (e ▸ h2.so)
theorem le1 (h : Two w0 o1 o2 b1 b2 F V W) : w0.heap.size ≤ o1 ∧ w0.heap.size ≤ o2 ∧ w0.heap.size ≤ W.heap.size := by
  obtain ⟨h1, S1, S2, h2, h3, h4, h5, h6, h7⟩ := h
  exact ⟨h5 _ h2.so, h6 _ h3.so, h1.size⟩
end Two

section
variable {w0 V W : World} {o1 o2 k : Nat} {b b2 : St} {F : Nat → Prop}
theorem two1_send (h : Two w0 o1 o2 b b2 F V W) (hb : Bd k b) (hk : k ≤ 900000) (f t : Int) {d : List Nat} {A : Option Addr} {cap : Nat} (hA : BytesAt W A d) (hX : ∀ a, A = some a → 0 < d.length → a.block ≠ o1) (hn : A = none → d = [] ∧ cap = 0) (hd : d.length ≤ 100000) :
    Calls Try.prog 33 #[.pointer (some ⟨o1, 0, none⟩), .int .i64 f, .int .i64 t, .slice A d.length cap] W fun e w' => e = .returned (.int .i64 (comeV b)) ∧ Two w0 o1 o2 (sendS b f t d) b2 F V w' := by
  obtain ⟨S, h1, _, h2⟩ := h.use1
  exact (send_any h1 hb hk f t hA hX hn hd).mono fun e w' ⟨q1, q2⟩ => ⟨q1, h2 _ _ q2⟩
theorem two2_send (h : Two w0 o1 o2 b2 b F V W) (hb : Bd k b) (hk : k ≤ 900000) (f t : Int) {d : List Nat} {A : Option Addr} {cap : Nat} (hA : BytesAt W A d) (hX : ∀ a, A = some a → 0 < d.length → a.block ≠ o2) (hn : A = none → d = [] ∧ cap = 0) (hd : d.length ≤ 100000) :
    Calls Try.prog 34 #[.pointer (some ⟨o2, 0, none⟩), .int .i64 f, .int .i64 t, .slice A d.length cap] W fun e w' => e = .returned (.int .i64 (comeV b)) ∧ Two w0 o1 o2 b2 (sendS b f t d) F V w' := by
  obtain ⟨S, h1, _, h2⟩ := h.use2
  exact (rsend_any h1 hb hk f t hA hX hn hd).mono fun e w' ⟨q1, q2⟩ => ⟨q1, h2 _ _ q2⟩
theorem two1_del (h : Two w0 o1 o2 b b2 F V W) (hb : Bd k b) (hk : k ≤ 900000) (n : Int) :
    Calls Try.prog 20 #[.pointer (some ⟨o1, 0, none⟩), .int .i64 n] W fun e w' => ∃ A cap, e = .returned (.tuple #[flA (delX b n).1 (.slice A (delX b n).1.d.length cap), .int .i64 (delX b n).2]) ∧ BytesAt w' A (delX b n).1.d ∧ Two w0 o1 o2 (delS b n) b2 (fun k => F k ∨ ∃ a, A = some a ∧ 0 < (delX b n).1.d.length ∧ k = a.block) w' w' ∧ ∀ k, F k → k < V.heap.size ∧ w'.heap[k]? = V.heap[k]? := by
  have hf := fun k => h.flt (k := k)
  obtain ⟨h1, S1, S2, h2, h3, h4, h5, h6, h7⟩ := h
  refine (deliver_q h2 hb hk n).mono ?_
  rintro e w' ⟨A, cap, q1, q2, q3, qS, q4, q5⟩
  have hbk : ∀ k, F k → w'.heap[k]? = W.heap[k]? := fun k hk => q4.block k (hf k hk) (h7 k hk).2.1
  refine ⟨A, cap, q1, q2, ?_, fun k hk => ⟨(h7 k hk).1.1, (hbk k hk).trans (h7 k hk).1.2⟩⟩
  refine ⟨h1.trans (q4.below h5 h1.size), _, S2, q5, h3.kept q4 (fun k hk hs => h4 k hs hk), fun k hk hs => h4 k hk.1 hs, fun k hk => h5 k hk.1, h6, ?_⟩
  rintro k (hk | ⟨a, ha, h0, rfl⟩)
  · exact ⟨⟨Nat.lt_of_lt_of_le (hf k hk) q4.size, rfl⟩, fun hs => (h7 k hk).2.1 hs.1, (h7 k hk).2.2⟩
  · exact ⟨⟨q2.lt a ha h0, rfl⟩, fun hs => hs.2 a ha rfl, fun hs => h4 _ (qS a ha) hs⟩
theorem two2_del (h : Two w0 o1 o2 b2 b F V W) (hb : Bd k b) (hk : k ≤ 900000) (n : Int) :
    Calls Try.prog 35 #[.pointer (some ⟨o2, 0, none⟩), .int .i64 n] W fun e w' => ∃ A cap, e = .returned (.tuple #[flA (delX b n).1 (.slice A (delX b n).1.d.length cap), .int .i64 (delX b n).2]) ∧ BytesAt w' A (delX b n).1.d ∧ Two w0 o1 o2 b2 (delS b n) F V w' := by
  obtain ⟨S, h1, _, h2⟩ := h.use2
  refine (rdeliver_any h1 hb hk n).mono ?_
  rintro e w' ⟨A, cap, q1, q2, q3⟩
  exact ⟨A, cap, q1, q2, h2 _ _ q3⟩
theorem two1_drop (h : Two w0 o1 o2 b b2 F V W) (hb : Bd k b) (hk : k ≤ 900000) (n : Int) :
    Calls Try.prog 21 #[.pointer (some ⟨o1, 0, none⟩), .int .i64 n] W fun e w' => e = .returned (.int .i64 (errV b n)) ∧ Two w0 o1 o2 (dropS b n) b2 F V w' := by
  obtain ⟨S, h1, _, h2⟩ := h.use1
  exact (drop_any h1 hb hk n).mono fun e w' ⟨q1, q2⟩ => ⟨q1, h2 _ _ q2⟩
theorem two2_drop (h : Two w0 o1 o2 b2 b F V W) (hb : Bd k b) (hk : k ≤ 900000) (n : Int) :
    Calls Try.prog 36 #[.pointer (some ⟨o2, 0, none⟩), .int .i64 n] W fun e w' => e = .returned (.int .i64 (errV b n)) ∧ Two w0 o1 o2 b2 (dropS b n) F V w' := by
  obtain ⟨S, h1, _, h2⟩ := h.use2
  exact (rdrop_any h1 hb hk n).mono fun e w' ⟨q1, q2⟩ => ⟨q1, h2 _ _ q2⟩
theorem two1_dbl (h : Two w0 o1 o2 b b2 F V W) (hb : Bd k b) (hk : k ≤ 900000) (n : Int) :
    Calls Try.prog 22 #[.pointer (some ⟨o1, 0, none⟩), .int .i64 n] W fun e w' => e = .returned (.tuple #[.int .i64 (dblX b n).1, .int .i64 (dblX b n).2]) ∧ Two w0 o1 o2 (dblS b n) b2 F V w' := by
  obtain ⟨S, h1, _, h2⟩ := h.use1
  exact (dbl_any h1 hb hk n).mono fun e w' ⟨q1, q2⟩ => ⟨q1, h2 _ _ q2⟩
theorem two2_dbl (h : Two w0 o1 o2 b2 b F V W) (hb : Bd k b) (hk : k ≤ 900000) (n : Int) :
    Calls Try.prog 37 #[.pointer (some ⟨o2, 0, none⟩), .int .i64 n] W fun e w' => e = .returned (.tuple #[.int .i64 (dblX b n).1, .int .i64 (dblX b n).2]) ∧ Two w0 o1 o2 b2 (dblS b n) F V w' := by
  obtain ⟨S, h1, _, h2⟩ := h.use2
  exact (rdbl_any h1 hb hk n).mono fun e w' ⟨q1, q2⟩ => ⟨q1, h2 _ _ q2⟩
theorem two1_spoil (h : Two w0 o1 o2 b b2 F V W) (hb : Bd k b) (hk : k ≤ 900000) (n a : Int) {v : Nat} (hv : v < 256) :
    Calls Try.prog 23 #[.pointer (some ⟨o1, 0, none⟩), .int .i64 n, .int .i64 a, .int .u8 (v : Nat)] W fun e w' => e = .returned (.int .i64 (spoilV b n a v)) ∧ Two w0 o1 o2 (spoilS b n a v) b2 F V w' := by
  obtain ⟨S, h1, _, h2⟩ := h.use1
  exact (spoil_any h1 hb hk n a hv).mono fun e w' ⟨q1, q2⟩ => ⟨q1, h2 _ _ q2⟩
theorem two2_spoil (h : Two w0 o1 o2 b2 b F V W) (hb : Bd k b) (hk : k ≤ 900000) (n a : Int) {v : Nat} (hv : v < 256) :
    Calls Try.prog 38 #[.pointer (some ⟨o2, 0, none⟩), .int .i64 n, .int .i64 a, .int .u8 (v : Nat)] W fun e w' => e = .returned (.int .i64 (spoilV b n a v)) ∧ Two w0 o1 o2 b2 (spoilS b n a v) F V w' := by
  obtain ⟨S, h1, _, h2⟩ := h.use2
  exact (rspoil_any h1 hb hk n a hv).mono fun e w' ⟨q1, q2⟩ => ⟨q1, h2 _ _ q2⟩
end

/-- What a call does to a bag, sends many times. -/
def sendN (b : St) (x : Cl) : Nat → St
  | 0 => b
  | n + 1 => sendS (sendN b x n) x.n x.at_ x.d
def manyN (x : Cl) : Nat := (max 1 x.many).toNat
def doS (b : St) (x : Cl) : St := if x.kind = 0 then sendN b x (manyN x) else if x.kind = 1 then delS b x.n else if x.kind = 2 then dropS b x.n else if x.kind = 3 then dblS b x.n else if x.kind = 4 then spoilS b x.n x.at_ x.v else b
theorem Bg.Bd.sendN {k : Nat} {b : St} (h : Bd k b) (x : Cl) (hd : x.d.length ≤ 60) (hc : ∀ c ∈ x.d, c < 256) : ∀ n, Bd (k + 2 * n) (sendN b x n)
  | 0 => h
  | n + 1 => ((h.sendN x hd hc n).send x.n x.at_ hd hc).mono (by omega)
theorem Bg.Bd.doS {k : Nat} {b : St} (h : Bd k b) (x : Cl) (hd : x.d.length ≤ 60) (hc : ∀ c ∈ x.d, c < 256) (hv : x.v < 256) (hm : x.many ≤ 300) : Bd (k + 600) (doS b x) := by
  unfold Go.Proofs.Ytinihggcibghaaa.doS
  have hmn : manyN x ≤ 300 := by unfold manyN; omega
  split
  · exact (h.sendN x hd hc _).mono (by omega)
  split
  · exact (h.del1 _).mono (by omega)
  split
  · exact (h.drop1 _).mono (by omega)
  split
  · exact (h.dbl2 _).mono (by omega)
  split
  · exact (h.spoil1 _ _ hv).mono (by omega)
  · exact h.mono (by omega)
end Go.Proofs.Ytinihggcibghaaa
