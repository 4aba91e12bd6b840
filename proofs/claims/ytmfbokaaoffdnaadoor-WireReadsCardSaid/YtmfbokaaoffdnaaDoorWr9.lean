/-
  Read: the closure that takes numbers off the front.
-/
import Derived.Test.YtmfbokaaoffdnaaDoorWr6
import Derived.Deep.QuietTactic
import Derived.BigQuiet
import Derived.Laws.BitsAllLaws
namespace Go.Proofs.YtmfbokaaoffdnaaDoor
set_option maxRecDepth 100000
set_option linter.unusedSimpArgs false
open Go Go.RowKit Wr

/-- Takes a number of so many bytes, and their complements, off the front. -/
def Wr.tk : Nat → Nat → List Nat × Bool → Nat × (List Nat × Bool)
  | 0, n, s => (n, s)
  | w + 1, n, (a :: b :: r, ft) => if a = 255 - b then tk w (n * 256 + a) (r, ft) else (0, (a :: b :: r, true))
  | _ + 1, _, ([a], _) => (0, ([a], true))
  | _ + 1, _, ([], _) => (0, ([], true))

theorem w64_mul (n : Nat) (a : Int) : w64 (w64 (n : Int) * 256 + a) = w64 ((n : Int) * 256 + a) := by unfold w64; omega
theorem ofInt_w64 (x : Int) : BitVec.ofInt 64 (w64 x) = BitVec.ofInt 64 x := by
  apply BitVec.eq_of_toNat_eq
  rw [BitVec.toNat_ofInt, BitVec.toNat_ofInt]
  have : w64 x % ((2 ^ 64 : Nat) : Int) = x % ((2 ^ 64 : Nat) : Int) := by unfold w64; omega
  rw [this]
theorem or64 (x : Int) (a : Nat) (ha : a < 256) : bits .or .i64 (IntKind.i64.wrap (x * 256)) (a : Int) = w64 (x * 256 + a) := by
  show IntKind.i64.wrap ((BitVec.ofInt 64 (IntKind.i64.wrap (x * 256)) ||| BitVec.ofInt 64 (a : Int)).toNat : Int) = _
  have e : IntKind.i64.wrap (x * 256) = w64 (x * 256) := by simp [IntKind.wrap, IntKind.bits, IntKind.signed, w64]
  rw [e, ofInt_w64, BitVec.toNat_or, BitVec.toNat_ofInt, BitVec.ofInt_natCast, BitVec.toNat_ofNat, Nat.mod_eq_of_lt (by omega : a < 2 ^ 64)]
  have h1 : (x * 256 % ((2 ^ 64 : Nat) : Int)).toNat % 256 = 0 := by omega
  rw [Nat.or_comm, nat_join8' _ _ h1 ha]
  have e2 : ∀ y : Int, IntKind.i64.wrap y = w64 y := fun y => by simp [IntKind.wrap, IntKind.bits, IntKind.signed, w64]
  rw [e2]
  unfold w64
  omega

/-- Bytes in memory. -/
def BytesAt (w : World) (A : Option Addr) (l : List Nat) : Prop := ∀ j, j < l.length → ∃ a, A = some a ∧ w.cell? (a.add j) = some (byV (l.getD j 0))
theorem add_add (a : Addr) (m n : Nat) : (a.add m).add n = a.add (m + n) := by
  unfold Addr.add
  by_cases h1 : m = 0
  · subst h1; simp
  · by_cases h2 : n = 0
    · subst h2; simp
    · simp [h1, h2, Nat.add_assoc]
theorem add_blk (a : Addr) (n : Nat) : (a.add n).block = a.block := by unfold Addr.add; split <;> rfl

/-- What is left of the bytes, and whether a fault was met. -/
structure Rd (q f : Nat) (s : List Nat × Bool) (W : World) : Prop where
  var : ∃ A cap, W.heap[q]? = some (.cells #[.slice A s.1.length cap] 34 (0, 0)) ∧ BytesAt W A s.1 ∧ s.1.length ≤ cap ∧ ∀ a, A = some a → s.1 ≠ [] → a.block < q
  flt : W.heap[f]? = some (.cells #[.bool s.2] 4 (0, 0))
  lt : ∀ c ∈ s.1, c < 256
theorem BytesAt.apart {W : World} {A : Option Addr} {l : List Nat} (h : BytesAt W A l) {k : Nat} {u : Value} {t : TypeId} {fz : Nat × Nat} (hk : W.heap[k]? = some (.cells #[u] t fz)) (hu : ∀ n, u ≠ byV n) : ∀ j, j < l.length → ∀ a, A = some a → (a.add j).block ≠ k := by
  intro j hj a ha e
  obtain ⟨a', ha', hc⟩ := h j hj
  rw [ha] at ha'
  cases ha'
  unfold World.cell? at hc
  rw [e, hk] at hc
  simp only at hc
  rcases hz : (a.add j).off with _ | z
  · rw [hz] at hc
    simp at hc
    exact hu _ hc.2
  · rw [hz] at hc
    simp at hc
theorem BytesAt.kept {W W' : World} {X : Nat → Prop} {A : Option Addr} {l : List Nat} (h : BytesAt W A l) (hk : Kept X W W') (hX : ∀ j, j < l.length → ∀ a, A = some a → ¬ X (a.add j).block) : BytesAt W' A l := by
  intro j hj
  obtain ⟨a, ha, hc⟩ := h j hj
  exact ⟨a, ha, hk.cell hc (hX j hj a ha)⟩
theorem BytesAt.below {W W' : World} {A : Option Addr} {l : List Nat} (h : BytesAt W A l) (hb : Below W.heap.size W W') : BytesAt W' A l := h.kept (Kept.of_below (X := fun _ => False) hb (Nat.le_refl _)) (fun _ _ _ _ => id)

theorem Rd.cell {q f : Nat} {s : List Nat × Bool} {W : World} (h : Rd q f s W) : ∃ A cap, W.cell? ⟨q, 0, none⟩ = some (.slice A s.1.length cap) ∧ BytesAt W A s.1 ∧ s.1.length ≤ cap := by
  obtain ⟨A, cap, h1, h2, h3, _⟩ := h.var
  exact ⟨A, cap, by rw [blk_cell h1]; rfl, h2, h3⟩
theorem Rd.fault {q f : Nat} {s : List Nat × Bool} {W : World} (h : Rd q f s W) (hne : q ≠ f) : Rd q f (s.1, true) (W.setCell ⟨f, 0, none⟩ (.bool true)) := by
  obtain ⟨A, cap, h1, h2, h3, h4⟩ := h.var
  have hk := (Kept.refl (fun k => k = f) W).setCell (p := ⟨f, 0, none⟩) (.inl rfl) (.bool true)
  refine ⟨⟨A, cap, (hk.block _ (blk_lt h1) hne).trans h1, h2.kept hk (h2.apart h.flt (fun n e => by cases e)), h3, h4⟩, by rw [blk_set h.flt]; rfl, h.lt⟩
theorem Rd.next {q f : Nat} {a b : Nat} {r : List Nat} {ft : Bool} {W : World} (h : Rd q f (a :: b :: r, ft) W) (hne : q ≠ f) {A A' : Option Addr} {cap cap' : Nat} (hA : W.cell? ⟨q, 0, none⟩ = some (.slice A (r.length + 2) cap))
    (hA' : ∀ d, A = some d → r ≠ [] → A' = some (d.add 2)) (hc : r.length ≤ cap') : Rd q f (r, ft) (W.setCell ⟨q, 0, none⟩ (.slice A' r.length cap')) := by
  obtain ⟨A1, cap1, h1, h2, h3, h9⟩ := h.var
  have e : A1 = A ∧ cap1 = cap := by
    rw [blk_cell h1] at hA
    simp at hA
    exact hA
  obtain ⟨rfl, rfl⟩ := e
  have hk := (Kept.refl (fun k => k = q) W).setCell (p := ⟨q, 0, none⟩) (.inl rfl) (.slice A' r.length cap')
  refine ⟨⟨A', cap', by rw [blk_set h1]; rfl, ?_, hc, fun a ha hr => ?_⟩, (hk.block _ (blk_lt h.flt) (fun e => hne e.symm)).trans h.flt, fun c hc => h.lt c (by simp [hc])⟩
  · have h4 := h2.kept hk (h2.apart h1 (fun n e => by cases e))
    intro j hj
    obtain ⟨d, hd, hcell⟩ := h4 (j + 2) (by simpa using hj)
    refine ⟨d.add 2, hA' d hd (by intro e; subst e; simp at hj), ?_⟩
    rw [add_add, Nat.add_comm 2 j]
    simpa using hcell
  · obtain ⟨d, hd, _⟩ := h2 0 (by simp)
    rw [hA' d hd hr] at ha
    cases ha
    rw [add_blk]
    exact h9 d hd (by simp)

theorem Rd.drewN {q f : Nat} {s : List Nat × Bool} {W : World} (h : Rd q f s W) (m : Nat) : Rd q f s (W.drewN m) := by
  obtain ⟨A, cap, h1, h2, h3, h4⟩ := h.var
  exact ⟨⟨A, cap, h1, h2, h3, h4⟩, h.flt, h.lt⟩
def TkPost (q f wd n : Nat) (s : List Nat × Bool) (W : World) (e : Ending) (W' : World) : Prop :=
  e = .returned (.int .i64 (w64 ((tk wd n s).1 : Nat))) ∧ Rd q f (tk wd n s).2 W' ∧ Kept (fun k => k = q ∨ k = f) W W'

set_option maxHeartbeats 2000000 in
theorem take_any {q f : Nat} {s : List Nat × Bool} {W : World} (h : Rd q f s W) (wd : Nat) (hw : wd ≤ 8) (hs : s.1.length ≤ 100000) (hne : q ≠ f) :
    Calls Tryd.prog 32 #[.int .i64 (wd : Nat), .pointer (some ⟨q, 0, none⟩), .pointer (some ⟨f, 0, none⟩)] W (TkPost q f wd 0 s W) := by
  obtain ⟨P, hP⟩ : ∃ P : Ending → World → Prop, P = TkPost q f wd 0 s W := ⟨_, rfl⟩
  have HQ : Hid (∀ W' x, x = w64 ((tk wd 0 s).1 : Nat) → Rd q f (tk wd 0 s).2 W' → Kept (fun k => k = q ∨ k = f) W W' → P (.returned (.int .i64 x)) W') := by rw [hP]; exact fun W' x e h1 h2 => ⟨by rw [e], h1, h2⟩
  rw [← hP]
  clear hP
  have H := Lib.hid h
  have HNE := Lib.hid hne
  clear h hne
  have HR0 : Hid (∃ (k n : Nat) (s' : List Nat × Bool), k ≤ wd ∧ Value.int .i64 0 = .int .i64 (w64 (n : Int)) ∧ Value.int .i64 0 = .int .i64 (k : Int) ∧ tk wd 0 s = tk (wd - k) n s' ∧ s'.1.length ≤ 100000 ∧ Rd q f s' W ∧ Kept (fun k => k = q ∨ k = f) W W) :=
    ⟨0, 0, s, Nat.zero_le _, rfl, rfl, rfl, hs, H.out, Kept.refl _ _⟩
  go_enter Tryd.func32, Tryd.ntmps32
  go_wp2
  go_loopw [5, 7] (fun v i wr => ∃ (k n : Nat) (s' : List Nat × Bool), k ≤ wd ∧ v = .int .i64 (w64 (n : Int)) ∧ i = .int .i64 (k : Int) ∧ tk wd 0 s = tk (wd - k) n s' ∧ s'.1.length ≤ 100000 ∧ Rd q f s' wr ∧ Kept (fun k => k = q ∨ k = f) W wr) (fun _ i _ => wd - (intOf i).toNat)
  case atStart => exact HR0.out
  case round =>
    obtain ⟨k, n, s', hk, rfl, rfl, h1, h2, h3, h4⟩ := hrel
    clear HR0
    have H1 := Lib.hid h1
    have H2 := Lib.hid h2
    have H3 := Lib.hid h3
    have H4 := Lib.hid h4
    clear h1 h2 h3 h4
    have HK : Hid (k ≤ wd) := hk
    by_cases hlt : k < wd
    · obtain ⟨j, hj⟩ : ∃ j, wd - k = j + 1 := ⟨wd - k - 1, by omega⟩
      have hj' : wd - (k + 1) = j := by omega
      rw [hj] at H1
      have HJ := Lib.hid hj'
      clear hj hj'
      obtain ⟨A, cap, c1, hb, hc⟩ := H3.out.cell
      have c2 : wr.cell? ⟨f, 0, none⟩ = some (.bool s'.2) := by rw [blk_cell H3.out.flt]; rfl
      have c3 := blk_free H3.out.flt 0
      obtain ⟨r, ft⟩ := s'
      simp only at c1 c2 hb hc
      have HBT := Lib.hid hb
      have HFault : Hid (tk wd 0 s = (0, (r, true)) → ∀ m, P (.returned (.int .i64 0)) ((wr.drewN m).setCell ⟨f, 0, none⟩ (.bool true))) := fun e m => by
        have h5 := (H3.out.drewN m).fault HNE.out
        refine HQ.out _ _ (by rw [e]; rfl) (by rw [e]; exact h5) ((H4.out.drewN m).setCell (p := ⟨f, 0, none⟩) (.inl (.inr rfl)) _)
      clear hb
      match r with
      | [] =>
        have HFF := Lib.hid (HFault.out H1.out)
        clear HFault
        simp only [List.length_nil] at c1
        go_wp2_with fail
        go_quiet (fail)
        go_wp2
        first | exact HFF.out nq | (go_ret; exact HFF.out nq)
      | [a] =>
        have HFF := Lib.hid (HFault.out H1.out)
        clear HFault
        simp only [List.length_cons, List.length_nil] at c1
        go_wp2_with fail
        go_quiet (fail)
        go_wp2
        first | exact HFF.out nq | (go_ret; exact HFF.out nq)
      | a :: b :: r =>
        obtain ⟨d, rfl, g0⟩ := HBT.out 0 (by simp)
        obtain ⟨d', hd, g1⟩ := HBT.out 1 (by simp)
        cases hd
        have ha := H3.out.lt a (by simp)
        have hb := H3.out.lt b (by simp)
        have e0 : d.add 0 = d := by simp [Addr.add]
        rw [e0] at g0
        simp only [byV, List.getD_cons_zero, List.getD_cons_succ] at g0 g1
        have g1' : wr.cell? ⟨d.block, d.off + 1, none⟩ = some (.int .u8 ((b : Nat) : Int)) := g1
        have hx := xor_u8 b hb
        have hx2 : bits BinOp.xor IntKind.u8 (if IntKind.u8.signed = true then -1 else IntKind.u8.max) (b : Int) = ((255 - b : Nat) : Int) := hx
        have fq : wr.frozen? ⟨q, 0, none⟩ = false := by obtain ⟨_, _, h, _⟩ := H3.out.var; exact blk_free h 0
        obtain ⟨N, hN⟩ : ∃ N, N = r.length + 2 := ⟨_, rfl⟩
        have c1' : wr.cell? ⟨q, 0, none⟩ = some (.slice (some d) N cap) := by rw [hN]; exact c1
        have HC1 := Lib.hid c1
        clear c1
        have hcap : N ≤ cap := by rw [hN]; exact hc
        have hN2 : 2 ≤ N := by omega
        have b0 : 0 < N := by omega
        have b1 : 1 < N := by omega
        have b2 : (0 : Int) < (N : Int) := by omega
        have b3 : (1 : Int) < (N : Int) := by omega
        have d2 : decide ((N : Int) < 2) = false := by
          have : ¬ (N : Int) < 2 := by omega
          simpa using this
        have HN := Lib.hid hN
        have hN5 : N ≤ 100000 := by have := H2.out; simp at this; omega
        clear hN hc
        by_cases hab : a = 255 - b
        · have e1 : tk (j + 1) n (a :: b :: r, ft) = tk j (n * 256 + a) (r, ft) := by rw [tk, if_pos hab]
          have H1' := Lib.hid (H1.out.trans e1)
          clear e1
          have d1 : ((a : Int) != ((255 - b : Nat) : Int)) = false := by simp [hab]
          have HO : bits BinOp.or IntKind.i64 (wrap64 (w64 (n : Int) * 256)) (a : Int) = w64 (((n * 256 + a : Nat)) : Int) := by
            have := or64 (w64 (n : Int)) a ha
            have e3 : ∀ x, wrap64 x = IntKind.i64.wrap x := fun x => by rw [wrap_w64]; unfold wrap64 w64; omega
            rw [w64_mul] at this
            rw [e3]
            push_cast
            exact this
          have HNX : Hid (∀ m A' cap', (∀ d', some d = some d' → r ≠ [] → A' = some (d'.add 2)) → r.length ≤ cap' → Rd q f (r, ft) ((wr.drewN m).setCell ⟨q, 0, none⟩ (.slice A' (N - 2) cap'))) := fun m A' cap' h1 h2 => by
            have e : N - 2 = r.length := by have := HN.out; omega
            rw [e]
            exact (H3.out.drewN m).next HNE.out (A := some d) (cap := cap) HC1.out h1 h2
          have HAB := Lib.hid hab
          clear hab
          by_cases hc2 : cap = 2
          · have hr0 : Hid (r = []) := by
              have := HN.out
              exact List.length_eq_zero_iff.1 (by omega)
            subst hc2
            obtain rfl : N = 2 := by omega
            go_wp2_with fail
            go_quiet (fail)
            go_wp2
            go_roundw
            case rel => exact ⟨k + 1, n * 256 + a, (r, ft), by omega, by go_num, by go_num, by rw [H1'.out, HJ.out], by have := H2.out; simp at this ⊢; omega, HNX.out nq (some d) _ (fun _ _ h => absurd hr0.out h) (by have := HN.out; omega), (H4.out.drewN nq).setCell (p := ⟨q, 0, none⟩) (.inl (.inl rfl)) _⟩
            case measure => simp [intOf]; omega
          · have hcne : ¬ cap = 2 := hc2
            go_wp2_with fail
            go_quiet (fail)
            go_wp2
            go_roundw
            case rel => exact ⟨k + 1, n * 256 + a, (r, ft), by omega, by go_num, by go_num, by rw [H1'.out, HJ.out], by have := H2.out; simp at this ⊢; omega, HNX.out nq (some ⟨d.block, d.off + 2, none⟩) _ (fun d' e _ => by cases e; rfl) (by have := HN.out; omega), (H4.out.drewN nq).setCell (p := ⟨q, 0, none⟩) (.inl (.inl rfl)) _⟩
            case measure => simp [intOf]; omega
        · have e1 : tk (j + 1) n (a :: b :: r, ft) = (0, (a :: b :: r, true)) := by rw [tk, if_neg hab]
          have HFF := Lib.hid (HFault.out (H1.out.trans e1))
          have d1 : ((a : Int) != ((255 - b : Nat) : Int)) = true := by
            have : ¬ (a : Int) = ((255 - b : Nat) : Int) := by omega
            simpa using this
          have HAB := Lib.hid hab
          clear HFault e1 hab
          go_wp2_with fail
          go_quiet (fail)
          go_wp2
          first | exact HFF.out nq | (go_ret; exact HFF.out nq)
    · obtain rfl : k = wd := by omega
      have HF : Hid (P (.returned (.int .i64 (w64 (n : Int)))) wr) := by
        have e : tk k 0 s = (n, s') := by rw [H1.out, Nat.sub_self]; rfl
        exact HQ.out _ _ (by rw [e]) (by rw [e]; exact H3.out) H4.out
      go_wp2
      first | exact HF.out | (go_ret; exact HF.out)
end Go.Proofs.YtmfbokaaoffdnaaDoor
