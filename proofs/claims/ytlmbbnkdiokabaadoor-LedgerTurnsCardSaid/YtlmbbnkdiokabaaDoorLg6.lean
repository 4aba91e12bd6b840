/-
  A ledger beside what is done: steps of both; a cell granted.
-/
import Derived.Test.YtlmbbnkdiokabaaDoorLg5
import Derived.Test.YtlmbbnkdiokabaaDoorSp4
namespace Go.Proofs.YtlmbbnkdiokabaaDoor
set_option maxRecDepth 100000
set_option linter.unusedSimpArgs false
open Go Go.RowKit Sp Lg

namespace Lg
/-- What is done. -/
structure Dn where
  W : List (Int × En)
  ps : List Pe
  bs : List Nat
def Dn.none : Dn := ⟨[], [], []⟩
def Dn.post (q : Dn) (x : Pe) : Dn := { q with ps := q.ps ++ [x], bs := q.bs ++ [q.W.length] }
def Dn.write (q : Dn) (c : Int) (e : En) : Dn := { q with W := q.W ++ [(c, e)] }
def Dn.le (q : Dn) (n : Nat) : Prop := q.W.length ≤ n ∧ q.ps.length ≤ n ∧ q.bs.length ≤ n
theorem Dn.le.post {q : Dn} {n : Nat} (h : q.le n) (x : Pe) : (q.post x).le (n + 1) := by
  obtain ⟨h1, h2, h3⟩ := h
  refine ⟨?_, ?_, ?_⟩ <;> simp [Dn.post] <;> omega
theorem Dn.le.write {q : Dn} {n : Nat} (h : q.le n) (c : Int) (e : En) : (q.write c e).le (n + 1) := by
  obtain ⟨h1, h2, h3⟩ := h
  refine ⟨?_, ?_, ?_⟩ <;> simp [Dn.write] <;> omega
theorem Dn.le.mono {q : Dn} {n m : Nat} (h : q.le n) (hm : n ≤ m) : q.le m := ⟨Nat.le_trans h.1 hm, Nat.le_trans h.2.1 hm, Nat.le_trans h.2.2 hm⟩
end Lg

/-- What is done, in memory, its bytes' slices left open. -/
def OutP (w : World) (B o : Nat) (v : OV) (q : Dn) : Prop := 0 < B ∧ B ≤ w.heap.size ∧ ∃ ws : List We, ws.map (fun x => (x.c, x.e)) = q.W ∧ OutAt w B o v ws q.ps q.bs
/-- What a step leaves of it. -/
def OutZ (w w' : World) (B o : Nat) (v : OV) (q : Dn) : Prop := ∃ v', OutP w' B o v' q ∧ Kept (OfO o v) w w' ∧ ∀ k, OfO o v' k → OfO o v k ∨ w.heap.size ≤ k
theorem OutS.toZ {w w' : World} {B o : Nat} {v : OV} {ws : List We} {ps : List Pe} {bs : List Nat} {q : Dn} (hB : 0 < B) (hB2 : B ≤ w.heap.size) (h : OutS w w' B o v ws ps bs) (hw : ws.map (fun x => (x.c, x.e)) = q.W) (hp : ps = q.ps) (hb : bs = q.bs) : OutZ w w' B o v q := by
  obtain ⟨v', h1, h2, h3⟩ := h
  subst hp hb
  exact ⟨v', ⟨hB, Nat.le_trans hB2 h2.size, ws, hw, h1⟩, h2, h3⟩
section
variable {w : World} {B o : Nat} {v : OV} {q : Dn}
theorem OutP.len {ws : List We} (h : ws.map (fun x => (x.c, x.e)) = q.W) : ws.length = q.W.length := by rw [← h, List.length_map]
theorem OutP.below {w' : World} (h : OutP w B o v q) (hb : Below w.heap.size w w') : OutP w' B o v q := by
  obtain ⟨h1, h2, ws, h3, h4⟩ := h
  exact ⟨h1, Nat.le_trans h2 hb.size, ws, h3, h4.below hb⟩
theorem OutP.kept {w' : World} {X : Nat → Prop} (h : OutP w B o v q) (hk : Kept X w w') (hX : ∀ k, OfO o v k → ¬ X k) (h8 : ∀ k, Typ w k 5 → ¬ X k) : OutP w' B o v q := by
  obtain ⟨h1, h2, ws, h3, h4⟩ := h
  exact ⟨h1, Nat.le_trans h2 hk.size, ws, h3, h4.kept hk hX h8⟩
theorem OutP.lt (h : OutP w B o v q) {k : Nat} (hk : OfO o v k) : B ≤ k ∧ k < w.heap.size := by
  obtain ⟨h1, h2, ws, h3, h4⟩ := h
  exact (h4.some_typ hk).2
theorem OutP.ng (h : OutP w B o v q) : ¬ OfO o v 0 := fun hk => by
  have := (h.lt hk).1
  have := h.1
  omega
theorem write_p (h : OutP w B o v q) {n : Nat} (hq : q.le n) (hn : n ≤ 1000000) (c : Int) (en : En) {A : Option Addr} {k l : Nat} (hd : R8 w (.slice A k l) (recB en)) :
    Calls Tryd.prog 62 #[.pointer (some ⟨o, 0, none⟩), rcv c (.slice A k l)] w fun e w' => e = .returned (.tuple #[]) ∧ OutZ w w' B o v (q.write c en) := by
  obtain ⟨h1, h2, ws, h3, h4⟩ := h
  refine (write_any h4 h2 ⟨c, en, .slice A k l⟩ hd ⟨_, _, _, rfl⟩ (by have := OutP.len h3; have := hq.1; omega)).mono ?_
  rintro e w' ⟨rfl, h5⟩
  exact ⟨rfl, h5.toZ h1 h2 (by simp [h3, Dn.write]) rfl rfl⟩
theorem deny_p (h : OutP w B o v q) {n : Nat} (hq : q.le n) (hn : n ≤ 1000000) (c : Int) (y : Wt) (i : Int) :
    Calls Tryd.prog 61 #[.pointer (some ⟨o, 0, none⟩), .int .i64 c, wv y, .int .i64 i] w fun e w' => e = .returned (.tuple #[]) ∧ OutZ w w' B o v (q.post ⟨y.r, ⟨5, c, 0, y.s, 0, i⟩⟩) := by
  obtain ⟨h1, h2, ws, h3, h4⟩ := h
  refine (deny_any h4 h2 c y i (Nat.le_trans hq.2.1 hn) (Nat.le_trans hq.2.2 hn)).mono ?_
  rintro e w' ⟨rfl, h5⟩
  exact ⟨rfl, h5.toZ h1 h2 h3 rfl (by simp [Dn.post, OutP.len h3])⟩
theorem grant_p (h : OutP w B o v q) {n : Nat} (hq : q.le n) (hn : n ≤ 1000000) (c r g a : Int) :
    Calls Tryd.prog 42 #[.pointer (some ⟨o, 0, none⟩), .int .i64 c, ev r g, .int .u64 a] w fun e w' => e = .returned (.tuple #[]) ∧ OutZ w w' B o v (q.post ⟨r, ⟨2, c, g, a, 0, 0⟩⟩) := by
  obtain ⟨h1, h2, ws, h3, h4⟩ := h
  refine (grantO_any h4 h2 c r g a (Nat.le_trans hq.2.1 hn) (Nat.le_trans hq.2.2 hn)).mono ?_
  rintro e w' ⟨rfl, h5⟩
  exact ⟨rfl, h5.toZ h1 h2 h3 rfl (by simp [Dn.post, OutP.len h3])⟩
theorem post_p (h : OutP w B o v q) {n : Nat} (hq : q.le n) (hn : n ≤ 1000000) (t k c g s p i : Int) :
    Calls Tryd.prog 60 #[.pointer (some ⟨o, 0, none⟩), .int .i64 t, mgv k c g s p i] w fun e w' => e = .returned (.tuple #[]) ∧ OutZ w w' B o v (q.post ⟨t, ⟨k, c, g, s, p, i⟩⟩) := by
  obtain ⟨h1, h2, ws, h3, h4⟩ := h
  refine (post_any h4 h2 ⟨t, ⟨k, c, g, s, p, i⟩⟩ (Nat.le_trans hq.2.1 hn) (Nat.le_trans hq.2.2 hn)).mono ?_
  rintro e w' ⟨rfl, h5⟩
  exact ⟨rfl, h5.toZ h1 h2 h3 rfl (by simp [Dn.post, OutP.len h3])⟩
end

/-- A ledger, and what is done, beside one another. -/
structure LO (w : World) (b me mq : Nat) (P : Int → Option Nat) (N : Nat) (s : S) (B o : Nat) (v : OV) (q : Dn) : Prop where
  led : LedAt w b me mq P N s
  out : OutP w B o v q
/-- What a step leaves of both. -/
def StepLO (w w' : World) (b me mq : Nat) (P : Int → Option Nat) (N : Nat) (s' : S) (B o : Nat) (v : OV) (q' : Dn) : Prop :=
  ∃ P' N' v', LO w' b me mq P' N' s' B o v' q' ∧ N' ≤ N ∧ (∀ c k, P' c = some k → P c = some k ∨ w.heap.size ≤ k) ∧ (∀ k, OfO o v' k → OfO o v k ∨ w.heap.size ≤ k) ∧ Kept (fun k => LX b me mq P k ∨ OfO o v k) w w'
/-- What a step leaves of a ledger. -/
def StepL (w w' : World) (b me mq : Nat) (P : Int → Option Nat) (N : Nat) (s' : S) : Prop :=
  ∃ P' N', LedAt w' b me mq P' N' s' ∧ N' ≤ N ∧ (∀ c k, P' c = some k → P c = some k ∨ w.heap.size ≤ k) ∧ Kept (LX b me mq P) w w'
section
variable {w w1 w' : World} {b me mq N N2 B o : Nat} {P : Int → Option Nat} {s s' : S} {v : OV} {q q' : Dn}
theorem LX.grow {P' : Int → Option Nat} (h : ∀ c k, P' c = some k → P c = some k ∨ w.heap.size ≤ k) {k : Nat} (hk : LX b me mq P' k) : LX b me mq P k ∨ w.heap.size ≤ k := by
  rcases hk with hk | hk | hk | ⟨c, hk⟩
  · exact .inl (.inl hk)
  · exact .inl (.inr (.inl hk))
  · exact .inl (.inr (.inr (.inl hk)))
  · rcases h c k hk with e | e
    · exact .inl (.inr (.inr (.inr ⟨c, e⟩)))
    · exact .inr e
theorem LO.below (h : LO w b me mq P N s B o v q) (hb : Below w.heap.size w w') : LO w' b me mq P N s B o v q := ⟨h.led.below hb, h.out.below hb⟩
theorem LO.apart (h : LO w b me mq P N s B o v q) {k : Nat} (h1 : LX b me mq P k) (h2 : OfO o v k) : False := by
  obtain ⟨_, _, ws, _, h4⟩ := h.out
  exact led_out h.led h4 h1 h2
theorem StepLO.refl (h : LO w b me mq P N s B o v q) (hN : N ≤ N2) : StepLO w w b me mq P N2 s B o v q := ⟨P, N, v, h, hN, fun _ _ h => .inl h, fun _ h => .inl h, Kept.refl _ _⟩
theorem StepLO.of_below (hb : Below w.heap.size w w1) (h : StepLO w1 w' b me mq P N s' B o v q') : StepLO w w' b me mq P N s' B o v q' := by
  obtain ⟨P', N', v', h1, h2, h3, h4, h5⟩ := h
  refine ⟨P', N', v', h1, h2, fun c k e => (h3 c k e).imp id (fun h => Nat.le_trans hb.size h), fun k e => (h4 k e).imp id (fun h => Nat.le_trans hb.size h), ((keptB hb).mono (fun _ _ h => h.elim)).trans h5 (fun _ _ h => h)⟩
theorem StepLO.trans {P1 : Int → Option Nat} {v1 : OV} (hP : ∀ c k, P1 c = some k → P c = some k ∨ w.heap.size ≤ k) (hv : ∀ k, OfO o v1 k → OfO o v k ∨ w.heap.size ≤ k) (hk : Kept (fun k => LX b me mq P k ∨ OfO o v k) w w1)
    (h : StepLO w1 w' b me mq P1 N s' B o v1 q') : StepLO w w' b me mq P N s' B o v q' := by
  obtain ⟨P', N', v', h1, h2, h3, h4, h5⟩ := h
  have hs := hk.size
  refine ⟨P', N', v', h1, h2, fun c k e => ?_, fun k e => ?_, hk.trans h5 (fun i hi e => ?_)⟩
  · rcases h3 c k e with e | e
    · exact hP c k e
    · exact .inr (Nat.le_trans hs e)
  · rcases h4 k e with e | e
    · exact hv k e
    · exact .inr (Nat.le_trans hs e)
  · rcases e with e | e
    · rcases LX.grow hP e with e | e
      · exact .inl e
      · omega
    · rcases hv i e with e | e
      · exact .inr e
      · omega
/-- The ledger alone has turned. -/
theorem LO.led_step (h : LO w b me mq P N s B o v q) (hs : StepL w w' b me mq P N2 s') : StepLO w w' b me mq P N2 s' B o v q := by
  obtain ⟨P', N', h1, h2, h3, h4⟩ := hs
  refine ⟨P', N', v, ⟨h1, h.out.kept h4 (fun k hk e => h.apart e hk) (led_no8 h.led)⟩, h2, h3, fun _ e => .inl e, h4.mono (fun _ _ e => .inl e)⟩
/-- What is done alone has turned. -/
theorem LO.out_step (h : LO w b me mq P N s B o v q) (hs : OutZ w w' B o v q') (hN : N ≤ N2) : StepLO w w' b me mq P N2 s B o v q' := by
  obtain ⟨v', h1, h2, h3⟩ := hs
  exact ⟨P, N, v', ⟨h.led.kept h2 (fun k hk e => h.apart hk e) h.out.ng, h1⟩, hN, fun _ _ e => .inl e, h3, h2.mono (fun _ _ e => .inr e)⟩
theorem StepL.of_me {N' : Nat} (hN : N' ≤ N2) (h1 : LedAt w' b me mq P N' s') (hk : Kept (fun k => k = me) w w') : StepL w w' b me mq P N2 s' := ⟨P, N', h1, hN, fun _ _ e => .inl e, hk.mono (fun _ _ e => .inr (.inl e))⟩
end

theorem field_g (r g : Int) (w : World) : (Instr.field 81 (.agg #[.int .i64 r, .int .u32 g]) 1).run Tryd.prog w = .ok (.int .u32 g) w := by kernel_rfl
namespace Lg
def full (s : S) (c : Int) : Bool := decide ((s.E c).g = 4294967295)
/-- A cell granted to one who asked. -/
def grS (s : S) (c : Int) (y : Wt) : S := if full s c then s else s.turn c ⟨y.r, (s.E c).g + 1⟩
def grO (s : S) (c : Int) (y : Wt) (q : Dn) : Dn := if full s c then q.post ⟨y.r, ⟨5, c, 0, y.s, 0, -1⟩⟩ else (q.write c ⟨y.r, (s.E c).g + 1⟩).post ⟨y.r, ⟨2, c, (s.E c).g + 1, y.s, 0, 0⟩⟩
end Lg
section
variable {w : World} {b me mq N B o : Nat} {P : Int → Option Nat} {s : S} {v : OV} {q : Dn}
theorem box_ne (h : LO w b me mq P N s B o v q) {k : Nat} (hk : w.heap.size ≤ k) : ¬ (LX b me mq P k ∨ OfO o v k) := by
  rintro (e | e)
  · have := h.led.lt e; omega
  · have := (h.out.lt e).2; omega
set_option maxHeartbeats 1000000 in
theorem grant_any (h : LO w b me mq P N s B o v q) {c : Int} (hc : s.is c = true) (y : Wt) (hy : s.has y.r = true) (hyq : ∀ x ∈ s.Q c, x.r ≠ y.r) (hN : N < 99999999) {n : Nat} (hq : q.le n) (hn : n < 1000000) :
    Calls Tryd.prog 43 #[.pointer (some ⟨b, 0, none⟩), .pointer (some ⟨o, 0, none⟩), .int .i64 c, wv y] w fun e w' => e = .returned (.bool (!full s c)) ∧ StepLO w w' b me mq P (N + 1) (grS s c y) B o v (grO s c y q) := by
  obtain ⟨R, hR⟩ : ∃ R : Ending → World → Prop, R = fun e w' => e = .returned (.bool (!full s c)) ∧ StepLO w w' b me mq P (N + 1) (grS s c y) B o v (grO s c y q) := ⟨_, rfl⟩
  have HR : Hid (∀ w', StepLO w w' b me mq P (N + 1) (grS s c y) B o v (grO s c y q) → R (.returned (.bool (!full s c))) w') := by rw [hR]; exact fun w' h1 => ⟨rfl, h1⟩
  rw [← hR]
  clear hR
  obtain ⟨y0, y1, y2⟩ := y
  dsimp only at hy hyq
  simp only [wv]
  obtain ⟨o1, ho1⟩ : ∃ o1 : Obj, o1 = .cells #[.int .i64 y0, .int .u64 y1, .int .i64 y2] 71 := ⟨_, rfl⟩
  have k1 : (w.alloc o1).heap[w.heap.size]? = some o1 := World.alloc_heap_new w o1
  have hb1 := alloc_below w o1
  have h1 := h.below hb1
  have HE := Lib.hid (entry_any h1.led (h.led.ok.i64 hc))
  simp only [ev] at HE
  have qf := field_g
  by_cases hf : full s c = true
  · have hg : (s.E c).g = 4294967295 := by unfold full at hf; simpa using hf
    have HD : Hid (∀ W, Below (w.alloc o1).heap.size (w.alloc o1) W → W.cell? ⟨w.heap.size, 0, none⟩ = some (.int .i64 y0) ∧ W.cell? ⟨w.heap.size, 1, none⟩ = some (.int .u64 y1) ∧ W.cell? ⟨w.heap.size, 2, none⟩ = some (.int .i64 y2) ∧
        Calls Tryd.prog 61 #[.pointer (some ⟨o, 0, none⟩), .int .i64 c, .agg #[.int .i64 y0, .int .u64 y1, .int .i64 y2], .int .i64 (-1)] W fun e w' => e = .returned (.tuple #[]) ∧ R (.returned (.bool false)) w') := by
      intro W hW
      have hb : W.heap[w.heap.size]? = some o1 := (hW.block _ (blk_lt k1)).trans k1
      rw [ho1] at hb
      refine ⟨by rw [blk_cell hb]; rfl, by rw [blk_cell hb]; rfl, by rw [blk_cell hb]; rfl, ?_⟩
      have h2 := h1.below hW
      refine (deny_p h2.out hq (by omega) c ⟨y0, y1, y2⟩ (-1)).mono ?_
      rintro e w' ⟨rfl, hz⟩
      refine ⟨rfl, ?_⟩
      have := HR.out w' (by
        unfold grS grO
        rw [if_pos hf, if_pos hf]
        exact StepLO.of_below (hb1.trans (hW.mono hb1.size)) (h2.out_step hz (by omega)))
      rwa [hf] at this
    rw [hg] at HE
    generalize (s.E c).r = r at *
    clear h h1 hb1 k1 HR hc hy hyq hq hf hg
    rw [ho1] at *
    go_enter Tryd.func43, Tryd.ntmps43
    go_wp2_with fail
    refine HE.out.mono ?_
    rintro e W ⟨rfl, hW⟩
    obtain ⟨z0, z1, z2, HC⟩ := HD.out W hW
    have HC2 := Lib.hid HC
    clear HC HD HE hW
    go_wp2_with fail
    refine HC2.out.mono ?_
    rintro e W2 ⟨rfl, hF⟩
    have HF := Lib.hid hF
    clear hF
    go_wp2
    exact HF.out
  · have hf : full s c = false := by simpa using hf
    have hg : (s.E c).g ≠ 4294967295 := by unfold full at hf; simpa using hf
    have hge := h.led.ok.eg c
    have hg1 : (s.E c).g + 1 ≤ 4294967295 := by omega
    rw [hf] at HR
    have hgs : grS s c ⟨y0, y1, y2⟩ = s.turn c ⟨y0, (s.E c).g + 1⟩ := by unfold grS; rw [hf]; rfl
    have hgo : grO s c ⟨y0, y1, y2⟩ q = (q.write c ⟨y0, (s.E c).g + 1⟩).post ⟨y0, ⟨2, c, (s.E c).g + 1, y1, 0, 0⟩⟩ := by unfold grO; rw [hf]; rfl
    rw [hgs, hgo] at HR
    have e9 : ((s.E c).g == 4294967295) = false := by simpa using hg
    have ew : IntKind.u32.wrap ((s.E c).g + 1) = (s.E c).g + 1 := by
      have h1 : IntKind.u32.min = 0 := rfl
      exact IntWalk.u32_in _ (by omega)
    obtain ⟨o2, ho2⟩ : ∃ o2 : Obj, o2 = .cells #[.int .i64 y0, .int .u32 ((s.E c).g + 1)] 81 := ⟨_, rfl⟩
    have HD : Hid (∀ W, Below (w.alloc o1).heap.size (w.alloc o1) W →
        W.cell? ⟨w.heap.size, 0, none⟩ = some (.int .i64 y0) ∧ (W.alloc o2).cell? ⟨W.heap.size, 0, none⟩ = some (.int .i64 y0) ∧ (W.alloc o2).cell? ⟨W.heap.size, 1, none⟩ = some (.int .u32 ((s.E c).g + 1)) ∧
        Calls Tryd.prog 46 #[.pointer (some ⟨b, 0, none⟩), .int .i64 c, ev y0 ((s.E c).g + 1)] (W.alloc o2) fun e W3 => ∃ A n k, e = .returned (rcv c (.slice A n k)) ∧
          Calls Tryd.prog 62 #[.pointer (some ⟨o, 0, none⟩), rcv c (.slice A n k)] W3 fun e W4 => e = .returned (.tuple #[]) ∧
            (W4.cell? ⟨w.heap.size, 1, none⟩ = some (.int .u64 y1) ∧ W4.cell? ⟨W.heap.size, 0, none⟩ = some (.int .i64 y0) ∧ W4.cell? ⟨W.heap.size, 1, none⟩ = some (.int .u32 ((s.E c).g + 1))) ∧
            Calls Tryd.prog 42 #[.pointer (some ⟨o, 0, none⟩), .int .i64 c, ev y0 ((s.E c).g + 1), .int .u64 y1] W4 fun e W5 => e = .returned (.tuple #[]) ∧ R (.returned (.bool true)) W5) := by
      intro W hW
      have hb : W.heap[w.heap.size]? = some o1 := (hW.block _ (blk_lt k1)).trans k1
      have hbA : (W.alloc o2).heap[w.heap.size]? = some o1 := heap_up hb
      have hbB : (W.alloc o2).heap[W.heap.size]? = some o2 := World.alloc_heap_new W o2
      have hWs : w.heap.size + 1 ≤ W.heap.size := by have := hW.size; simpa using this
      have hwW : Below w.heap.size w (W.alloc o2) := (hb1.trans (hW.mono hb1.size)).trans ((alloc_below W o2).mono (by omega))
      have h2 : LO (W.alloc o2) b me mq P N s B o v q := h.below hwW
      have hnA := box_ne h (k := w.heap.size) (by omega)
      have hnB := box_ne h (k := W.heap.size) (by omega)
      refine ⟨by rw [ho1] at hb; rw [blk_cell hb]; rfl, by rw [ho2] at hbB ⊢; rw [blk_cell hbB]; rfl, by rw [ho2] at hbB ⊢; rw [blk_cell hbB]; rfl, ?_⟩
      refine (turn_any h2.led hc (en := ⟨y0, (s.E c).g + 1⟩) (.inr hy) ⟨by dsimp only; omega, hg1⟩ hyq hN).mono ?_
      rintro e W3 ⟨⟨A, n', k, rfl, h8⟩, N', hN', h3, hk3⟩
      refine ⟨A, n', k, rfl, ?_⟩
      obtain ⟨P3, N3, v3, h4, h5, h6, h7, hk4⟩ := h2.led_step (StepL.of_me hN' h3 hk3)
      refine (write_p h4.out hq (by omega) c ⟨y0, (s.E c).g + 1⟩ h8).mono ?_
      rintro e W4 ⟨rfl, hz⟩
      refine ⟨rfl, ?_⟩
      have hsA := blk_lt hbA
      have hsB := blk_lt hbB
      have hs3 := hk4.size
      obtain ⟨P4, N4, v4, h9, h10, h11, h12, hk5⟩ := StepLO.trans h6 h7 hk4 (h4.out_step hz h5)
      have jA : W4.heap[w.heap.size]? = some o1 := (hk5.block _ hsA (fun e => hnA e)).trans hbA
      have jB : W4.heap[W.heap.size]? = some o2 := (hk5.block _ hsB (fun e => hnB e)).trans hbB
      refine ⟨⟨by rw [ho1] at jA; rw [blk_cell jA]; rfl, by rw [ho2] at jB; rw [blk_cell jB]; rfl, by rw [ho2] at jB; rw [blk_cell jB]; rfl⟩, ?_⟩
      refine (grant_p h9.out (hq.write c ⟨y0, (s.E c).g + 1⟩) (by omega) c y0 ((s.E c).g + 1) y1).mono ?_
      rintro e W5 ⟨rfl, hz5⟩
      exact ⟨rfl, HR.out _ (StepLO.of_below hwW (StepLO.trans h11 h12 hk5 (h9.out_step hz5 h10)))⟩
    generalize (s.E c).g = g at *
    generalize (s.E c).r = r at *
    clear h h1 hb1 k1 HR hc hy hyq hq hf hg hge hgs hgo
    rw [ho1] at *
    go_enter Tryd.func43, Tryd.ntmps43
    go_wp2_with fail
    refine HE.out.mono ?_
    rintro e W ⟨rfl, hW⟩
    obtain ⟨z0, z1, z2, HC⟩ := HD.out W hW
    have HC2 := Lib.hid HC
    clear HC HD HE hW
    go_wp2_with fail
    rw [ho2] at HC2
    refine HC2.out.mono ?_
    rintro e W3 ⟨A, n', k', rfl, HC⟩
    have HC3 := Lib.hid HC
    clear HC HC2 z0 z1 z2
    go_wp2_with fail
    refine HC3.out.mono ?_
    rintro e W4 ⟨rfl, ⟨z0, z1, z2⟩, HC⟩
    have HC4 := Lib.hid HC
    clear HC HC3
    go_wp2_with fail
    refine HC4.out.mono ?_
    rintro e W5 ⟨rfl, hF⟩
    have HF := Lib.hid hF
    clear hF
    go_wp2
    exact HF.out
end
end Go.Proofs.YtlmbbnkdiokabaaDoor
