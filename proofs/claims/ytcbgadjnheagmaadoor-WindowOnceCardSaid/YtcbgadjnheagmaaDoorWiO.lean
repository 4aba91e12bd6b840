/-
  The law WindowOnce: its walk.
-/
import Derived.Test.YtcbgadjnheagmaaDoorWiM
import Derived.Maps.Views
import Derived.Maps.Own
import Derived.Carry
namespace Go.Proofs.YtcbgadjnheagmaaDoor
set_option maxRecDepth 100000
set_option linter.unusedSimpArgs false
open Go Go.RowKit
open Go.Maps (Keyed IsMap)

theorem u32Keyed : Keyed Tryd.prog 23 := Maps.int_keyed Tryd.underlying23
theorem intZero (w : World) : (zeroValue 3).run Tryd.prog w = .ok (.int .i64 0) w := by kernel_rfl
theorem u32_wf {n : Nat} (h : n ≤ 4294967295) : (Lit.int .u32 (n : Int)).wf = true := by
  have h1 : IntKind.u32.min = 0 := rfl
  have h2 : IntKind.u32.max = 4294967295 := rfl
  simp only [Lit.wf, Bool.and_eq_true, decide_eq_true_eq, h1, h2]
  omega
def one (b : Bool) : Int := if b then 1 else 0
/-- Which numbers were counted, once each. -/
def Mny (w : World) (m N : Nat) (g : Nat → Bool) : Prop :=
  ∃ D : DataW Unit, w.ownsMap Tryd.prog 23 (plainElem Tryd.prog 3) m N D ∧ IsMap D ∧ ∀ k : Nat, D.atKey (.int .u32 (k : Int)) (.lit (.int .i64 0)) = .lit (.int .i64 (one (g k)))
theorem Mny.made (w : World) : Mny (w.alloc (.map #[] 0)) w.heap.size 0 (fun _ => false) := ⟨.map [], World.ownsMap_made w _ _ _, Maps.isMap_empty, fun _ => rfl⟩
theorem Mny.lt {w : World} {m N : Nat} {g : Nat → Bool} (h : Mny w m N g) : m < w.heap.size := by
  obtain ⟨D, ho, _⟩ := h
  exact ho.lt
theorem Mny.kept {w w' : World} {m N : Nat} {g : Nat → Bool} {X : Nat → Prop} (h : Mny w m N g) (hk : Kept X w w') (hm : ¬ X m) : Mny w' m N g := by
  obtain ⟨D, ho, h1, h2⟩ := h
  have hlt := ho.lt
  obtain ⟨es, clock, hb, F, hs, hD⟩ := ho
  exact ⟨D, ⟨es, clock, (hk.block m hlt hm).trans hb, F, hs, hD⟩, h1, h2⟩
theorem Mny.ext {w : World} {m N N' : Nat} {g g' : Nat → Bool} (h : Mny w m N g) (hN : N ≤ N') (hg : ∀ k, g k = g' k) : Mny w m N' g' := by
  obtain ⟨D, ho, h1, h2⟩ := h
  exact ⟨D, ho.mono hN, h1, fun k => by rw [h2, hg]⟩
theorem Mny.look {w : World} {m N : Nat} {g : Nat → Bool} (h : Mny w m N g) {k : Nat} (hk : k ≤ 4294967295) :
    (Instr.lookup 41 (.map (some m)) (.int .u32 (k : Int)) false).run Tryd.prog w = .ok (.int .i64 (one (g k))) w := by
  obtain ⟨D, ho, h1, h2⟩ := h
  obtain ⟨c, hr, hv, _⟩ := ho.lookup_int u32Keyed Tryd.underlying41 Tryd.underlying3 (intZero w) (Maps.keyOf_int_mk Tryd.underlying23 (u32_wf hk))
  rw [h2] at hv
  simp only [DataW.lit.injEq, Lit.int.injEq, true_and] at hv
  rw [hr, hv]
theorem Mny.put {w : World} {m N : Nat} {g : Nat → Bool} (h : Mny w m N g) (hN : N < 10000) {k : Nat} (hk : k ≤ 4294967295) :
    ∃ w', (Instr.mapUpdate 41 (.map (some m)) (.int .u32 (k : Int)) (.int .i64 1)).run Tryd.prog w = .ok () w' ∧ Mny w' m (N + 1) (fun x => g x || decide (x = k)) ∧ Kept (fun i => i = m) w w' := by
  obtain ⟨D, ho, h1, h2⟩ := h
  obtain ⟨w', hr, ho', hg⟩ := ho.update u32Keyed Tryd.underlying41 (by unfold maxLen; omega) (Maps.keyOf_int_mk Tryd.underlying23 (u32_wf hk)) (plainElem_int Tryd.underlying3 (a := 1) (by decide))
  refine ⟨w', hr, ⟨_, ho', h1.put _ _, fun k' => ?_⟩, ⟨hg.os, hg.tape, hg.output, hg.size, fun i hi hn => hg.block i hi (fun e => hn (by simpa using e))⟩⟩
  by_cases e : k' = k
  · subst e
    rw [Maps.atKey_put_same h1 (k := .int .u32 (k' : Int)) trivial]
    simp [one]
  · rw [Maps.atKey_put_other (by intro e2; injection e2 with _ e2; exact e (by omega)), h2]
    simp [e]

/-- Between two numbers. -/
structure OnI (w : World) (b m j l e : Nat) (W : World) : Prop where
  win : WinI w b l e W
  mny : Mny W m j (Wd.has l e)
  ne : m ≠ b
  hm : w.heap.size ≤ m
  le : l ≤ 64 * j

theorem OnI.drewN {w W : World} {b m j l e : Nat} (h : OnI w b m j l e W) (n : Nat) : OnI w b m j l e (W.drewN n) :=
  ⟨⟨h.win.win, h.win.ok, ⟨h.win.below.os, h.win.below.tape, h.win.below.output, h.win.below.size, h.win.below.block⟩, h.win.hb⟩, h.mny, h.ne, h.hm, h.le⟩

theorem once_long {w : World} {A : Option Addr} {n cap : Nat} (hT : Tab w) (hn : 300 < n) :
    Calls Tryd.prog 5 #[.slice A n cap] w fun e w' => e = .returned (.bool true) ∧ Below w.heap.size w w' := by
  have HA := Lib.hid (alive_any hT)
  have e1 : decide ((300 : Int) < (n : Int)) = true := by simp; omega
  have e2 : decide (300 < n) = true := by simpa using hn
  clear hT hn
  go_enter Tryd.func5, Tryd.ntmps5
  go_wp2_with fail
  refine HA.out.mono ?_
  rintro e w1 ⟨rfl, hb1⟩
  have HB1 := Lib.hid hb1
  clear hb1
  go_wp2
  go_ret
  exact ⟨rfl, HB1.out⟩

set_option maxHeartbeats 2000000 in
theorem once_few {w : World} {A : Option Addr} {L : List Nat} {cap : Nat} (hT : Tab w) (hn : L.length ≤ 300) (hA : NumsAt .u32 w A L) (hL : ∀ x ∈ L, x ≤ 4294967295) :
    Calls Tryd.prog 5 #[.slice A L.length cap] w fun e w' => e = .returned (.bool true) ∧ Below w.heap.size w w' := by
  have HA := Lib.hid (alive_any hT)
  have HN : Hid (∀ W j, Below w.heap.size w W → j < L.length → ∃ a, A = some a ∧ W.cell? (a.add j) = some (.int .u32 ((L.getD j 0 : Nat) : Int)) ∧ L.getD j 0 ≤ 4294967295) := by
    intro W j hb hj
    obtain ⟨a, h1, _, h2⟩ := (hA.below hb (Nat.le_refl _)) j hj
    refine ⟨a, h1, h2, hL _ ?_⟩
    rw [List.getD_eq_getElem?_getD, List.getElem?_eq_getElem hj]
    exact List.getElem_mem hj
  have HT := Lib.hid hT
  obtain ⟨N, hN⟩ : ∃ N, N = L.length := ⟨_, rfl⟩
  rw [← hN] at hn HN ⊢
  have e1 : decide ((300 : Int) < (N : Int)) = false := by simp; omega
  have e2 : decide (300 < N) = false := by simp; omega
  have HNN := Lib.hid hn
  clear hT hn hA hL hN
  go_enter Tryd.func5, Tryd.ntmps5
  go_wp2_with fail
  refine HA.out.mono ?_
  rintro e w1 ⟨rfl, hb1⟩
  obtain ⟨w2, hw2⟩ : ∃ w2, (w1.alloc (.cells #[.int .u32 0, .int .u64 0] 27)).alloc (.map #[] 0) = w2 := ⟨_, rfl⟩
  have h2 : WinI w w1.heap.size 0 0 w2 := ⟨by rw [← hw2]; exact (Below.heap_alloc _ _ _ (by simp)).trans (heap_alloc_new w1 _), Wd.ok_zero, by rw [← hw2]; exact (hb1.alloc hb1.size _).alloc (by rw [World.size_alloc]; have := hb1.size; omega) _, hb1.size⟩
  have h3 : Mny w2 (w1.heap.size + 1) 0 (Wd.has 0 0) := by
    rw [← hw2]
    have := Mny.made (w1.alloc (.cells #[.int .u32 0, .int .u64 0] 27))
    rw [World.size_alloc] at this
    refine this.ext (Nat.le_refl _) (fun k => ?_)
    rcases Nat.eq_zero_or_pos k with rfl | hk
    · rfl
    · rw [Wd.has_high hk, Nat.zero_testBit]
  have HS : Hid (∃ (j l e : Nat), j ≤ N ∧ (Value.int .u32 0) = .int .u32 (l : Int) ∧ (Value.int .i64 0) = .int .i64 (j : Int) ∧ OnI w w1.heap.size (w1.heap.size + 1) j l e w2) :=
    ⟨0, 0, 0, Nat.zero_le _, rfl, rfl, h2, h3, by omega, by have := hb1.size; omega, by omega⟩
  clear hb1 h2 h3 HA
  have hmm := @run_makeMap Tryd.prog
  go_wp2
  go_loopw [6, 23] (fun la i wr => ∃ (j l e : Nat), j ≤ N ∧ la = .int .u32 (l : Int) ∧ i = .int .i64 (j : Int) ∧ OnI w w1.heap.size (w1.heap.size + 1) j l e wr) (fun _ i _ => N - (intOf i).toNat)
  case atStart => exact HS.out
  case round =>
    obtain ⟨j, l, e, hj, rfl, rfl, hI⟩ := hrel
    rename World => V
    clear HS hw2 hmm
    by_cases hjN : j < N
    · obtain ⟨a, rfl, hc, hx⟩ := HN.out V j hI.win.below hjN
      generalize hxd : L.getD j 0 = x at *
      have q0 : (0 : Int) ≤ (j : Int) := by omega
      have q1 : (j : Int) < (N : Int) := by omega
      have q2 : IntKind.i64.wrap ((j : Int) + 1) = (j : Int) + 1 := IntWalk.i64_in _ (by have := HNN.out; omega)
      have HM := Lib.hid (hI.win.meet_c HT.out hx)
      have HJ := Lib.hid hjN
      have hl1 := Wd.nl_ge l e x
      have hl2 := Wd.nl_le hI.win.ok (n := x)
      have hst := Wd.step_has hI.win.ok (n := x)
      have d1 : decide ((Wd.nl l e x : Int) < (l : Int)) = false := by simp; omega
      have d2 : decide (Wd.nl l e x < l) = false := by simp; omega
      have HC : Hid ((Wd.code l e x = 1 → Wd.has l e x = false) ∧ (Wd.code l e x = 1 → Wd.has (Wd.nl l e x) (Wd.ne l e x) x = true) ∧ (Wd.code l e x = 2 → Wd.has (Wd.nl l e x) (Wd.ne l e x) x = true) ∧ (Wd.code l e x = 0 → Wd.has (Wd.nl l e x) (Wd.ne l e x) x = false) ∧ (Wd.code l e x = 3 → Wd.has (Wd.nl l e x) (Wd.ne l e x) x = false)) := by
        refine ⟨fun h => (Wd.code_one h).2.1, fun h => by rw [hst, h]; simp, fun h => ?_, fun h => ?_, fun h => ?_⟩
        · rw [hst, h]
          unfold Wd.code at h
          split at h
          · omega
          · split at h
            · rename_i h3; rw [h3]; rfl
            · split at h <;> omega
        · rw [hst, h]
          unfold Wd.code at h
          split at h
          · rename_i h3; subst h3; simp [Wd.has_zero]
          · split at h
            · omega
            · split at h <;> omega
        · rw [hst, h]
          unfold Wd.code at h
          split at h
          · omega
          · split at h
            · omega
            · rename_i h3
              have : Wd.has l e x = false := by simpa using h3
              rw [this]; simp
      have hcode : Wd.code l e x = 0 ∨ Wd.code l e x = 1 ∨ Wd.code l e x = 2 ∨ Wd.code l e x = 3 := by
        unfold Wd.code
        split
        · exact .inl rfl
        · split
          · exact .inr (.inr (.inl rfl))
          · split
            · exact .inr (.inr (.inr rfl))
            · exact .inr (.inl rfl)
      have hmny := Lib.hid hI.mny
      have HR : Hid ((w1.heap.size + 1 ≠ w1.heap.size) ∧ w.heap.size ≤ w1.heap.size + 1 ∧ Wd.nl l e x ≤ 64 * (j + 1)) := ⟨hI.ne, hI.hm, by have := hI.le; omega⟩
      have HST := Lib.hid hst
      clear hI hj hjN hl1 hl2 hst
      rcases hcode with hcd | hcd | hcd | hcd
      · have hh : Wd.has (Wd.nl l e x) (Wd.ne l e x) x = false := HC.out.2.2.2.1 hcd
        rw [hcd] at HM
        go_wp2_with fail
        refine HM.out.mono ?_
        rintro y w3 ⟨rfl, hI3, hk3⟩
        have hm3 := hmny.out.kept hk3 HR.out.1
        have hO : OnI w w1.heap.size (w1.heap.size + 1) (j + 1) (Wd.nl l e x) (Wd.ne l e x) w3 := ⟨hI3, hm3.ext (Nat.le_succ _) (fun k => by rw [HST.out, hcd]; simp), HR.out.1, HR.out.2.1, HR.out.2.2⟩
        obtain ⟨a', ha', hc3, _⟩ := HN.out w3 j hI3.below HJ.out
        cases ha'
        rw [hxd] at hc3
        have HLA := Lib.hid (last_any hO.win.win)
        have HO := Lib.hid hO
        have hlk2 := hO.mny.look hx
        have hlk3 := fun n => (hO.drewN n).mny.look hx
        rw [hh, show one false = 0 from rfl] at hlk2
        simp only [hh, show one false = 0 from rfl] at hlk3
        have HHA := Lib.hid (fun n => has_any (w := w3.drewN n) (n := x) (hO.drewN n).win.win hO.win.ok.he hx)
        rw [hh] at HHA
        have HS : Hid (∀ n, ∃ (j' l' e' : Nat), j' ≤ N ∧ (Value.int .u32 ((Wd.nl l e x : Nat) : Int)) = .int .u32 (l' : Int) ∧ (Value.int .i64 ((j : Int) + 1)) = .int .i64 (j' : Int) ∧ OnI w w1.heap.size (w1.heap.size + 1) j' l' e' (w3.drewN n)) := fun n => ⟨j + 1, _, _, HJ.out, rfl, by push_cast; rfl, hO.drewN n⟩
        clear hO hI3 hk3 hm3 HM hcd hh hxd HC HST
        generalize Wd.nl l e x = l2 at *
        generalize Wd.ne l e x = e2 at *
        go_wp2_with fail
        refine HLA.out.mono ?_
        rintro y w5 ⟨rfl, hw5⟩
        rw [hw5]
        clear hw5
        go_wp2_with fail
        go_quiet (exact Calls.quiet_of (HHA.out _))
        go_wp2
        exact ⟨HS.out nq, by simp [intOf]; have := HJ.out; omega⟩
      · have hh : Wd.has (Wd.nl l e x) (Wd.ne l e x) x = true := HC.out.2.1 hcd
        rw [hcd] at HM
        go_wp2_with fail
        refine HM.out.mono ?_
        rintro y w3 ⟨rfl, hI3, hk3⟩
        have hm3 := hmny.out.kept hk3 HR.out.1
        have hlk := hm3.look hx
        rw [HC.out.1 hcd, show one false = 0 from rfl] at hlk
        obtain ⟨w4, hput, hm4, hk4⟩ := hm3.put (by have := HJ.out; have := HNN.out; omega) hx
        have hI4 : WinI w w1.heap.size (Wd.nl l e x) (Wd.ne l e x) w4 := ⟨hI3.win.kept hk4 (fun h => HR.out.1 h.symm), hI3.ok, ⟨hk4.os.trans hI3.below.os, hk4.tape.trans hI3.below.tape, hk4.output.trans hI3.below.output, Nat.le_trans hI3.below.size hk4.size, fun k hk' => (hk4.block k (Nat.lt_of_lt_of_le hk' hI3.below.size) (by have := HR.out.2.1; omega)).trans (hI3.below.block k hk')⟩, hI3.hb⟩
        have hO : OnI w w1.heap.size (w1.heap.size + 1) (j + 1) (Wd.nl l e x) (Wd.ne l e x) w4 := ⟨hI4, hm4.ext (Nat.le_refl _) (fun k => by rw [HST.out, hcd]; simp), HR.out.1, HR.out.2.1, HR.out.2.2⟩
        obtain ⟨a', ha', hc3, _⟩ := HN.out w3 j hI3.below HJ.out
        obtain ⟨a'', ha'', hc4, _⟩ := HN.out w4 j hI4.below HJ.out
        cases ha'
        cases ha''
        rw [hxd] at hc3 hc4
        have HLA := Lib.hid (last_any hO.win.win)
        have HO := Lib.hid hO
        have hlk2 := hO.mny.look hx
        have hlk3 := fun n => (hO.drewN n).mny.look hx
        rw [hh, show one true = 1 from rfl] at hlk2
        simp only [hh, show one true = 1 from rfl] at hlk3
        have HHA := Lib.hid (fun n => has_any (w := w4.drewN n) (n := x) (hO.drewN n).win.win hO.win.ok.he hx)
        rw [hh] at HHA
        have HS : Hid (∀ n, ∃ (j' l' e' : Nat), j' ≤ N ∧ (Value.int .u32 ((Wd.nl l e x : Nat) : Int)) = .int .u32 (l' : Int) ∧ (Value.int .i64 ((j : Int) + 1)) = .int .i64 (j' : Int) ∧ OnI w w1.heap.size (w1.heap.size + 1) j' l' e' (w4.drewN n)) := fun n => ⟨j + 1, _, _, HJ.out, rfl, by push_cast; rfl, hO.drewN n⟩
        clear hO hI3 hk3 hm3 HM hcd hh hxd HC HST hI4 hm4 hk4
        generalize Wd.nl l e x = l2 at *
        generalize Wd.ne l e x = e2 at *
        go_wp2_with fail
        refine HLA.out.mono ?_
        rintro y w5 ⟨rfl, hw5⟩
        rw [hw5]
        clear hw5
        go_wp2_with fail
        go_quiet (exact Calls.quiet_of (HHA.out _))
        go_wp2
        exact ⟨HS.out nq, by simp [intOf]; have := HJ.out; omega⟩
      · have hh : Wd.has (Wd.nl l e x) (Wd.ne l e x) x = true := HC.out.2.2.1 hcd
        rw [hcd] at HM
        go_wp2_with fail
        refine HM.out.mono ?_
        rintro y w3 ⟨rfl, hI3, hk3⟩
        have hm3 := hmny.out.kept hk3 HR.out.1
        have hO : OnI w w1.heap.size (w1.heap.size + 1) (j + 1) (Wd.nl l e x) (Wd.ne l e x) w3 := ⟨hI3, hm3.ext (Nat.le_succ _) (fun k => by rw [HST.out, hcd]; simp), HR.out.1, HR.out.2.1, HR.out.2.2⟩
        obtain ⟨a', ha', hc3, _⟩ := HN.out w3 j hI3.below HJ.out
        cases ha'
        rw [hxd] at hc3
        have HLA := Lib.hid (last_any hO.win.win)
        have HO := Lib.hid hO
        have hlk2 := hO.mny.look hx
        have hlk3 := fun n => (hO.drewN n).mny.look hx
        rw [hh, show one true = 1 from rfl] at hlk2
        simp only [hh, show one true = 1 from rfl] at hlk3
        have HHA := Lib.hid (fun n => has_any (w := w3.drewN n) (n := x) (hO.drewN n).win.win hO.win.ok.he hx)
        rw [hh] at HHA
        have HS : Hid (∀ n, ∃ (j' l' e' : Nat), j' ≤ N ∧ (Value.int .u32 ((Wd.nl l e x : Nat) : Int)) = .int .u32 (l' : Int) ∧ (Value.int .i64 ((j : Int) + 1)) = .int .i64 (j' : Int) ∧ OnI w w1.heap.size (w1.heap.size + 1) j' l' e' (w3.drewN n)) := fun n => ⟨j + 1, _, _, HJ.out, rfl, by push_cast; rfl, hO.drewN n⟩
        clear hO hI3 hk3 hm3 HM hcd hh hxd HC HST
        generalize Wd.nl l e x = l2 at *
        generalize Wd.ne l e x = e2 at *
        go_wp2_with fail
        refine HLA.out.mono ?_
        rintro y w5 ⟨rfl, hw5⟩
        rw [hw5]
        clear hw5
        go_wp2_with fail
        go_quiet (exact Calls.quiet_of (HHA.out _))
        go_wp2
        exact ⟨HS.out nq, by simp [intOf]; have := HJ.out; omega⟩
      · have hh : Wd.has (Wd.nl l e x) (Wd.ne l e x) x = false := HC.out.2.2.2.2 hcd
        rw [hcd] at HM
        go_wp2_with fail
        refine HM.out.mono ?_
        rintro y w3 ⟨rfl, hI3, hk3⟩
        have hm3 := hmny.out.kept hk3 HR.out.1
        have hO : OnI w w1.heap.size (w1.heap.size + 1) (j + 1) (Wd.nl l e x) (Wd.ne l e x) w3 := ⟨hI3, hm3.ext (Nat.le_succ _) (fun k => by rw [HST.out, hcd]; simp), HR.out.1, HR.out.2.1, HR.out.2.2⟩
        obtain ⟨a', ha', hc3, _⟩ := HN.out w3 j hI3.below HJ.out
        cases ha'
        rw [hxd] at hc3
        have HLA := Lib.hid (last_any hO.win.win)
        have HO := Lib.hid hO
        have hlk2 := hO.mny.look hx
        have hlk3 := fun n => (hO.drewN n).mny.look hx
        rw [hh, show one false = 0 from rfl] at hlk2
        simp only [hh, show one false = 0 from rfl] at hlk3
        have HHA := Lib.hid (fun n => has_any (w := w3.drewN n) (n := x) (hO.drewN n).win.win hO.win.ok.he hx)
        rw [hh] at HHA
        have HS : Hid (∀ n, ∃ (j' l' e' : Nat), j' ≤ N ∧ (Value.int .u32 ((Wd.nl l e x : Nat) : Int)) = .int .u32 (l' : Int) ∧ (Value.int .i64 ((j : Int) + 1)) = .int .i64 (j' : Int) ∧ OnI w w1.heap.size (w1.heap.size + 1) j' l' e' (w3.drewN n)) := fun n => ⟨j + 1, _, _, HJ.out, rfl, by push_cast; rfl, hO.drewN n⟩
        clear hO hI3 hk3 hm3 HM hcd hh hxd HC HST
        generalize Wd.nl l e x = l2 at *
        generalize Wd.ne l e x = e2 at *
        go_wp2_with fail
        refine HLA.out.mono ?_
        rintro y w5 ⟨rfl, hw5⟩
        rw [hw5]
        clear hw5
        go_wp2_with fail
        go_quiet (exact Calls.quiet_of (HHA.out _))
        go_wp2
        exact ⟨HS.out nq, by simp [intOf]; have := HJ.out; omega⟩
    · obtain rfl : j = N := by omega
      have HO := Lib.hid hI
      have HW : Hid (∀ k, k ≤ l → k ≠ 0 → (Instr.lookup 41 (.map (some (w1.heap.size + 1))) (.int .u32 (k : Int)) false).run Tryd.prog V = .ok (.int .i64 1) V) := fun k hk h0 => by
        have h1 := hI.mny.look (k := k) (by have := hI.win.ok.hl; omega)
        rw [Wd.has_low h0 hk] at h1
        exact h1
      have HL : Hid (l ≤ 19200) := by show l ≤ _; have := hI.le; have := HNN.out; omega
      have HS : Hid (∃ k : Nat, 1 ≤ k ∧ k ≤ l + 1 ∧ (Value.int .u32 1) = .int .u32 (k : Int)) := ⟨1, by omega, by omega, rfl⟩
      clear hI hj
      go_wp2
      go_loopw [10] (fun n wr => ∃ k : Nat, 1 ≤ k ∧ k ≤ l + 1 ∧ n = .int .u32 (k : Int) ∧ V = wr) (fun n _ => l + 1 - (intOf n).toNat)
      case atStart =>
        obtain ⟨k, h1, h2, h3⟩ := HS.out
        exact ⟨k, h1, h2, h3, rfl⟩
      case round =>
        obtain ⟨k, hk1, hk2, rfl, rfl⟩ := hrel
        clear HS
        by_cases hkl : k ≤ l
        · have hlk := HW.out k hkl (by omega)
          have d1 : decide ((k : Int) ≤ (l : Int)) = true := by simpa using hkl
          have d2 : decide (k ≤ l) = true := by simpa using hkl
          have d3 : IntKind.u32.wrap ((k : Int) + 1) = (k : Int) + 1 := u32_in (by omega) (by have := HL.out; omega)
          have HX : Hid (k ≤ l) := hkl
          clear hk1 hk2 hkl
          go_wp2
          exact ⟨⟨k + 1, by omega, by have := HX.out; omega, by push_cast; rfl, by trivial⟩, by simp [intOf]; have := HX.out; omega⟩
        · have d1 : decide ((k : Int) ≤ (l : Int)) = false := by simp; omega
          have d2 : decide (k ≤ l) = false := by simp; omega
          have HF := Lib.hid HO.out.win.below
          go_wp2
          go_ret
          exact ⟨rfl, HF.out⟩
theorem once_any {w : World} {A : Option Addr} {L : List Nat} {cap : Nat} (hT : Tab w) (hA : NumsAt .u32 w A L) (hL : ∀ x ∈ L, x ≤ 4294967295) :
    Calls Tryd.prog 5 #[.slice A L.length cap] w fun e w' => e = .returned (.bool true) ∧ Below w.heap.size w w' := by
  by_cases h : 300 < L.length
  · exact once_long hT h
  · exact once_few hT (by omega) hA hL
end Go.Proofs.YtcbgadjnheagmaaDoor
