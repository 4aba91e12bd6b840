/-
  The document's Looks: its walk.
-/
import Derived.Test.YtkedjnhidfnlkaaDoorFs1
namespace Go.Proofs.YtkedjnhidfnlkaaDoor
set_option maxRecDepth 100000
set_option linter.unusedSimpArgs false
open Go Go.RowKit Rq

theorem hZ_int {C N fr c : Nat} (h1 : fr < N) (h2 : c < N) : farZ C N (fr : Int) (c : Int) = ((hZ C N fr c : Nat) : Int) := by
  unfold hZ farZ
  rw [if_pos (by omega)]
  unfold apartZ
  omega
theorem hZ_le {C N fr c : Nat} (h1 : fr < N) (h2 : c < N) : hZ C N fr c ≤ 2 * N := by
  have h := hZ_int (C := C) h1 h2
  have a1 : fr / C ≤ fr := Nat.div_le_self _ _
  have a2 : fr % C ≤ fr := Nat.mod_le _ _
  have a3 : c / C ≤ c := Nat.div_le_self _ _
  have a4 : c % C ≤ c := Nat.mod_le _ _
  unfold farZ at h
  rw [if_pos (by omega)] at h
  simp only [Int.toNat_natCast] at h
  unfold apartZ at h
  generalize fr / C = q1 at *
  generalize fr % C = q2 at *
  generalize c / C = q3 at *
  generalize c % C = q4 at *
  omega
theorem dsZ_lt {R C : Nat} {ms : List UInt8} {ban : List Int} {fr to_ x v : Nat} (h : dsZ R C ms ban fr to_ x = some v) : v < ms.length := by
  have := List.mem_of_find?_eq_some h
  simpa using this
theorem lk_eq {R C : Nat} {ms : List UInt8} {ban : List Int} {fr to_ x : Nat} : lkC ms.length (outs R C ms) (mayZ ban fr) to_ fr (hZ C ms.length fr) x = match dsZ R C ms ban fr to_ x with
    | none => false
    | some d => match dsZ R C ms ban fr to_ fr with
      | none => true
      | some D => decide (d + hZ C ms.length fr x ≤ D) := rfl
theorem cnt_succ (P : Nat → Bool) (i : Nat) : ((List.range (i + 1)).filter P).length = ((List.range i).filter P).length + if P i = true then 1 else 0 := by
  rw [List.range_succ, List.filter_append, List.length_append]
  cases h : P i <;> simp [h]

def CntR (N : Nat) (P : Nat → Bool) (gd : Nat) (d : List Nat) (w : World) (s u : Value) (wr : World) : Prop :=
  ∃ (i n : Nat), i ≤ N ∧ s = .int .i64 (n : Int) ∧ u = .int .i64 (i : Int) ∧ n = ((List.range i).filter P).length ∧ DJ gd d w wr

set_option maxHeartbeats 4000000 in
theorem looks_ref {b g cap fr to_ : Nat} {Q : List ByteArray} {w : World} {B : Option Addr} {ban : List Int} {cb : Nat} (h : RefAt w b g cap Q) (hg : Pure.Good (lsts Q)) (hfr : fr < (lsts Q).flatten.length) (hto : to_ < (lsts Q).flatten.length) (hB : IntsAt w B ban) (hbm : ban.length ≤ maxLen) :
    Calls Tryd.prog 19 #[.pointer (some ⟨b, 0, none⟩), .int .i64 (fr : Int), .int .i64 (to_ : Int), .slice B ban.length cb] w (fun e w' => e = .returned (.int .i64 ((looksN (lsts Q).length (Pure.wid (lsts Q)) (lsts Q).flatten ban fr to_ : Nat) : Int)) ∧ Below w.heap.size w w') := by
  have hsm := hg.small
  have HRr : Hid (∀ wr, Below w.heap.size w wr → RefAt wr b g cap Q) := fun wr hb => h.below hb (Nat.le_refl _)
  have HD := Lib.hid (dists_ref (fr := fr) (cb := cb) h hg hto hB hbm)
  have HFar : Hid (∀ (x : Nat) wr, x < (lsts Q).flatten.length → RefAt wr b g cap Q → Calls Tryd.prog 52 #[.pointer (some ⟨b, 0, none⟩), .int .i64 (fr : Int), .int .i64 (x : Int)] wr fun e w'' => e = .returned (.int .i64 ((hZ (Pure.wid (lsts Q)) (lsts Q).flatten.length fr x : Nat) : Int)) ∧ ∃ n, w'' = wr.drewN n) := fun x wr hx h => by
    have h1 := rfar_any (fr : Int) (x : Int) h hg
    rw [hZ_int hfr hx] at h1
    exact h1
  have HHl : Hid (∀ x, x < (lsts Q).flatten.length → hZ (Pure.wid (lsts Q)) (lsts Q).flatten.length fr x ≤ 2 * (lsts Q).flatten.length) := fun x hx => hZ_le hfr hx
  have HVl : Hid (∀ x v, dsZ (lsts Q).length (Pure.wid (lsts Q)) (lsts Q).flatten ban fr to_ x = some v → v < (lsts Q).flatten.length) := fun x v hv => dsZ_lt hv
  have HLk : Hid (∀ x, lkC (lsts Q).flatten.length (outs (lsts Q).length (Pure.wid (lsts Q)) (lsts Q).flatten) (mayZ ban fr) to_ fr (hZ (Pure.wid (lsts Q)) (lsts Q).flatten.length fr) x = match dsZ (lsts Q).length (Pure.wid (lsts Q)) (lsts Q).flatten ban fr to_ x with
    | none => false
    | some d => match dsZ (lsts Q).length (Pure.wid (lsts Q)) (lsts Q).flatten ban fr to_ fr with
      | none => true
      | some D => decide (d + hZ (Pure.wid (lsts Q)) (lsts Q).flatten.length fr x ≤ D)) := fun x => lk_eq
  have HDst : Hid (∀ d, DstL (lsts Q).length (Pure.wid (lsts Q)) (lsts Q).flatten ban fr to_ d → d.length = (lsts Q).flatten.length ∧ ∀ x, x < (lsts Q).flatten.length → d.getD x 0 = match dsZ (lsts Q).length (Pure.wid (lsts Q)) (lsts Q).flatten ban fr to_ x with | none => 0 | some v => v + 1) := fun d hd => hd
  have hL : looksN (lsts Q).length (Pure.wid (lsts Q)) (lsts Q).flatten ban fr to_ = ((List.range (lsts Q).flatten.length).filter (lkC (lsts Q).flatten.length (outs (lsts Q).length (Pure.wid (lsts Q)) (lsts Q).flatten) (mayZ ban fr) to_ fr (hZ (Pure.wid (lsts Q)) (lsts Q).flatten.length fr))).length := rfl
  rw [hL]
  have HDl : Hid (∀ {e w'}, DistsP (lsts Q).length (Pure.wid (lsts Q)) (lsts Q).flatten ban fr to_ w e w' → ∃ (gd : Nat) (d : List Nat), e = .returned (.slice (some ⟨gd, 0, none⟩) (lsts Q).flatten.length (lsts Q).flatten.length) ∧ DJ gd d w w' ∧ DstL (lsts Q).length (Pure.wid (lsts Q)) (lsts Q).flatten ban fr to_ d) := fun h => h
  clear h hg hB hL
  generalize DistsP (lsts Q).length (Pure.wid (lsts Q)) (lsts Q).flatten ban fr to_ w = DP at *
  generalize DstL (lsts Q).length (Pure.wid (lsts Q)) (lsts Q).flatten ban fr to_ = DL at *
  generalize dsZ (lsts Q).length (Pure.wid (lsts Q)) (lsts Q).flatten ban fr to_ = dO at *
  generalize lkC (lsts Q).flatten.length (outs (lsts Q).length (Pure.wid (lsts Q)) (lsts Q).flatten) (mayZ ban fr) to_ fr (hZ (Pure.wid (lsts Q)) (lsts Q).flatten.length fr) = P at *
  generalize hZ (Pure.wid (lsts Q)) (lsts Q).flatten.length fr = hh at *
  generalize (lsts Q).flatten.length = N at *
  go_enter Tryd.func19, Tryd.ntmps19
  go_wp2_with fail
  refine HD.out.mono ?_
  intro e w2 he
  obtain ⟨gd, d, rfl, hdj, hdl⟩ := HDl.out he
  obtain ⟨hlen, hval⟩ := HDst.out d hdl
  have HLen := Lib.hid hlen
  have HVal := Lib.hid hval
  have HJ := Lib.hid hdj
  clear he HD HDl HDst hdj hdl hlen hval
  go_wp2
  go_loopw [10, 11] (fun s u wr => CntR N P gd d w s u wr) (fun _ u _ => N - (intOf u).toNat)
  case atStart => exact ⟨0, 0, Nat.zero_le _, rfl, rfl, rfl, HJ.out⟩
  case round =>
    obtain ⟨i, n, hi, rfl, rfl, hn, hd⟩ := hrel
    rename World => W
    clear HJ
    have HD := Lib.hid hd
    have HN := Lib.hid hn
    have hnle : n ≤ i := by
      rw [hn]
      have := List.length_filter_le P (List.range i)
      simpa using this
    by_cases hlt : i < N
    · have HCs := Lib.hid (cnt_succ P i)
      have HYes : Hid (P i = true → ∀ k, CntR N P gd d w (.int .i64 ((n : Int) + 1)) (.int .i64 ((i : Int) + 1)) (W.drewN k)) := fun h k =>
        ⟨i + 1, n + 1, hlt, by go_num, by go_num, by rw [HCs.out, if_pos h, ← HN.out], HD.out.drewN k⟩
      have HNo : Hid (P i = false → ∀ k, CntR N P gd d w (.int .i64 (n : Int)) (.int .i64 ((i : Int) + 1)) (W.drewN k)) := fun h k =>
        ⟨i + 1, n, hlt, rfl, by go_num, by rw [HCs.out, if_neg (by simp [h]), Nat.add_zero, ← HN.out], HD.out.drewN k⟩
      have fi : W.cell? ⟨gd, i, none⟩ = some (.int .i64 (((d.getD i 0 : Nat) : Int) - 1)) := hd.cell (j := i) (by rw [HLen.out]; exact hlt)
      have ff : W.cell? ⟨gd, fr, none⟩ = some (.int .i64 (((d.getD fr 0 : Nat) : Int) - 1)) := hd.cell (j := fr) (by rw [HLen.out]; exact hfr)
      have i0 : (0 : Int) ≤ (i : Int) := by omega
      have i1 : (i : Int) < (N : Int) := by omega
      have r0 : (0 : Int) ≤ (fr : Int) := by omega
      have r1 : (fr : Int) < (N : Int) := by omega
      have HFi : Hid (∀ k, Calls Tryd.prog 52 #[.pointer (some ⟨b, 0, none⟩), .int .i64 (fr : Int), .int .i64 (i : Int)] (W.drewN k) fun e w'' => e = .returned (.int .i64 ((hh i : Nat) : Int)) ∧ ∃ n, w'' = (W.drewN k).drewN n) := fun k => HFar.out i _ hlt (HRr.out _ (HD.out.drewN k).bl)
      have hhl := HHl.out i hlt
      have hvi := HVal.out i hlt
      have hvf := HVal.out fr hfr
      have hpi := HLk.out i
      have hli := HVl.out i
      clear hd hn HN HCs HD
      rw [hvi] at fi
      rw [hvf] at ff
      generalize hh i = z at *
      cases hdi : dO i with
      | none =>
        rw [hdi] at hpi fi
        have HF := Lib.hid (HNo.out hpi)
        replace fi : W.cell? ⟨gd, i, none⟩ = some (.int .i64 (-1)) := fi
        clear HYes HNo ff HFi hvi hvf hpi hli hdi
        go_wp2_with fail
        go_quiet (fail)
        go_wp2
        go_roundw
        case rel => exact HF.out _
        case measure => simp [intOf]; omega
      | some v =>
        have hvN := hli v hdi
        rw [hdi] at hpi fi
        have fi' : W.cell? ⟨gd, i, none⟩ = some (.int .i64 (v : Int)) := by
          rw [fi]
          have : (((v + 1 : Nat) : Int) - 1) = (v : Int) := by omega
          show some (Value.int .i64 (((v + 1 : Nat) : Int) - 1)) = _
          rw [this]
        clear fi
        have e1 : decide ((0 : Int) ≤ (v : Int)) = true := by simp
        cases hdf : dO fr with
        | none =>
          rw [hdf] at hpi ff
          have HF := Lib.hid (HYes.out hpi)
          replace ff : W.cell? ⟨gd, fr, none⟩ = some (.int .i64 (-1)) := ff
          have hw1 : IntKind.i64.wrap ((n : Int) + 1) = (n : Int) + 1 := IntWalk.i64_in _ (by omega)
          clear HYes HNo HFi hvi hvf hpi hli hdi hdf
          go_wp2_with fail
          go_quiet (fail)
          go_wp2
          go_roundw
          case rel => exact HF.out _
          case measure => simp [intOf]; omega
        | some D =>
          have hDN := HVl.out fr D hdf
          rw [hdf] at hpi ff
          have ff' : W.cell? ⟨gd, fr, none⟩ = some (.int .i64 (D : Int)) := by
            rw [ff]
            have : (((D + 1 : Nat) : Int) - 1) = (D : Int) := by omega
            show some (Value.int .i64 (((D + 1 : Nat) : Int) - 1)) = _
            rw [this]
          clear ff
          have e2 : decide ((D : Int) < 0) = false := decide_eq_false (by omega)
          have hw0 : IntKind.i64.wrap ((v : Int) + (z : Int)) = (v : Int) + (z : Int) := IntWalk.i64_in _ (by omega)
          have hw1 : IntKind.i64.wrap ((n : Int) + 1) = (n : Int) + 1 := IntWalk.i64_in _ (by omega)
          replace hpi : P i = decide (v + z ≤ D) := hpi
          by_cases hle : v + z ≤ D
          · rw [decide_eq_true hle] at hpi
            have HF := Lib.hid (HYes.out hpi)
            have e3 : decide ((v : Int) + (z : Int) ≤ (D : Int)) = true := decide_eq_true (by omega)
            clear HYes HNo hvi hvf hpi hli hdi hdf hle
            go_wp2_with fail
            go_quiet ((go_at_call 52; exact Calls.quiet_of (HFi.out _)))
            go_wp2
            go_roundw
            case rel => exact HF.out _
            case measure => simp [intOf]; omega
          · rw [decide_eq_false hle] at hpi
            have HF := Lib.hid (HNo.out hpi)
            have e3 : decide ((v : Int) + (z : Int) ≤ (D : Int)) = false := decide_eq_false (by omega)
            clear HYes HNo hvi hvf hpi hli hdi hdf hle
            go_wp2_with fail
            go_quiet ((go_at_call 52; exact Calls.quiet_of (HFi.out _)))
            go_wp2
            go_roundw
            case rel => exact HF.out _
            case measure => simp [intOf]; omega
    · obtain rfl : N = i := by omega
      subst hn
      have HF := Lib.hid hd.bl
      clear hd HD HN
      go_wp2
      go_ret
      exact ⟨rfl, HF.out⟩
end Go.Proofs.YtkedjnhidfnlkaaDoor
