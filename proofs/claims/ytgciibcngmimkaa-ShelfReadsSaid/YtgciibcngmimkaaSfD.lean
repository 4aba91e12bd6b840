/-
  Records in a list that is handed in; shelf.Behind.
-/
import Derived.Test.YtgciibcngmimkaaSfC
namespace Go.Proofs.Ytgciibcngmimkaa
set_option maxRecDepth 100000
set_option linter.unusedSimpArgs false
open Go Go.RowKit Sf

/-- A record: its data's address and capacity beside it. -/
structure Sf.Rc where
  r : Rec
  A : Option Addr
  cap : Nat
instance : Inhabited Sf.Rc := ⟨⟨⟨0, 0, []⟩, none, 0⟩⟩
@[reducible] def rcV (x : Rc) : Value := recA x.r.k x.r.n x.A x.r.d.length x.cap
/-- Records at an address. -/
def RsAt (w : World) (A : Option Addr) (l : List Rc) : Prop := ∀ j, j < l.length → ∃ a, A = some a ∧ (w.cell? (a.add (j * 3)) = some (.int .i64 (l.getD j default).r.k) ∧ w.cell? ⟨(a.add (j * 3)).block, (a.add (j * 3)).off + 1, none⟩ = some (.int .i64 (l.getD j default).r.n) ∧ w.cell? ⟨(a.add (j * 3)).block, (a.add (j * 3)).off + 2, none⟩ = some (.slice (l.getD j default).A (l.getD j default).r.d.length (l.getD j default).cap)) ∧
  RecOk w (l.getD j default).r (l.getD j default).A (l.getD j default).cap
theorem RsAt.below {w w' : World} {A : Option Addr} {l : List Rc} (h : RsAt w A l) (hb : Below w.heap.size w w') : RsAt w' A l := by
  intro j hj
  obtain ⟨a, e, ⟨h0, h1, h2⟩, h3⟩ := h j hj
  have kk : Kept (fun _ => False) w w' := Kept.of_below hb (Nat.le_refl _)
  exact ⟨a, e, ⟨kk.cell h0 id, kk.cell h1 id, kk.cell h2 id⟩, h3.below hb⟩
theorem RsAt.take {w : World} {A : Option Addr} {l : List Rc} (h : RsAt w A l) (n : Nat) : RsAt w A (l.take n) := by
  intro j hj
  rw [List.length_take] at hj
  have e : (l.take n).getD j default = l.getD j default := by
    simp only [List.getD, List.getElem?_take]
    rw [if_pos (by omega)]
  rw [e]
  exact h j (by omega)

namespace Sf
/-- What writes one by one come to. -/
def bhE : List Ent → List Rec → Nat
  | _, [] => 0
  | M, r :: t => if wrE M r = 0 then bhE (wrM M r) t else wrE M r
def bhM (M : List Ent) (l : List Rec) : List Ent := l.foldl wrM M
theorem bhE_append (M : List Ent) (l t : List Rec) : bhE M (l ++ t) = if bhE M l = 0 then bhE (bhM M l) t else bhE M l := by
  induction l generalizing M with
  | nil => simp [bhE, bhM]
  | cons r l ih =>
    show (if wrE M r = 0 then bhE (wrM M r) (l ++ t) else wrE M r) = if (if wrE M r = 0 then bhE (wrM M r) l else wrE M r) = 0 then bhE (bhM (wrM M r) l) t else (if wrE M r = 0 then bhE (wrM M r) l else wrE M r)
    by_cases h : wrE M r = 0
    · simp only [h, if_true]; exact ih _
    · simp only [h, if_false]
theorem bhM_append (M : List Ent) (l t : List Rec) : bhM M (l ++ t) = bhM (bhM M l) t := by simp [bhM]
end Sf
theorem MapM.tight {w : World} {m N : Nat} {M : List Ent} (h : MapM w m N M) (hs : M.Pairwise (fun a b => a.1 < b.1)) : MapM w m M.length M ∧ M.length ≤ N := by
  obtain ⟨D, ho, h1, h2, h3⟩ := h
  have hsz : Maps.size D = M.length := by rw [← size_keys h1, ← (MapM.perm ho h2 hs).length_eq, List.length_map]
  have hle := ho.size_le
  refine ⟨⟨D, ?_, h1, h2, h3⟩, by omega⟩
  obtain ⟨es, clock, hb, F, hn, rfl⟩ := ho
  refine ⟨es, clock, hb, F, ?_, rfl⟩
  rw [← hsz]
  simp [Maps.size, Go.length_sorted]
theorem ShAt.tight {w : World} {b N : Nat} {mo : Option Nat} {M : List Ent} (h : ShAt w b mo N M) : ShAt w b mo M.length M := ⟨h.blk, h.none_, fun m e => ((h.some_ m e).tight h.ok.srt).1, h.ok⟩
/-- What a write leaves, the map's bound apart. -/
def WrR (w : World) (b : Nat) (mo : Option Nat) (M : List Ent) (r : Rec) (e : Ending) (w' : World) : Prop :=
  e = .returned (.int .i64 (wrE M r : Nat)) ∧ ∃ mo' N', ShAt w' b mo' N' (wrM M r) ∧ Kept (OfS b mo) w w' ∧ ∀ m, mo' = some m → mo = some m ∨ w.heap.size ≤ m
theorem write_all {w : World} {b N : Nat} {mo : Option Nat} {M : List Ent} {r : Rec} {A : Option Addr} {cap : Nat} (h : ShAt w b mo N M) (hr : RecOk w r A cap) :
    Calls Try.prog 11 #[.pointer (some ⟨b, 0, none⟩), recA r.k r.n A r.d.length cap] w (WrR w b mo M r) :=
  (write_any h.tight (by have := h.ok.len; omega) hr).mono (fun e w' ⟨h1, mo', h2, h3⟩ => ⟨h1, mo', _, h2, h3⟩)
theorem behind_none (w : World) (A : Option Addr) (len cap : Nat) (many : Int) :
    Calls Try.prog 19 #[.pointer none, .slice A len cap, .int .i64 many] w fun e w' => e = .returned (.tuple #[.pointer none, .int .i64 1]) ∧ w = w' := by
  go_enter Try.func19, Try.ntmps19
  go_wp2
  exact bodyPost_ret (v := .tuple #[.pointer none, .int .i64 1]) (by simp [results, Try.results19, go_sem]) rfl ⟨rfl, rfl⟩
/-- What Behind leaves. -/
def BhQ (w : World) (M : List Ent) (l : List Rec) (e : Ending) (w' : World) : Prop :=
  Below w.heap.size w w' ∧ ((bhE M l = 0 ∧ ∃ b mo N, e = .returned (.tuple #[.pointer (some ⟨b, 0, none⟩), .int .i64 0]) ∧ ShAt w' b mo N (bhM M l) ) ∨ (bhE M l ≠ 0 ∧ e = .returned (.tuple #[.pointer none, .int .i64 (bhE M l : Nat)])))
set_option maxHeartbeats 4000000 in
theorem behind_any {w : World} {b N : Nat} {mo : Option Nat} {M : List Ent} {A : Option Addr} {l : List Rc} (h : ShAt w b mo N M) (hl : RsAt w A l) (cap : Nat) (hcap : l.length ≤ cap) (hmx : l.length ≤ 1000000000000000) (many : Int) :
    Calls Try.prog 19 #[.pointer (some ⟨b, 0, none⟩), .slice A l.length cap, .int .i64 many] w (BhQ w M ((l.map (·.r)).take (min many.toNat l.length))) := by
  obtain ⟨n, hn⟩ : ∃ n, n = min many.toNat l.length := ⟨_, rfl⟩
  have hnl : n ≤ l.length := by omega
  have hM := h.ok.len
  rw [← hn]
  obtain ⟨R, hR⟩ : ∃ R, R = (l.map (·.r)).take n := ⟨_, rfl⟩
  rw [← hR]
  have hRl : R.length = n := by rw [hR, List.length_take, List.length_map]; omega
  have HCp := Lib.hid (copy_any h)
  have HL := Lib.hid hl
  have HRj : Hid (∀ j, j < n → R.take (j + 1) = R.take j ++ [(l.getD j default).r]) := by
    intro j hj
    rw [List.take_add_one]
    congr 1
    rw [hR, List.getElem?_take, if_pos hj, List.getElem?_map, List.getElem?_eq_getElem (by omega)]
    simp [List.getD, show j < l.length by omega]
  obtain ⟨P, hP⟩ : ∃ P, P = BhQ w M R := ⟨_, rfl⟩
  have HP := Lib.hid hP
  rw [← hP]
  clear hP h hl
  have HRl := Lib.hid hRl
  have HML := Lib.hid hM
  obtain ⟨L, hL⟩ : ∃ L, L = l.length := ⟨_, rfl⟩
  have HLe := Lib.hid hL
  have hcap' : L ≤ cap := by rw [hL]; exact hcap
  have hLm : L ≤ 1000000000000000 := by rw [hL]; exact hmx
  rw [← hL]
  rw [← hL] at hn hnl
  have HN := Lib.hid hn
  clear hRl hR hM hcap hmx hL hn
  go_enter Try.func19, Try.ntmps19
  go_wp2_with fail
  (with_reducible refine HCp.out.mono ?_)
  rintro e W0 ⟨bt, mt, rfl, hs0, hbt, hmt, hb0⟩
  have HS0 := Lib.hid hs0
  have HB0 := Lib.hid hb0
  have HBt := Lib.hid hbt
  have HMt := Lib.hid hmt
  clear hs0 hb0 hbt hmt HCp
  go_wp2_with fail
  have e1 : min (max many 0) (L : Int) = (n : Int) := by have := HN.out; omega
  rw [e1]
  have e2 : max (n : Int) 0 = (n : Int) := by omega
  have e3 : ((n : Nat) : Int).toNat = n := by omega
  rw [e2, e3]
  clear e1 e2 e3
  have HQ1 : Hid (∀ (j : Nat) (mo' : Option Nat) (N' : Nat) (V : World), j = n → bhE M (R.take j) = 0 → ShAt V bt mo' N' (bhM M (R.take j)) → Below w.heap.size w V → P (.returned (.tuple #[.pointer (some ⟨bt, 0, none⟩), .int .i64 0])) V) := by
    intro j mo' N' V hj h1 h2 h3
    have e : R.take j = R := List.take_of_length_le (by rw [HRl.out]; omega)
    rw [e] at h1 h2
    rw [HP.out]
    exact ⟨h3, .inl ⟨h1, bt, mo', _, rfl, h2⟩⟩
  have HQ2 : Hid (∀ (j : Nat) (r : Rec) (V : World), j < n → r = (l.getD j default).r → bhE M (R.take j) = 0 → wrE (bhM M (R.take j)) r ≠ 0 → Below w.heap.size w V → P (.returned (.tuple #[.pointer none, .int .i64 (wrE (bhM M (R.take j)) r : Nat)])) V) := by
    intro j r V hj hr h1 h2 h3
    have e2 : bhE M (R.take (j + 1)) = wrE (bhM M (R.take j)) r := by
      rw [HRj.out j hj, bhE_append, if_pos h1, ← hr]
      unfold bhE
      rw [if_neg h2]
    have e3 : bhE M R = wrE (bhM M (R.take j)) r := by
      have h := bhE_append M (R.take (j + 1)) (R.drop (j + 1))
      rw [List.take_append_drop, if_neg (by rw [e2]; exact h2), e2] at h
      exact h
    rw [HP.out]
    exact ⟨h3, .inr ⟨by rw [e3]; exact h2, by rw [e3]⟩⟩
  have H00 : Hid (bhE M (R.take 0) = 0) := Lib.hid (by simp [bhE])
  have HS00 : Hid (ShAt W0 bt (some mt) M.length (bhM M (R.take 0))) := Lib.hid (by simpa [bhM] using HS0.out)
  go_loopw [24] (fun i wr => ∃ (j : Nat) (mo' : Option Nat) (N' : Nat), j ≤ n ∧ i = .int .i64 (j : Int) ∧ bhE M (R.take j) = 0 ∧ ShAt wr bt mo' N' (bhM M (R.take j)) ∧ Below w.heap.size w wr ∧ (∀ m, mo' = some m → w.heap.size ≤ m)) (fun i _ => n - (intOf i).toNat)
  case atStart => exact ⟨0, some mt, _, by omega, rfl, H00.out, HS00.out, HB0.out, fun m e => by cases e; exact HMt.out⟩
  case round =>
    obtain ⟨j, mo', N', hj, rfl, h1, h2, h3, h4⟩ := hrel
    rename World => V
    have HE := Lib.hid h1
    have HSh := Lib.hid h2
    have HB := Lib.hid h3
    have HM4 := Lib.hid h4
    clear h1 h2 h3 h4
    by_cases hlt : j < n
    · have hjl : j < l.length := by rw [← HLe.out]; omega
      obtain ⟨a, rfl, ⟨c0, c1, c2⟩, hrk⟩ := (HL.out.below HB.out) j hjl
      obtain ⟨x, hx⟩ : ∃ x, x = l.getD j default := ⟨_, rfl⟩
      rw [← hx] at c0 c1 c2 hrk
      have hstep := HRj.out j hlt
      rw [← hx] at hstep
      have hal : Below V.heap.size V (V.alloc (recO x.r.k x.r.n x.A x.r.d.length x.cap)) := (Below.refl _ V).alloc (Nat.le_refl _) _
      have HW : Hid (Calls Try.prog 11 #[.pointer (some ⟨bt, 0, none⟩), recA x.r.k x.r.n x.A x.r.d.length x.cap] (V.alloc (recO x.r.k x.r.n x.A x.r.d.length x.cap)) fun e w' => e = .returned (.int .i64 (wrE (bhM M (R.take j)) x.r : Nat)) ∧ ∃ mo'' N'', ShAt w' bt mo'' N'' (bhM M (R.take (j + 1))) ∧ Below w.heap.size w w' ∧ ∀ m, mo'' = some m → w.heap.size ≤ m) := by
        refine (write_all (HSh.out.below hal) (hrk.below hal)).mono ?_
        rintro e w' ⟨rfl, mo'', N'', h1, h2, h3⟩
        have hw : w.heap.size ≤ V.heap.size := HB.out.size
        refine ⟨rfl, mo'', N'', ?_, ?_, fun m e => ?_⟩
        · have e1 : bhM M (R.take (j + 1)) = wrM (bhM M (R.take j)) x.r := by rw [hstep, bhM_append]; rfl
          rw [e1]; exact h1
        · refine (HB.out.trans (hal.mono hw)).trans (h2.below (fun k hk => ?_) (by simp; omega))
          rcases hk with rfl | hk
          · exact HBt.out
          · exact HM4.out k hk
        · rcases h3 m e with h | h
          · exact HM4.out m h
          · simp at h; omega
      have HE2 : Hid (wrE (bhM M (R.take j)) x.r = 0 → bhE M (R.take (j + 1)) = 0) := Lib.hid (fun h0 => by
        rw [hstep, bhE_append, if_pos HE.out]
        unfold bhE
        rw [if_pos h0]; rfl)
      have HF2 : Hid (∀ V', wrE (bhM M (R.take j)) x.r ≠ 0 → Below w.heap.size w V' → P (.returned (.tuple #[.pointer none, .int .i64 (wrE (bhM M (R.take j)) x.r : Nat)])) V') := Lib.hid (fun V' h0 h1 => HQ2.out j x.r V' hlt (by rw [hx]) HE.out h0 h1)
      clear hrk hx hstep hal hjl
      generalize wrE (bhM M (R.take j)) x.r = ec at *
      generalize x.r.k = xk at *
      generalize x.r.n = xn at *
      generalize x.r.d.length = xl at *
      generalize x.A = xA at *
      generalize x.cap = xc at *
      go_wp2_with fail
      (with_reducible refine HW.out.mono ?_)
      rintro e V2 ⟨rfl, mo'', N'', h1, h2, h3⟩
      have HS2 := Lib.hid h1
      have HB2 := Lib.hid h2
      have HM2 := Lib.hid h3
      clear h1 h2 h3
      by_cases hec : ec = 0
      · have HE3 := Lib.hid (HE2.out hec)
        subst hec
        clear HF2 HE2
        go_wp2
        go_roundw
        case rel => exact ⟨j + 1, mo'', N'', by omega, by go_num, HE3.out, HS2.out, HB2.out, HM2.out⟩
        case measure => simp [intOf]; omega
      · have HF3 := Lib.hid (HF2.out V2 hec HB2.out)
        have d1 : ((ec : Int) != 0) = true := by simp; omega
        have d2 : (ec != 0) = true := by simp; omega
        clear HF2 HE2
        go_wp2
        exact HF3.out
    · obtain rfl : j = n := by omega
      have HF := Lib.hid (HQ1.out j mo' N' V rfl HE.out HSh.out HB.out)
      go_wp2
      exact HF.out
end Go.Proofs.Ytgciibcngmimkaa
