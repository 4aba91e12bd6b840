/-
  What was sent stays with its number; a map of what was sent.
-/
import Derived.Test.YtkhlaccabofkcaaBi
import Derived.Test.YtkhlaccabofkcaaBd
import Derived.Test.YtkhlaccabofkcaaBe
import Derived.Maps.Views
import Derived.Maps.Own
import Derived.Maps.StringElems
namespace Go.Proofs.Ytkhlaccabofkcaa
set_option maxRecDepth 100000
set_option linter.unusedSimpArgs false
open Go Go.RowKit Bg
open Go.Maps (Keyed IsMap)

namespace Bg
/-- Between two calls. -/
structure Kps (b : St) (g : Int → List Nat) : Prop where
  srt : Srt b
  bal : b.c.sent + b.c.dbl = b.l.length + b.c.del + b.c.drp + b.c.lost
  kp : KpA b g
  few : ∀ n, (g n).length ≤ 60 ∧ ∀ c ∈ g n, c < 256
theorem Kps.zero : Kps zero (fun _ => []) := ⟨Srt.zero, rfl, KpA.zero _, fun _ => ⟨by simp, by simp⟩⟩
theorem upd_few {g : Int → List Nat} (h : ∀ n, (g n).length ≤ 60 ∧ ∀ c ∈ g n, c < 256) (n : Int) {d : List Nat} (hd : d.length ≤ 60 ∧ ∀ c ∈ d, c < 256) : ∀ k, (upd g n d k).length ≤ 60 ∧ ∀ c ∈ upd g n d k, c < 256 := by
  intro k
  unfold upd
  split
  · exact hd
  · exact h k
theorem KpA.upd {b : St} {g : Int → List Nat} (h : KpA b g) (hs : Srt b) {n : Int} (hn : n < 1 ∨ (b.last : Int) < n) (d : List Nat) : KpA b (upd g n d) := by
  intro x hx
  have := hs.le x hx
  unfold Bg.upd
  rw [if_neg (by omega)]
  exact h x hx
theorem comeV_out (b : St) : comeV b < 1 ∨ (b.last : Int) < comeV b := by
  unfold comeV
  split
  · left; omega
  · right; omega
theorem Kps.come {b0 : St} {g : Int → List Nat} (hs : Srt b0) (hk : KpA b0 g) (hf : ∀ n, (g n).length ≤ 60 ∧ ∀ c ∈ g n, c < 256) (hbal : b0.c.sent + b0.c.dbl = b0.l.length + b0.c.del + b0.c.drp + b0.c.lost + 1)
    (f t : Int) {d s : List Nat} (p : Bool) (hd : s.length ≤ 60 ∧ ∀ c ∈ s, c < 256) (hp : ∀ n, KP ⟨n, f, t, d, p⟩ s) : Kps (comeS b0 f t d p) (upd g (comeV b0) s) := by
  refine ⟨hs.come _ _ _ _, ?_, ?_, upd_few hf _ hd⟩
  · unfold comeS
    split
    · simp only; omega
    · simp only [List.length_append, List.length_cons, List.length_nil]; omega
  · have h1 := hk.upd hs (comeV_out b0) s
    unfold comeS
    split
    · exact h1
    · rename_i hlt
      intro x hx
      rcases List.mem_append.1 hx with hx | hx
      · exact h1 x hx
      · rw [List.mem_singleton] at hx
        subst hx
        have : comeV b0 = ((b0.last + 1 : Nat) : Int) := by unfold comeV; rw [if_neg hlt]
        unfold upd
        simp only [this]
        rw [if_pos trivial]
        exact hp _
theorem Kps.send {b : St} {g : Int → List Nat} (h : Kps b g) (f t : Int) {d : List Nat} (hd : d.length ≤ 60 ∧ ∀ c ∈ d, c < 256) : Kps (sendS b f t d) (upd g (comeV b) d) := by
  have := h.bal
  exact Kps.come (b0 := { b with c := { b.c with sent := b.c.sent + 1 } }) (h.srt.c _) h.kp h.few (by simp only; omega) f t false hd (fun n => ⟨rfl, dfn_same _ _⟩)
theorem Kps.erase {b : St} {g : Int → List Nat} (h : Kps b g) {i : Nat} (hi : i < b.l.length) {c : Ct} (h1 : c.sent = b.c.sent) (h2 : c.dbl = b.c.dbl) (h3 : c.del + c.drp = b.c.del + b.c.drp + 1) (h4 : c.lost = b.c.lost) : Kps { b with l := b.l.eraseIdx i, c := c } g := by
  have := h.bal
  refine ⟨h.srt.erase _ _, ?_, fun x hx => h.kp x (List.mem_of_mem_eraseIdx hx), h.few⟩
  simp only [List.length_eraseIdx, if_pos hi]
  omega
theorem Kps.del {b : St} {g : Int → List Nat} (h : Kps b g) (n : Int) : Kps (delS b n) g := by
  unfold delS
  split
  · exact h
  · rename_i i hi
    exact h.erase (idx_some hi).1 rfl rfl (by simp only; omega) rfl
theorem Kps.drop {b : St} {g : Int → List Nat} (h : Kps b g) (n : Int) : Kps (dropS b n) g := by
  unfold dropS
  split
  · exact h
  · rename_i i hi
    exact h.erase (idx_some hi).1 rfl rfl (by simp only; omega) rfl
theorem Kps.get {b : St} {g : Int → List Nat} (h : Kps b g) {i : Nat} (hi : i < b.l.length) : KP (b.l.getD i noFl) (g (b.l.getD i noFl).n) := by
  refine h.kp _ ?_
  rw [List.getD_eq_getElem?_getD, List.getElem?_eq_getElem hi]
  exact List.getElem_mem hi
theorem Kps.dblN {b : St} {g : Int → List Nat} (h : Kps b g) {n : Int} (hi : idx b.l n = none) : Kps (dblS b n) g := by
  unfold dblS; rw [hi]; exact h
theorem Kps.dblF {b : St} {g : Int → List Nat} (h : Kps b g) {n : Int} (hf : comeV b = 0) : Kps (dblS b n) g := by
  have hb := h.bal
  unfold dblS
  split
  · exact h
  · rename_i i hi
    have hlt : 256 ≤ b.l.length := by
      unfold comeV at hf
      split at hf
      · assumption
      · omega
    unfold comeS
    rw [if_pos hlt]
    exact ⟨h.srt.c _, by simp only; omega, h.kp, h.few⟩
theorem Kps.dblS {b : St} {g : Int → List Nat} (h : Kps b g) {n : Int} {i : Nat} (hi : idx b.l n = some i) : Kps (dblS b n) (upd g (comeV b) (g n)) := by
  have hb := h.bal
  obtain ⟨h1, h2⟩ := idx_some hi
  have hg := h.get h1
  rw [h2] at hg
  unfold Bg.dblS
  rw [hi]
  exact Kps.come (b0 := { b with c := { b.c with dbl := b.c.dbl + 1 } }) (h.srt.c _) h.kp h.few (by simp only; omega) _ _ _ (h.few n) (fun k => ⟨hg.len, hg.dif⟩)
theorem Kps.spoil {b : St} {g : Int → List Nat} (h : Kps b g) (n a : Int) (v : Nat) : Kps (spoilS b n a v) g := by
  have hb := h.bal
  refine ⟨h.srt.spoil n a v, ?_, ?_, h.few⟩
  · unfold spoilS
    split
    · exact hb
    · split
      · simp only [List.length_set]; exact hb
      · exact hb
  · unfold spoilS
    split
    · exact h.kp
    · rename_i i hi
      split
      · rename_i hc
        obtain ⟨h1, h2⟩ := idx_some hi
        have hg := h.get h1
        intro x hx
        rcases List.mem_or_eq_of_mem_set hx with hx | rfl
        · exact h.kp x hx
        · have e : (spoilt (b.l.getD i noFl) a.toNat v).n = (b.l.getD i noFl).n := rfl
          rw [e]
          generalize b.l.getD i noFl = y at *
          unfold canS at hc
          simp only [Bool.and_eq_true, Bool.not_eq_true', decide_eq_true_eq] at hc
          obtain ⟨⟨⟨c1, c2⟩, c3⟩, c4⟩ := hc
          have hv : v ≠ 0 := by intro e; subst e; simp at c4
          have hd := hg.dif
          rw [c1] at hd
          refine ⟨by simp [spoilt]; exact hg.len, ?_⟩
          have hlt : a.toNat < y.d.length := by omega
          have := dfn_set (s := g y.n) (xor_ne (a := y.d.getD a.toNat 0) hv) hlt y.d.length (Nat.le_refl _) (dfn_zero hd)
          rw [if_pos hlt] at this
          simpa [spoilt] using this
      · exact h.kp
theorem last_send (b : St) (f t : Int) (d : List Nat) : ((sendS b f t d).last : Int) = max (b.last : Int) (comeV b) := by
  unfold sendS comeS comeV
  split
  · simp only; omega
  · simp only; omega
theorem last_del (b : St) (n : Int) : (delS b n).last = b.last := by unfold delS; split <;> rfl
theorem last_drop (b : St) (n : Int) : (dropS b n).last = b.last := by unfold dropS; split <;> rfl
theorem last_spoil (b : St) (n a : Int) (v : Nat) : (spoilS b n a v).last = b.last := by
  unfold spoilS; split
  · rfl
  · split <;> rfl
theorem last_dbl {b : St} {n : Int} {i : Nat} (hi : idx b.l n = some i) : ((Bg.dblS b n).last : Int) = if comeV b = 0 then (b.last : Int) else comeV b := by
  unfold Bg.dblS comeS comeV
  rw [hi]
  simp only
  split
  · simp
  · rw [if_neg (by omega)]
theorem last_dblN {b : St} {n : Int} (hi : idx b.l n = none) : (Bg.dblS b n).last = b.last := by unfold Bg.dblS; rw [hi]
end Bg

theorem strBack {s : ByteArray} {l : List Nat} (h : s.data.toList = (strN l).data.toList) : s = strN l := by
  cases s; unfold strN at *; simp only [ByteArray.mk.injEq]; exact Array.toList_inj.1 h
theorem intKeyed : Keyed Try.prog 3 := Maps.int_keyed Try.underlying3
theorem strZero (w : World) : (zeroValue 9).run Try.prog w = .ok (.string ⟨#[]⟩) w := by kernel_rfl
/-- What was sent, by numbers. -/
def Sen (w : World) (m N : Nat) (g : Int → List Nat) : Prop :=
  ∃ D : DataW Unit, w.ownsMap Try.prog 3 (plainElem Try.prog 9) m N D ∧ IsMap D ∧ ∀ k : Int, D.atKey (.int .i64 k) (.lit (.string [])) = .lit (.string (strN (g k)).data.toList)
theorem Sen.made (w : World) : Sen (w.alloc (.map #[] 0)) w.heap.size 0 (fun _ => []) := ⟨.map [], World.ownsMap_made w _ _ _, Maps.isMap_empty, fun _ => rfl⟩
theorem Sen.kept {w w' : World} {m N : Nat} {g : Int → List Nat} (h : Sen w m N g) (hk : w'.heap[m]? = w.heap[m]?) : Sen w' m N g := by
  obtain ⟨D, ho, h1, h2⟩ := h
  obtain ⟨es, clock, hb, F, hs, hD⟩ := ho
  exact ⟨D, ⟨es, clock, hk.trans hb, F, hs, hD⟩, h1, h2⟩
theorem Sen.mono {w : World} {m N N' : Nat} {g : Int → List Nat} (h : Sen w m N g) (hN : N ≤ N') : Sen w m N' g := by
  obtain ⟨D, ho, h1, h2⟩ := h
  exact ⟨D, ho.mono hN, h1, h2⟩
theorem Sen.lt {w : World} {m N : Nat} {g : Int → List Nat} (h : Sen w m N g) : m < w.heap.size := by
  obtain ⟨D, ho, _⟩ := h
  exact ho.lt
theorem Sen.look {w : World} {m N : Nat} {g : Int → List Nat} (h : Sen w m N g) {k : Int} (hk : (Lit.int .i64 k).wf = true) :
    (Instr.lookup 57 (.map (some m)) (.int .i64 k) false).run Try.prog w = .ok (.string (strN (g k))) w := by
  obtain ⟨D, ho, h1, h2⟩ := h
  obtain ⟨v, ps, hr, hv⟩ := ho.lookup intKeyed Try.underlying57 (strZero w) (zd := .lit (.string [])) (zp := []) (plainElem_string Try.underlying9 (s := ⟨#[]⟩) (by decide)) (Maps.keyOf_int_mk Try.underlying3 hk)
  rw [h2] at hv
  obtain ⟨s, rfl, hz, _⟩ := plainElem_string_inv Try.underlying9 hv
  simp only [Prod.mk.injEq, DataW.lit.injEq, Lit.string.injEq] at hz
  rw [hr, strBack hz.1.symm]
theorem Sen.put {w : World} {m N : Nat} {g : Int → List Nat} (h : Sen w m N g) (hN : N < 10000) {k : Int} (hk : (Lit.int .i64 k).wf = true) {d : List Nat} (hd : d.length ≤ 60) :
    ∃ w', (Instr.mapUpdate 57 (.map (some m)) (.int .i64 k) (.string (strN d))).run Try.prog w = .ok () w' ∧ Sen w' m (N + 1) (upd g k d) ∧ Kept (fun i => i = m) w w' := by
  obtain ⟨D, ho, h1, h2⟩ := h
  obtain ⟨w', hr, ho', hg⟩ := ho.update intKeyed Try.underlying57 (by unfold maxLen; omega) (Maps.keyOf_int_mk Try.underlying3 hk) (plainElem_string Try.underlying9 (s := strN d) (by rw [strN_size]; unfold maxLen; omega))
  refine ⟨w', hr, ⟨_, ho', h1.put _ _, fun k' => ?_⟩, ⟨hg.os, hg.tape, hg.output, hg.size, fun i hi hn => hg.block i hi (fun e => hn (by simpa using e))⟩⟩
  unfold upd
  by_cases e : k' = k
  · subst e
    rw [if_pos rfl, Maps.atKey_put_same h1 (k := .int .i64 k') trivial]
  · rw [if_neg e, Maps.atKey_put_other (by intro e2; injection e2 with _ e2; exact e e2), h2]
end Go.Proofs.Ytkhlaccabofkcaa
