/-
  ClaimLoads: what records say, in any number.
-/
import Derived.Test.YtijhkjegpcmjoaaCm0
namespace Go.Proofs.Ytijhkjegpcmjoaa
set_option maxRecDepth 100000
set_option linter.unusedSimpArgs false
open Go Go.RowKit Cl

namespace Cl
/-- All that records say, however many. -/
structure TS where
  t : List Cm
  m : List Int
def updT (x : TS) (r : Rc) : TS := ⟨if r.d.length = 4 then ins x.t ⟨r.n, g4 r.d⟩ else x.t, x.m ++ [r.n]⟩
def td1 (x : TS) (r : Rc) : Option TS := if r.k ≠ 2 then some x else if recOk r && !decide (r.n ∈ x.m) then some (updT x r) else none
def tdF (l : List Rc) : Option TS := l.foldl (fun o r => o.bind (td1 · r)) (some ⟨[], []⟩)
theorem tdF_snoc (l : List Rc) (r : Rc) : tdF (l ++ [r]) = (tdF l).bind (td1 · r) := by simp [tdF, List.foldl_append]
theorem tdF_none (l l' : List Rc) (h : tdF l = none) : tdF (l ++ l') = none := by
  unfold tdF at *
  rw [List.foldl_append, h]
  induction l' with
  | nil => rfl
  | cons r l' ih => exact ih
theorem tdF_bad {l : List Rc} {j : Nat} (hj : j < l.length) {x : TS} (h : tdF (l.take j) = some x) (hb : td1 x (l.getD j default) = none) : tdF l = none := by
  have e : l = (l.take j ++ [l.getD j default]) ++ l.drop (j + 1) := by
    rw [List.append_assoc, List.singleton_append, show l.getD j default = l[j] by simp [List.getD, hj], List.getElem_cons_drop, List.take_append_drop]
  rw [e]
  apply tdF_none
  rw [tdF_snoc, h]
  exact hb
theorem tdF_step {l : List Rc} {j : Nat} (hj : j < l.length) {x y : TS} (h : tdF (l.take j) = some x) (hb : td1 x (l.getD j default) = some y) : tdF (l.take (j + 1)) = some y := by
  rw [List.take_succ_eq_append_getElem hj, tdF_snoc, h, show l[j] = l.getD j default by simp [List.getD, hj]]
  exact hb
/-- What the document answers. -/
def tdR (l : List Rc) : Int × List Cm := match tdF l with | none => (130, []) | some x => if x.t.length ≤ 16 then (0, x.t) else (151, [])
/-- What both have in common. -/
structure Com (l : List Rc) (x : LS) (y : TS) : Prop where
  m : x.m = y.m
  ris : Okr y.t
  tm : ∀ z ∈ y.t, z.c ∈ y.m
  sm : ∀ z ∈ x.s, z.c ∈ x.m
  few : y.t.length ≤ 16 → x.s = y.t ∧ x.e = 0
  many : 16 < y.t.length → x.s.length = 16 ∧ x.e = 151 ∧ Ris x.s
  mem : ∀ n : Int, n ∈ y.m ↔ ∃ r ∈ l, r.k = 2 ∧ r.n = n
theorem isC_in {n : Int} (h : isC n = true) : 0 ≤ n ∧ n < 1024 := by unfold isC at h; simpa using h
theorem not_has_of {s : List Cm} {m : List Int} {n : Int} (hr : Ris s) (hs : ∀ z ∈ s, z.c ∈ m) (hn : n ∉ m) : has s n = false := by
  cases e : has s n with
  | false => rfl
  | true =>
    obtain ⟨x, hx, e2⟩ := (has_iff hr).1 e
    exact absurd (e2 ▸ hs x hx) hn
theorem ldF_tdF {l : List Rc} (hg : ∀ r ∈ l, 0 ≤ g4 r.d ∧ g4 r.d < 4294967296) : ∀ j, j ≤ l.length → (ldF (l.take j) = none ∧ tdF (l.take j) = none) ∨ ∃ x y, ldF (l.take j) = some x ∧ tdF (l.take j) = some y ∧ Com (l.take j) x y
  | 0, _ => .inr ⟨⟨[], 0, []⟩, ⟨[], []⟩, rfl, rfl, rfl, ⟨List.Pairwise.nil, by simp, by simp⟩, by simp, by simp, fun _ => ⟨rfl, rfl⟩, fun h => by simp at h, fun n => by simp⟩
  | j + 1, hj => by
    have hjl : j < l.length := by omega
    have hr : l.getD j default ∈ l := by rw [show l.getD j default = l[j] by simp [List.getD, hjl]]; exact List.getElem_mem hjl
    have ht : l.take (j + 1) = l.take j ++ [l.getD j default] := by rw [List.take_succ_eq_append_getElem hjl]; simp [List.getD, hjl]
    rcases ldF_tdF hg j (by omega) with ⟨h1, h2⟩ | ⟨x, y, h1, h2, hc⟩
    · left
      rw [ht, ldF_snoc, tdF_snoc, h1, h2]
      exact ⟨rfl, rfl⟩
    · have hgr := hg _ hr
      generalize l.getD j default = r at *
      rw [ht, ldF_snoc, tdF_snoc, h1, h2]
      show (ld1 x r = none ∧ td1 y r = none) ∨ ∃ x' y', ld1 x r = some x' ∧ td1 y r = some y' ∧ Com (l.take j ++ [r]) x' y'
      by_cases hk : r.k = 2
      · have e1 : ld1 x r = if (recOk r && !decide (r.n ∈ x.m)) = true then some (upd x r) else none := by unfold ld1; rw [if_neg (by simpa using hk)]
        have e2 : td1 y r = if (recOk r && !decide (r.n ∈ x.m)) = true then some (updT y r) else none := by unfold td1; rw [if_neg (by simpa using hk), ← hc.m]
        rw [e1, e2]
        cases hok : (recOk r && !decide (r.n ∈ x.m)) with
        | false => left; exact ⟨rfl, rfl⟩
        | true =>
          right
          refine ⟨upd x r, updT y r, rfl, rfl, ?_⟩
          rw [Bool.and_eq_true] at hok
          obtain ⟨ho1, ho2⟩ := hok
          have hnm : r.n ∉ x.m := by simpa using ho2
          have hisC : isC r.n = true := by unfold recOk at ho1; rw [Bool.and_eq_true] at ho1; exact ho1.1
          have hin := isC_in hisC
          have hmem : ∀ n : Int, n ∈ y.m ++ [r.n] ↔ ∃ r' ∈ l.take j ++ [r], r'.k = 2 ∧ r'.n = n := by
            intro n
            rw [List.mem_append, List.mem_singleton, hc.mem]
            constructor
            · rintro (⟨r', h1, h2⟩ | rfl)
              · exact ⟨r', List.mem_append.2 (.inl h1), h2⟩
              · exact ⟨r, by simp, hk, rfl⟩
            · rintro ⟨r', h1, h2, h3⟩
              rcases List.mem_append.1 h1 with h1 | h1
              · exact .inl ⟨r', h1, h2, h3⟩
              · rw [List.mem_singleton] at h1; subst h1; exact .inr h3.symm
          have hnt : has y.t r.n = false := not_has_of hc.ris.ris (m := y.m) hc.tm (by rw [← hc.m]; exact hnm)
          unfold upd updT
          by_cases h4 : r.d.length = 4
          · rw [if_pos h4, if_pos h4, if_pos h4]
            have hokr : Okr (ins y.t ⟨r.n, g4 r.d⟩) := by
              refine ⟨hc.ris.ris.ins (not_has hc.ris.ris hnt), fun z hz => ?_, fun z hz => ?_⟩
              · rcases mem_ins.1 hz with rfl | hz
                · exact hin
                · exact hc.ris.cel z hz
              · rcases mem_ins.1 hz with rfl | hz
                · exact hgr
                · exact hc.ris.gen z hz
            have htm : ∀ z ∈ ins y.t ⟨r.n, g4 r.d⟩, z.c ∈ y.m ++ [r.n] := by
              intro z hz
              rcases mem_ins.1 hz with rfl | hz
              · simp
              · exact List.mem_append.2 (.inl (hc.tm z hz))
            have hsm : ∀ z ∈ takeL x.s ⟨r.n, g4 r.d⟩, z.c ∈ x.m ++ [r.n] := by
              intro z hz
              unfold takeL at hz
              split at hz
              · rcases mem_ins.1 hz with rfl | hz
                · simp
                · exact List.mem_append.2 (.inl (hc.sm z hz))
              · exact List.mem_append.2 (.inl (hc.sm z hz))
            refine ⟨by show x.m ++ [r.n] = y.m ++ [r.n]; rw [hc.m], hokr, htm, hsm, fun hf => ?_, fun hf => ?_, hmem⟩
            · replace hf : (ins y.t ⟨r.n, g4 r.d⟩).length ≤ 16 := hf
              rw [ins_length] at hf
              obtain ⟨q1, q2⟩ := hc.few (by omega)
              have he : takeE y.t r.n = 0 := takeE_zero.2 ⟨hisC, hnt, by omega⟩
              show takeL x.s ⟨r.n, g4 r.d⟩ = ins y.t ⟨r.n, g4 r.d⟩ ∧ takeE x.s r.n = 0
              rw [q1]
              refine ⟨?_, he⟩
              unfold takeL
              rw [if_pos he]
            · replace hf : 16 < (ins y.t ⟨r.n, g4 r.d⟩).length := hf
              rw [ins_length] at hf
              have hs16 : x.s.length = 16 ∧ Ris x.s := by
                by_cases h16 : y.t.length ≤ 16
                · obtain ⟨q1, q2⟩ := hc.few h16
                  rw [q1]; exact ⟨by omega, hc.ris.ris⟩
                · obtain ⟨q1, q2, q3⟩ := hc.many (by omega)
                  exact ⟨q1, q3⟩
              have hns : has x.s r.n = false := not_has_of hs16.2 hc.sm hnm
              have he : takeE x.s r.n = 151 := by
                unfold takeE
                rw [hisC, hns, if_neg (by decide), if_neg (by decide), if_pos hs16.1]
              show (takeL x.s ⟨r.n, g4 r.d⟩).length = 16 ∧ takeE x.s r.n = 151 ∧ Ris (takeL x.s ⟨r.n, g4 r.d⟩)
              have hno : takeL x.s ⟨r.n, g4 r.d⟩ = x.s := by unfold takeL; rw [if_neg (by show ¬ takeE x.s r.n = 0; rw [he]; decide)]
              rw [hno]
              exact ⟨hs16.1, he, hs16.2⟩
          · rw [if_neg h4, if_neg h4, if_neg h4]
            exact ⟨by show x.m ++ [r.n] = y.m ++ [r.n]; rw [hc.m], hc.ris, fun z hz => List.mem_append.2 (.inl (hc.tm z hz)), fun z hz => List.mem_append.2 (.inl (hc.sm z hz)), hc.few, hc.many, hmem⟩
      · right
        refine ⟨x, y, by unfold ld1; rw [if_pos hk], by unfold td1; rw [if_pos hk], hc.m, hc.ris, hc.tm, hc.sm, hc.few, hc.many, fun n => ?_⟩
        rw [hc.mem]
        constructor
        · rintro ⟨r', h1, h2⟩
          exact ⟨r', List.mem_append.2 (.inl h1), h2⟩
        · rintro ⟨r', h1, h2⟩
          rcases List.mem_append.1 h1 with h1 | h1
          · exact ⟨r', h1, h2⟩
          · rw [List.mem_singleton] at h1; subst h1; exact absurd h2.1 hk
/-- Both answer the same. -/
theorem ldR_tdR {l : List Rc} (hg : ∀ r ∈ l, 0 ≤ g4 r.d ∧ g4 r.d < 4294967296) : ldR l = tdR l := by
  have := ldF_tdF hg l.length (Nat.le_refl _)
  rw [List.take_length] at this
  unfold ldR tdR
  rcases this with ⟨h1, h2⟩ | ⟨x, y, h1, h2, hc⟩
  · rw [h1, h2]
  · rw [h1, h2]
    by_cases h16 : y.t.length ≤ 16
    · obtain ⟨q1, q2⟩ := hc.few h16
      simp only [q1, q2, if_true, if_pos h16]
    · obtain ⟨q1, q2, q3⟩ := hc.many (by omega)
      simp only [q2, if_neg h16]
      rw [if_neg (by decide)]
end Cl
end Go.Proofs.Ytijhkjegpcmjoaa
