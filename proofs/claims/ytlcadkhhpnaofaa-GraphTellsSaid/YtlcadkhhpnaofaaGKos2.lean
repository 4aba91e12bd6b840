/-
  Pure: strong parts are those that reach each other.
-/
import Derived.Test.YtlcadkhhpnaofaaGKos
namespace Gq

def Eqv (R : Gr) (a b : Nat) : Prop := Pth R a b ∧ Pth R b a
theorem Eqv.refl (R : Gr) (a : Nat) : Eqv R a a := ⟨.refl a, .refl a⟩
theorem Eqv.symm {R : Gr} {a b : Nat} (h : Eqv R a b) : Eqv R b a := ⟨h.2, h.1⟩
theorem Eqv.trans {R : Gr} {a b c : Nat} (h : Eqv R a b) (k : Eqv R b c) : Eqv R a c := ⟨h.1.trans k.1, k.2.trans h.2⟩
theorem Eqv.back {R : Gr} (hO : Ok R) {a b : Nat} : Eqv (bkF R) a b ↔ Eqv R a b :=
  ⟨fun h => ⟨h.2.forth hO, h.1.forth hO⟩, fun h => ⟨h.2.back hO, h.1.back hO⟩⟩

theorem fin_all {R : Gr} (hO : Ok R) : (finF R).Nodup ∧ (∀ i, i ∈ finF R ↔ i < R.length) ∧ ∀ L1 h L2, finF R = L1 ++ h :: L2 → ∀ x, PIn R (fun y => y ∈ L1 ++ [h]) x h → Pth R h x := by
  have h0 : Dfs R (List.replicate R.length false, []) := ⟨by simp, by simp, by simp, by simp, by simp⟩
  obtain ⟨N, hN, hall⟩ := adds_list hO R.length (adds_any hO R.length) (List.range R.length) _ h0 (by simp) (by have := cnt_le (List.replicate R.length false); simpa using this)
  have e : (List.range R.length).foldl (vis1 R R.length) (List.replicate R.length false, []) = finK R R.length := rfl
  rw [e] at hN hall
  have eN : finF R = N := by unfold finF; rw [hN.lst]; rfl
  refine ⟨hN.dfs.nd, fun i => ?_, hN.dfs.good⟩
  rw [eN]
  constructor
  · intro hi
    obtain ⟨_, x, hx, hp⟩ := hN.new i hi
    exact hp.lt hO (by simpa using hx)
  · intro hi
    rcases (hN.met i).1 (hall i (by simpa using hi)) with h | h
    · rw [mt_none] at h; cases h
    · exact h

theorem nv_set {H : List Nat} {k : Nat} (h : k < H.length) (x i : Nat) : nv (H.set k x) i = if i = k then x else nv H i := by
  unfold nv
  simp only [List.getD_eq_getElem?_getD, List.getElem?_set]
  by_cases e : k = i
  · subst e; simp [h]
  · rw [if_neg e, if_neg (fun h => e h.symm)]
theorem hdL_nv {h : Nat} : ∀ (T : List (Nat × Nat)) (H : List Nat), (∀ p ∈ T, p.1 < H.length) → ∀ i, nv (hdL T h H) i = if i ∈ T.map (·.1) then h else nv H i
  | [], H, _, i => by simp [hdL]
  | p :: T, H, hl, i => by
    have e : hdL (p :: T) h H = hdL T h (H.set p.1 h) := rfl
    rw [e, hdL_nv T _ (fun q hq => by simpa using hl q (List.mem_cons_of_mem _ hq)), nv_set (hl p (List.mem_cons_self ..)), List.map_cons]
    by_cases h1 : i ∈ T.map (·.1)
    · rw [if_pos h1, if_pos (List.mem_cons_of_mem _ h1)]
    · rw [if_neg h1]
      by_cases h2 : i = p.1
      · rw [if_pos h2, if_pos (by rw [h2]; exact List.mem_cons_self ..)]
      · rw [if_neg h2, if_neg (fun hh => by
          rcases List.mem_cons.1 hh with h3 | h3
          · exact h2 h3
          · exact h1 h3)]

structure StrI (R : Gr) (P : List Nat) (s : Mt × List Nat) : Prop where
  len : s.1.length = R.length
  hlen : s.2.length = R.length
  met : ∀ i, mtb s.1 i = true ↔ i < R.length ∧ ∃ p ∈ P, Eqv R i p
  hd : ∀ i, mtb s.1 i = true → Eqv R i (nv s.2 i)
  cls : ∀ i j, mtb s.1 i = true → mtb s.1 j = true → Eqv R i j → nv s.2 i = nv s.2 j

theorem told_class {R : Gr} (hO : Ok R) {P : List Nat} {s : Mt × List Nat} {h : Nat} {rest : List Nat} (hI : StrI R P s) (hq : (finF R).reverse = P ++ h :: rest) (hm : mtb s.1 h = false) :
    (∀ i, mtb (metN (bkF R) s.1 h) i = true ↔ mtb s.1 i = true ∨ i ∈ (tells (bkF R) s.1 h).map (·.1)) ∧ (metN (bkF R) s.1 h).length = R.length ∧
    ∀ i, i ∈ (tells (bkF R) s.1 h).map (·.1) ↔ i < R.length ∧ Eqv R i h := by
  obtain ⟨_, hall, hgood⟩ := fin_all hO
  have hF : finF R = rest.reverse ++ h :: P.reverse := by
    have := congrArg List.reverse hq
    rw [List.reverse_reverse] at this
    rw [this]; simp
  have hh : h < R.length := (hall h).1 (by rw [hF]; simp)
  obtain ⟨far, lv⟩ := tells_lv (bkF_ok hO) (a := h) (M0 := s.1) (by rw [bkF_length]; exact hh) (by rw [bkF_length]; exact hI.len) hm
  have hin : ∀ y, y < R.length → mtb s.1 y = false → y ∈ rest.reverse ++ [h] := by
    intro y hy hu
    have h1 := (hall y).2 hy
    rw [hF] at h1
    simp only [List.mem_append, List.mem_cons, List.mem_reverse] at h1
    rcases h1 with h1 | h1 | h1
    · simp [h1]
    · simp [h1]
    · rw [(hI.met y).2 ⟨hy, y, h1, Eqv.refl R y⟩] at hu; cases hu
  have hnew : ∀ p ∈ tells (bkF R) s.1 h, mtb s.1 p.1 = false ∧ p.1 < R.length := fun p hp => by
    have := lv.new p.1 (by simp only [List.append_nil]; exact List.mem_map.2 ⟨p, hp, rfl⟩)
    rwa [bkF_length] at this
  have hway : ∀ d x, (x, d) ∈ tells (bkF R) s.1 h → PIn R (fun y => y ∈ rest.reverse ++ [h]) x h := by
    intro d
    induction d with
    | zero =>
      intro x hx
      rcases lv.pred _ hx with ⟨e, _⟩ | ⟨e, _⟩
      · have e : x = h := e
        subst e; exact .refl (by simp)
      · have e : 1 ≤ 0 := e
        omega
    | succ d ih =>
      intro x hx
      rcases lv.pred _ hx with ⟨_, e⟩ | ⟨_, b, hb, hr⟩
      · have e : d + 1 = 0 := e
        omega
      · have hb : (b, d) ∈ tells (bkF R) s.1 h := hb
        have hr : x ∈ row (bkF R) b := hr
        exact .head (hin x (hnew _ hx).2 (hnew _ hx).1) ((mem_bkF hO).1 hr) (ih b hb)
  refine ⟨fun i => ?_, by rw [lv.len, bkF_length], fun i => ⟨fun hi => ?_, fun hi => ?_⟩⟩
  · rw [lv.met]; simp
  · obtain ⟨p, hp, rfl⟩ := List.mem_map.1 hi
    have h1 := hway p.2 p.1 hp
    exact ⟨(hnew p hp).2, h1.pth, hgood _ _ _ hF _ h1⟩
  · have key : ∀ y b, Pth R y b → b = h → Pth R h y → y ∈ (tells (bkF R) s.1 h).map (·.1) := by
      intro y b hp
      induction hp with
      | refl a =>
        rintro rfl _
        rcases lv.has with h1 | ⟨_, h1⟩
        · exact List.mem_map.2 ⟨_, h1, rfl⟩
        · cases h1
      | head hc hp ih =>
        rename_i a c b
        rintro rfl ha
        obtain ⟨p, hp1, rfl⟩ := List.mem_map.1 (ih rfl (ha.trans (.one hc)))
        rcases lv.out p hp1 a ((mem_bkF hO).2 hc) with h1 | ⟨d, h1, _⟩ | ⟨h1, _⟩
        · obtain ⟨_, q, hq1, he⟩ := (hI.met a).1 h1
          have hb : Eqv R b q := ⟨ha.trans he.1, he.2.trans (.head hc hp)⟩
          rw [(hI.met b).2 ⟨hh, q, hq1, hb⟩] at hm
          cases hm
        · exact List.mem_map.2 ⟨_, h1, rfl⟩
        · cases h1
    exact key i h hi.2.1 rfl hi.2.2

theorem StrI.step {R : Gr} (hO : Ok R) {P : List Nat} {s : Mt × List Nat} {h : Nat} {rest : List Nat} (hI : StrI R P s) (hq : (finF R).reverse = P ++ h :: rest) : StrI R (P ++ [h]) (strN (bkF R) s h) := by
  unfold strN
  by_cases hm : mtb s.1 h = true
  · rw [if_pos hm]
    obtain ⟨_, p, hp, he⟩ := (hI.met h).1 hm
    refine ⟨hI.len, hI.hlen, fun i => ?_, hI.hd, hI.cls⟩
    rw [hI.met]
    constructor
    · rintro ⟨h1, q, h2, h3⟩
      exact ⟨h1, q, by simp [h2], h3⟩
    · rintro ⟨h1, q, h2, h3⟩
      simp only [List.mem_append, List.mem_singleton] at h2
      rcases h2 with h2 | rfl
      · exact ⟨h1, q, h2, h3⟩
      · exact ⟨h1, p, hp, h3.trans he⟩
  · rw [if_neg hm]
    obtain ⟨t1, t2, t3⟩ := told_class hO hI hq (by simpa using hm)
    have hnv := fun i => hdL_nv (h := h) (tells (bkF R) s.1 h) s.2 (fun p hp => by rw [hI.hlen]; exact ((t3 p.1).1 (List.mem_map.2 ⟨p, hp, rfl⟩)).1) i
    refine ⟨t2, by rw [hdL_length]; exact hI.hlen, fun i => ?_, fun i hi => ?_, fun i j hi hj hij => ?_⟩
    · rw [t1, t3, hI.met]
      constructor
      · rintro (⟨h1, q, h2, h3⟩ | ⟨h1, h2⟩)
        · exact ⟨h1, q, by simp [h2], h3⟩
        · exact ⟨h1, h, by simp, h2⟩
      · rintro ⟨h1, q, h2, h3⟩
        simp only [List.mem_append, List.mem_singleton] at h2
        rcases h2 with h2 | rfl
        · exact .inl ⟨h1, q, h2, h3⟩
        · exact .inr ⟨h1, h3⟩
    · show Eqv R i (nv (hdL _ _ _) i)
      rw [hnv]
      by_cases ht : i ∈ (tells (bkF R) s.1 h).map (·.1)
      · rw [if_pos ht]; exact ((t3 i).1 ht).2
      · rw [if_neg ht]
        rcases (t1 i).1 hi with h1 | h1
        · exact hI.hd i h1
        · exact absurd h1 ht
    · show nv (hdL _ _ _) i = nv (hdL _ _ _) j
      rw [hnv, hnv]
      by_cases ht : i ∈ (tells (bkF R) s.1 h).map (·.1)
      · have hjl : j < R.length := hij.2.gt ((t3 i).1 ht).1
        rw [if_pos ht, if_pos ((t3 j).2 ⟨hjl, hij.symm.trans ((t3 i).1 ht).2⟩)]
      · have htj : j ∉ (tells (bkF R) s.1 h).map (·.1) := fun h2 => ht ((t3 i).2 ⟨hij.1.gt ((t3 j).1 h2).1, hij.trans ((t3 j).1 h2).2⟩)
        rw [if_neg ht, if_neg htj]
        exact hI.cls i j (((t1 i).1 hi).resolve_right ht) (((t1 j).1 hj).resolve_right htj) hij

/-- The heads: of one part, one. -/
def hdsF (R : Gr) : List Nat := ((finF R).reverse.foldl (strN (bkF R)) (List.replicate R.length false, List.replicate R.length 0)).2
theorem strI_all {R : Gr} (hO : Ok R) : ∀ (rest P : List Nat) (s : Mt × List Nat), StrI R P s → (finF R).reverse = P ++ rest → StrI R (finF R).reverse (rest.foldl (strN (bkF R)) s)
  | [], P, s, h, hq => by simp at hq; rw [hq]; exact h
  | x :: rest, P, s, h, hq => by
    rw [List.foldl_cons]
    exact strI_all hO rest (P ++ [x]) _ (h.step hO hq) (by rw [hq]; simp)
theorem hds_all {R : Gr} (hO : Ok R) : (hdsF R).length = R.length ∧ ∀ i j, i < R.length → j < R.length → (nv (hdsF R) i = nv (hdsF R) j ↔ Eqv R i j) := by
  have h0 : StrI R [] (List.replicate R.length false, List.replicate R.length 0) := ⟨List.length_replicate, List.length_replicate, (fun i => by show mtb (List.replicate _ _) i = _ ↔ _; rw [mt_none]; simp), (fun i hi => by have hi : mtb (List.replicate R.length false) i = true := hi; rw [mt_none] at hi; cases hi), (fun i j hi _ _ => by have hi : mtb (List.replicate R.length false) i = true := hi; rw [mt_none] at hi; cases hi)⟩
  have h := strI_all hO (finF R).reverse [] _ h0 (by simp)
  have hm : ∀ i, i < R.length → mtb ((finF R).reverse.foldl (strN (bkF R)) (List.replicate R.length false, List.replicate R.length 0)).1 i = true := fun i hi => (h.met i).2 ⟨hi, i, by simpa using ((fin_all hO).2.1 i).2 hi, Eqv.refl R i⟩
  refine ⟨h.hlen, fun i j hi hj => ⟨fun e => ?_, fun e => h.cls i j (hm i hi) (hm j hj) e⟩⟩
  have h1 := h.hd i (hm i hi)
  have h2 := h.hd j (hm j hj)
  have e : nv ((finF R).reverse.foldl (strN (bkF R)) (List.replicate R.length false, List.replicate R.length 0)).2 i = nv ((finF R).reverse.foldl (strN (bkF R)) (List.replicate R.length false, List.replicate R.length 0)).2 j := e
  rw [e] at h1
  exact h1.trans h2.symm

/-! Numbers -/
def numG (H : Nat → Nat) (k : Nat) : List Nat × List Nat := ((List.range k).map H).foldl num1 ([], [])
theorem numG_succ (H : Nat → Nat) (k : Nat) : numG H (k + 1) = num1 (numG H k) (H k) := by simp [numG, List.range_succ, List.foldl_append]
theorem list_range (H : List Nat) : H = (List.range H.length).map (nv H) := by
  apply List.ext_getElem (by simp)
  intro i h1 h2
  simp [nv, List.getD, h1]
theorem idx_in {l m : List Nat} {x : Nat} (h : x ∈ l) : (l ++ m).idxOf x = l.idxOf x := by
  induction l with
  | nil => cases h
  | cons a l ih =>
    rw [List.cons_append, List.idxOf_cons, List.idxOf_cons]
    by_cases e : a = x
    · subst e; simp
    · rw [ih ((List.mem_cons.1 h).resolve_left (fun h => e h.symm))]
theorem idx_out {l : List Nat} {x : Nat} (h : x ∉ l) : (l ++ [x]).idxOf x = l.length := by
  induction l with
  | nil => simp
  | cons a l ih =>
    rw [List.cons_append, List.idxOf_cons, ih (fun hh => h (List.mem_cons_of_mem _ hh))]
    have e : (a == x) = false := by simp; exact fun e => h (e ▸ List.mem_cons_self ..)
    rw [e]; simp
structure NumP (H : Nat → Nat) (k : Nat) : Prop where
  len : (numG H k).2.length = k
  mem : ∀ x, x ∈ (numG H k).1 ↔ ∃ j, j < k ∧ H j = x
  at_ : ∀ j, j < k → nv (numG H k).2 j = (numG H k).1.idxOf (H j)
theorem nv_snoc_lt {l : List Nat} {x j : Nat} (h : j < l.length) : nv (l ++ [x]) j = nv l j := by
  unfold nv; simp only [List.getD_eq_getElem?_getD]; rw [List.getElem?_append_left h]
theorem nv_snoc_eq {l : List Nat} {x : Nat} : nv (l ++ [x]) l.length = x := by simp [nv]
theorem numP (H : Nat → Nat) : ∀ k, NumP H k
  | 0 => ⟨rfl, fun x => by simp [numG], fun j hj => by omega⟩
  | k + 1 => by
    have h := numP H k
    have e := numG_succ H k
    obtain ⟨hl, hmem, hat⟩ := h
    generalize numG H k = s at *
    have hin : H k ∈ (if H k ∈ s.1 then s.1 else s.1 ++ [H k]) := by split <;> simp_all
    have hsub : ∀ x, x ∈ s.1 → (if H k ∈ s.1 then s.1 else s.1 ++ [H k]).idxOf x = s.1.idxOf x := by
      intro x hx
      split
      · rfl
      · exact idx_in hx
    refine ⟨by rw [e]; simp [num1]; exact hl, fun x => ?_, fun j hj => ?_⟩
    · rw [e]
      show x ∈ (if H k ∈ s.1 then s.1 else s.1 ++ [H k]) ↔ _
      have h1 : x ∈ (if H k ∈ s.1 then s.1 else s.1 ++ [H k]) ↔ x ∈ s.1 ∨ x = H k := by
        split
        · rename_i hk
          exact ⟨.inl, fun hh => hh.elim id (fun e => e ▸ hk)⟩
        · simp
      rw [h1, hmem]
      constructor
      · rintro (⟨j, h2, h3⟩ | rfl)
        · exact ⟨j, by omega, h3⟩
        · exact ⟨k, by omega, rfl⟩
      · rintro ⟨j, h2, h3⟩
        by_cases hjk : j = k
        · subst hjk; exact .inr h3.symm
        · exact .inl ⟨j, by omega, h3⟩
    · rw [e]
      show nv (s.2 ++ [_]) j = (if H k ∈ s.1 then s.1 else s.1 ++ [H k]).idxOf (H j)
      by_cases hjk : j = k
      · subst hjk
        have := nv_snoc_eq (l := s.2) (x := (if H j ∈ s.1 then s.1 else s.1 ++ [H j]).idxOf (H j))
        rw [hl] at this
        exact this
      · rw [nv_snoc_lt (by omega), hat j (by omega), hsub _ ((hmem _).2 ⟨j, by omega, rfl⟩)]
theorem idx_inj {l : List Nat} {a b : Nat} (ha : a ∈ l) (hb : b ∈ l) (h : l.idxOf a = l.idxOf b) : a = b := by
  have h1 := List.getElem_idxOf (List.idxOf_lt_length_of_mem ha)
  have h2 := List.getElem_idxOf (List.idxOf_lt_length_of_mem hb)
  rw [← h1, ← h2]
  congr 1
theorem num_pat {H H' : Nat → Nat} : ∀ k, (∀ i j, i < k → j < k → (H i = H j ↔ H' i = H' j)) → (numG H k).2 = (numG H' k).2 ∧ (numG H k).1.length = (numG H' k).1.length
  | 0, _ => ⟨rfl, rfl⟩
  | k + 1, h => by
    obtain ⟨h1, h2⟩ := num_pat k (fun i j hi hj => h i j (by omega) (by omega))
    have p := numP H k
    have p' := numP H' k
    rw [numG_succ, numG_succ]
    unfold num1
    by_cases hk : H k ∈ (numG H k).1
    · obtain ⟨j, hj, e⟩ := (p.mem _).1 hk
      have e' : H' j = H' k := (h j k (by omega) (by omega)).1 e
      have hk' : H' k ∈ (numG H' k).1 := (p'.mem _).2 ⟨j, hj, e'⟩
      rw [if_pos hk, if_pos hk']
      refine ⟨?_, h2⟩
      have a := p.at_ j hj
      have a' := p'.at_ j hj
      rw [e] at a
      rw [e'] at a'
      show (numG H k).2 ++ [_] = (numG H' k).2 ++ [_]
      rw [← a, ← a', h1]
    · have hk' : H' k ∉ (numG H' k).1 := fun hh => by
        obtain ⟨j, hj, e⟩ := (p'.mem _).1 hh
        exact hk ((p.mem _).2 ⟨j, hj, (h j k (by omega) (by omega)).2 e⟩)
      rw [if_neg hk, if_neg hk']
      refine ⟨?_, by simp [h2]⟩
      show (numG H k).2 ++ [_] = (numG H' k).2 ++ [_]
      rw [idx_out hk, idx_out hk', h1, h2]
theorem num_all {H : Nat → Nat} {k i j : Nat} (hi : i < k) (hj : j < k) : nv (numG H k).2 i = nv (numG H k).2 j ↔ H i = H j := by
  have p := numP H k
  rw [p.at_ i hi, p.at_ j hj]
  exact ⟨fun e => idx_inj ((p.mem _).2 ⟨i, hi, rfl⟩) ((p.mem _).2 ⟨j, hj, rfl⟩) e, fun e => by rw [e]⟩
theorem str_num {R : Gr} (hO : Ok R) : strF R = (numG (nv (hdsF R)) R.length).2 := by
  have h := list_range (hdsF R)
  rw [(hds_all hO).1] at h
  show numF (hdsF R) = _
  unfold numF numG
  rw [← h]
/-- Two nodes have one part just if each reaches the other. -/
theorem str_part {R : Gr} (hO : Ok R) {a b : Nat} (ha : a < R.length) (hb : b < R.length) : nv (strF R) a = nv (strF R) b ↔ Eqv R a b := by
  rw [str_num hO, num_all ha hb]
  exact (hds_all hO).2 a b ha hb
/-- Of the graph back strong parts are the same. -/
theorem str_back {R : Gr} (hO : Ok R) : strF (bkF R) = strF R := by
  rw [str_num hO, str_num (bkF_ok hO), bkF_length]
  refine (num_pat _ fun i j hi hj => ?_).1
  rw [(hds_all (bkF_ok hO)).2 i j (by rw [bkF_length]; exact hi) (by rw [bkF_length]; exact hj), (hds_all hO).2 i j hi hj, Eqv.back hO]
theorem str_len {R : Gr} (hO : Ok R) : (strF R).length = R.length := by
  rw [str_num hO]; exact (numP _ _).len
end Gq
