/-
  Pure: joints, whole.
-/
import Derived.Test.YtlcadkhhpnaofaaGTar
namespace Gq

theorem nv_setT {H : List Nat} {k : Nat} (h : k < H.length) (x i : Nat) : nv (H.set k x) i = if i = k then x else nv H i := by
  unfold nv
  simp only [List.getD_eq_getElem?_getD, List.getElem?_set]
  by_cases e : k = i
  · subst e; simp [h]
  · rw [if_neg e, if_neg (fun h => e h.symm)]
theorem cut_of {R : Gr} (hO : Ok R) {G : Nat → Prop} {s st : FS} {v low kids : Nat} {T : Nat → Prop} {first : Bool} (hs : FInv R G s) (hv : nv s.met v = 0)
    (h : FLoop R G s v T (adj R v) low kids st) (hf : (first = true ∧ ∀ g, ¬ G g) ∨ (first = false ∧ ∃ p, G p ∧ p ∈ adj R v)) : (1 < kids ∨ (kids = 1 ∧ first = false)) ↔ Cut R v := by
  have hGv : ¬ G v := fun hh => by have := hs.gray v hh; omega
  have visT : ∀ u, T u → 0 < nv st.met u := fun u hu => (h.vis u).2 (.inr (.inr hu))
  have notG : ∀ u, T u → ¬ (G u ∨ u = v) := fun u hu hh => by
    rcases hh with hh | hh
    · have := hs.gray u hh; have := (h.new u hu).1; omega
    · exact (h.new u hu).2 hh
  have hj : ∀ u, T u → Joined R u v := fun u hu => ((h.cin u hu).symm hO).mono (fun _ _ => trivial)
  have stay : ∀ D, Sep R v T D → ∀ a b, Con R v a b → D a → D b := by
    intro D hD a b hp
    induction hp with
    | refl _ => exact id
    | head _ hc hp ih => exact fun ha => ih ((hD.2.2 _ ha _ hc).resolve_right hp.first)
  constructor
  · rintro (hk | ⟨hk, hfi⟩)
    · obtain ⟨D, c', hD, h1, h2⟩ := h.k2 hk
      obtain ⟨c, hc⟩ := hD.1
      exact ⟨c, c', (h.new c (hD.2.1 c hc)).2, (h.new c' h1).2, hj c (hD.2.1 c hc), hj c' h1, fun hp => h2 (stay D hD _ _ hp hc)⟩
    · rcases hf with ⟨e, _⟩ | ⟨_, p, hp, hpv⟩
      · rw [e] at hfi; cases hfi
      · obtain ⟨D, hD⟩ := h.k1 (by omega)
        obtain ⟨c, hc⟩ := hD.1
        refine ⟨c, p, (h.new c (hD.2.1 c hc)).2, fun e => hGv (e ▸ hp), hj c (hD.2.1 c hc), .head trivial (adj_symm hO hpv) (.refl trivial), fun hq => ?_⟩
        have h1 := (h.new p (hD.2.1 p (stay D hD _ _ hq hc))).1
        have h2 := hs.gray p hp
        omega
  · intro hcut
    apply Classical.byContradiction
    intro hn
    obtain ⟨x, y, hx, hy, jx, jy, hno⟩ := hcut
    apply hno
    rcases hf with ⟨_, hG⟩ | ⟨hfi, p, hp, hpv⟩
    · have key : ∀ a b, Joined R a b → b = v → a ≠ v → T a := by
        intro a b hp
        induction hp with
        | refl _ => intro e h1; exact absurd e h1
        | head h00 hc hp ih =>
          rename_i a c b
          intro e h1
          by_cases hcv : c = v
          · subst hcv
            have h2 := h.seen a (adj_symm hO hc)
            rcases (h.vis a).1 h2 with h3 | h3 | h3
            · have := hs.clo a h3 (hG a) c hc; omega
            · exact absurd h3 h1
            · exact h3
          · have h2 := ih e hcv
            have h3 := h.inv.clo c (visT c h2) (notG c h2) a (adj_symm hO hc)
            rcases (h.vis a).1 h3 with h4 | h4 | h4
            · have := hs.clo a h4 (hG a) c hc
              have := (h.new c h2).1
              omega
            · exact absurd h4 h1
            · exact h4
      obtain ⟨c, hc⟩ := h.k1r (by omega) hG
      exact ((hc x (key x v jx rfl hx)).symm hO).trans (hc y (key y v jy rfl hy))
    · have hk : kids = 0 := by
        rcases Nat.lt_trichotomy kids 1 with h1 | h1 | h1
        · omega
        · exact absurd (.inr ⟨h1, hfi⟩) hn
        · exact absurd (.inl h1) hn
      have key : ∀ a b, Joined R a b → b = v → a ≠ v → ∃ g, G g ∧ Con R v a g := by
        intro a b hp
        induction hp with
        | refl _ => intro e h1; exact absurd e h1
        | head h00 hc hp ih =>
          rename_i a c b
          intro e h1
          by_cases hcv : c = v
          · subst hcv
            have h2 := h.seen a (adj_symm hO hc)
            rcases (h.vis a).1 h2 with h3 | h3 | h3
            · by_cases hg : G a
              · exact ⟨a, hg, .refl h1⟩
              · have := hs.clo a h3 hg c hc; omega
            · exact absurd h3 h1
            · exact h.k0 hk a h3
          · obtain ⟨g, hg, hq⟩ := ih e hcv
            exact ⟨g, hg, .head h1 hc hq⟩
      obtain ⟨g, hg, h1⟩ := key x v jx rfl hx
      obtain ⟨g', hg', h2⟩ := key y v jy rfl hy
      exact h1.trans (((hs.one g g' hg hg').mono (fun z hz => fun (e : z = v) => hGv (by rw [← e]; exact hz))).trans (h2.symm hO))

theorem FLoop.end_ {R : Gr} (hO : Ok R) {G : Nat → Prop} {s st : FS} {v low kids : Nat} {T : Nat → Prop} {first : Bool} (hs : FInv R G s) (hv : nv s.met v = 0)
    (h : FLoop R G s v T (adj R v) low kids st) (hf : (first = true ∧ ∀ g, ¬ G g) ∨ (first = false ∧ ∃ p, G p ∧ p ∈ adj R v)) :
    FPost R G s (falE (low, kids, st) v first).2 v (falE (low, kids, st) v first).1 (fun u => u = v ∨ T u) := by
  have hJ := cut_of hO hs hv h hf
  have hGv : ¬ G v := fun hh => by have := hs.gray v hh; omega
  have visv : 0 < nv st.met v := by rw [h.vnum]; omega
  have hvj : v ∉ st.joints := fun hh => ((h.inv.jt v).1 hh).2.1 (.inr rfl)
  obtain ⟨s'', e1, e2, e3, e4⟩ : ∃ s'' : FS, (falE (low, kids, st) v first).2 = s'' ∧ s''.met = st.met ∧ s''.turn = st.turn ∧ ((Cut R v ∧ s''.joints = st.joints ++ [v]) ∨ (¬ Cut R v ∧ s''.joints = st.joints)) := by
    refine ⟨_, rfl, ?_, ?_, ?_⟩
    · unfold falE; simp only; split <;> rfl
    · unfold falE; simp only; split <;> rfl
    · unfold falE
      simp only
      split
      · rename_i hc
        exact .inl ⟨hJ.1 hc, rfl⟩
      · rename_i hc
        exact .inr ⟨fun hh => hc (hJ.2 hh), rfl⟩
  have e5 : (falE (low, kids, st) v first).1 = low := rfl
  rw [e1, e5]
  refine ⟨⟨by rw [e2]; exact h.inv.len, fun u => by rw [e2, e3]; exact h.inv.top u, fun u hu => by rw [e2]; exact h.inv.gray u (.inl hu), fun u hu hg c hc => ?_, fun w => ?_, ?_, hs.one⟩,
    fun u => by rw [e2]; exact h.vis u, fun u hu => ?_, .inl rfl, fun u hu => ?_, fun u hu => by rw [e2]; exact h.keep u hu, fun u hu => ?_, by rw [e2]; exact h.vnum, by rw [e3]; have := h.turn; omega, fun m => ?_⟩
  · rw [e2] at hu ⊢
    by_cases e : u = v
    · subst e; exact h.seen c hc
    · exact h.inv.clo u hu (fun hh => hh.elim hg e) c hc
  · rw [e2]
    have h1 := h.inv.jt w
    rcases e4 with ⟨hc, e⟩ | ⟨hc, e⟩
    · rw [e, List.mem_append, h1, List.mem_singleton]
      constructor
      · rintro (⟨h2, h3, h4⟩ | rfl)
        · exact ⟨h2, fun hh => h3 (.inl hh), h4⟩
        · exact ⟨visv, hGv, hc⟩
      · rintro ⟨h2, h3, h4⟩
        by_cases hw : w = v
        · exact .inr hw
        · exact .inl ⟨h2, fun hh => hh.elim h3 hw, h4⟩
    · rw [e, h1]
      constructor
      · rintro ⟨h2, h3, h4⟩
        exact ⟨h2, fun hh => h3 (.inl hh), h4⟩
      · rintro ⟨h2, h3, h4⟩
        exact ⟨h2, fun hh => hh.elim h3 (fun e => hc (e ▸ h4)), h4⟩
  · rcases e4 with ⟨_, e⟩ | ⟨_, e⟩
    · rw [e, List.nodup_append]
      exact ⟨h.inv.nd, by simp, fun a ha b hb => by simp at hb; subst hb; exact fun e => hvj (e ▸ ha)⟩
    · rw [e]; exact h.inv.nd
  · rcases hu with rfl | hu
    · exact hv
    · exact (h.new u hu).1
  · rcases hu with rfl | hu
    · exact .refl (.inl rfl)
    · exact h.cin u hu
  · rw [e2]
    rcases hu with rfl | hu
    · rw [h.vnum]; omega
    · exact h.num u hu
  · rw [h.low, e2]
    constructor
    · rintro ⟨h1, h2, h3⟩
      refine ⟨h1, fun u hu c hc => ?_⟩
      rcases hu with rfl | hu
      · exact h3 c hc
      · exact h2 u hu c hc
    · rintro ⟨h1, h2⟩
      exact ⟨h1, fun u hu => h2 u (.inr hu), fun c hc => h2 v (.inl rfl) c hc⟩

theorem floop_start {R : Gr} (hO : Ok R) {G : Nat → Prop} {s : FS} {v : Nat} {first : Bool} (hs : FInv R G s) (hv : nv s.met v = 0) (hvl : v < R.length)
    (hf : (first = true ∧ ∀ g, ¬ G g) ∨ (first = false ∧ ∃ p, G p ∧ p ∈ adj R v)) : FLoop R G s v (fun _ => False) [] (s.turn + 1) 0 ⟨s.turn + 1, s.met.set v (s.turn + 1), s.joints⟩ := by
  have hset : ∀ i, nv (s.met.set v (s.turn + 1)) i = if i = v then s.turn + 1 else nv s.met i := fun i => nv_setT (by rw [hs.len]; exact hvl) _ i
  have hGv : ¬ G v := fun hh => by have := hs.gray v hh; omega
  have up : ∀ i, 0 < nv s.met i → 0 < nv (s.met.set v (s.turn + 1)) i := fun i hi => by rw [hset]; split <;> omega
  refine ⟨⟨by simpa using hs.len, fun u => ?_, fun u hu => ?_, fun u hu hg c hc => ?_, fun w => ?_, hs.nd, fun g g' hg hg' => ?_⟩, fun u => ?_, fun u hu => hu.elim, fun u hu => hu.elim, fun u hu => ?_, fun u hu => hu.elim, ?_, Nat.le_refl _, (fun c hc => nomatch hc), fun m => ?_, fun _ u hu => hu.elim, fun h => by omega, fun _ _ => ⟨0, fun u hu => hu.elim⟩, fun h => by omega⟩
  · show nv (s.met.set v (s.turn + 1)) u ≤ s.turn + 1
    rw [hset]; have := hs.top u; split <;> omega
  · show 0 < nv (s.met.set v (s.turn + 1)) u
    rcases hu with hu | rfl
    · exact up u (hs.gray u hu)
    · rw [hset, if_pos rfl]; omega
  · have hu : 0 < nv (s.met.set v (s.turn + 1)) u := hu
    rw [hset, if_neg (fun e => hg (.inr e))] at hu
    exact up c (hs.clo u hu (fun hh => hg (.inl hh)) c hc)
  · show w ∈ s.joints ↔ 0 < nv (s.met.set v (s.turn + 1)) w ∧ _
    rw [hs.jt, hset]
    constructor
    · rintro ⟨h1, h2, h3⟩
      have hw : w ≠ v := fun e => by subst e; omega
      rw [if_neg hw]
      exact ⟨h1, fun hh => hh.elim h2 hw, h3⟩
    · rintro ⟨h1, h2, h3⟩
      have hw : w ≠ v := fun e => h2 (.inr e)
      rw [if_neg hw] at h1
      exact ⟨h1, fun hh => h2 (.inl hh), h3⟩
  · rcases hf with ⟨_, hG⟩ | ⟨_, p, hp, hpv⟩
    · rcases hg with hg | rfl
      · exact absurd hg (hG g)
      · rcases hg' with hg' | rfl
        · exact absurd hg' (hG g')
        · exact .refl (.inr rfl)
    · have mo : ∀ a b, Cin R G a b → Cin R (fun u => G u ∨ u = v) a b := fun a b h => h.mono (fun x hx => .inl hx)
      rcases hg with hg | rfl
      · rcases hg' with hg' | rfl
        · exact mo _ _ (hs.one g g' hg hg')
        · exact (mo _ _ (hs.one g p hg hp)).trans (.head (.inl hp) (adj_symm hO hpv) (.refl (.inr rfl)))
      · rcases hg' with hg' | rfl
        · exact .head (.inr rfl) hpv (mo _ _ (hs.one p g' hp hg'))
        · exact .refl (.inr rfl)
  · show 0 < nv (s.met.set v (s.turn + 1)) u ↔ _
    rw [hset]
    by_cases e : u = v
    · rw [if_pos e]; simp [e]
    · rw [if_neg e]; simp [e]
  · show nv (s.met.set v (s.turn + 1)) u = _
    rw [hset, if_neg (fun e => by subst e; omega)]
  · show nv (s.met.set v (s.turn + 1)) v = _
    rw [hset, if_pos rfl]
  · simp
theorem floop_list {R : Gr} (hO : Ok R) (f : Nat) (IH : ∀ (G : Nat → Prop) (v : Nat) (s : FS), FInv R G s → v < R.length → nv s.met v = 0 → zc s.met ≤ f → (∃ p, G p ∧ p ∈ adj R v) → ∃ S, FPost R G s (falF R (bkF R) f v false s).2 v (falF R (bkF R) f v false s).1 S)
    {G : Nat → Prop} {s : FS} {v : Nat} (hs : FInv R G s) (hv : nv s.met v = 0) :
    ∀ (l done : List Nat) (T : Nat → Prop) (x : Nat × Nat × FS), FLoop R G s v T done x.1 x.2.1 x.2.2 → (∀ c ∈ l, c ∈ adj R v) → zc x.2.2.met ≤ f →
      ∃ T', FLoop R G s v T' (done ++ l) (l.foldl (fal1 R (bkF R) f v) x).1 (l.foldl (fal1 R (bkF R) f v) x).2.1 (l.foldl (fal1 R (bkF R) f v) x).2.2
  | [], done, T, x, h, _, _ => ⟨T, by simpa using h⟩
  | c :: l, done, T, x, h, hl, hz => by
    rw [List.foldl_cons]
    have hc := hl c (List.mem_cons_self ..)
    have hcl := adj_lt hO hc
    have hb := fb_one (R := R) (B := bkF R) (n := R.length) hO.node (fun v x hx => by have := (bkF_ok hO).node v x hx; rwa [bkF_length] at this) f v x h.inv.len hcl
    have h1 : ∃ T1, FLoop R G s v T1 (done ++ [c]) (fal1 R (bkF R) f v x c).1 (fal1 R (bkF R) f v x c).2.1 (fal1 R (bkF R) f v x c).2.2 := by
      unfold fal1
      by_cases hm : 0 < nv x.2.2.met c
      · rw [if_pos hm]
        exact ⟨T, h.met hm⟩
      · rw [if_neg hm]
        obtain ⟨S, hS⟩ := IH (fun u => G u ∨ u = v) c x.2.2 h.inv hcl (by omega) hz ⟨v, .inr rfl, adj_symm hO hc⟩
        exact ⟨_, h.kid hO hs hv hc hS⟩
    obtain ⟨T1, h1⟩ := h1
    obtain ⟨T2, h2⟩ := floop_list hO f IH hs hv l (done ++ [c]) T1 (fal1 R (bkF R) f v x c) h1 (fun d hd => hl d (List.mem_cons_of_mem _ hd)) (by have := hb.1.2.1; omega)
    rw [List.append_assoc] at h2
    exact ⟨T2, h2⟩
theorem fal_post {R : Gr} (hO : Ok R) : ∀ (f : Nat) (G : Nat → Prop) (v : Nat) (first : Bool) (s : FS), FInv R G s → v < R.length → nv s.met v = 0 → zc s.met ≤ f → ((first = true ∧ ∀ g, ¬ G g) ∨ (first = false ∧ ∃ p, G p ∧ p ∈ adj R v)) →
    ∃ S, FPost R G s (falF R (bkF R) f v first s).2 v (falF R (bkF R) f v first s).1 S
  | 0, G, v, first, s, hs, hvl, hv, hz, _ => by
    have := zc_set (t := 1) (by rw [hs.len]; exact hvl) hv (by omega)
    omega
  | f + 1, G, v, first, s, hs, hvl, hv, hz, hf => by
    rw [falF_succ]
    have hzs := zc_set (t := s.turn + 1) (by rw [hs.len]; exact hvl) hv (by omega)
    obtain ⟨T, hT⟩ := floop_list hO f (fun G v s h1 h2 h3 h4 h5 => fal_post hO f G v false s h1 h2 h3 h4 (.inr ⟨rfl, h5⟩)) hs hv (adj R v) [] _ (s.turn + 1, 0, ⟨s.turn + 1, s.met.set v (s.turn + 1), s.joints⟩) (floop_start hO hs hv hvl hf) (fun c hc => hc) (by show zc (s.met.set v (s.turn + 1)) ≤ f; omega)
    rw [List.nil_append] at hT
    exact ⟨_, hT.end_ hO hs hv hf⟩

theorem joiK_succ (R : Gr) (k : Nat) : joiK R (k + 1) = if nv (joiK R k).met k = 0 then (falF R (bkF R) R.length k true (joiK R k)).2 else joiK R k := by
  unfold joiK
  rw [List.range_succ, List.foldl_append]
  rfl
theorem joiK_inv {R : Gr} (hO : Ok R) : ∀ k, k ≤ R.length → FInv R (fun _ => False) (joiK R k) ∧ zc (joiK R k).met ≤ R.length ∧ ∀ i, i < k → 0 < nv (joiK R k).met i
  | 0, _ => by
    have e : joiK R 0 = ⟨0, List.replicate R.length 0, []⟩ := rfl
    have hz : ∀ u, nv (List.replicate R.length 0) u = 0 := fun u => by unfold nv; simp [List.getElem?_replicate]; split <;> rfl
    rw [e]
    refine ⟨⟨by simp, fun u => by show nv (List.replicate R.length 0) u ≤ 0; rw [hz]; exact Nat.le_refl _, fun u hu => hu.elim, fun u hu => ?_, fun w => ?_, by simp, fun g g' hg => hg.elim⟩, by show zc (List.replicate R.length 0) ≤ _; rw [zc_none]; exact Nat.le_refl _, fun i hi => by omega⟩
    · have hu : 0 < nv (List.replicate R.length 0) u := hu
      rw [hz] at hu; omega
    · show w ∈ [] ↔ 0 < nv (List.replicate R.length 0) w ∧ _
      rw [hz]; simp
  | k + 1, hk => by
    obtain ⟨h1, h2, h3⟩ := joiK_inv hO k (by omega)
    rw [joiK_succ]
    by_cases hm : nv (joiK R k).met k = 0
    · rw [if_pos hm]
      obtain ⟨S, hS⟩ := fal_post hO R.length (fun _ => False) k true (joiK R k) h1 (by omega) hm h2 (.inl ⟨rfl, fun _ h => h⟩)
      have hb := fb (R := R) (B := bkF R) R.length hO.node (fun v x hx => by have := (bkF_ok hO).node v x hx; rwa [bkF_length] at this) R.length k true (joiK R k) h1.len (by omega) hm
      refine ⟨hS.inv, by have := hb.2.1; omega, fun i hi => ?_⟩
      rw [hS.vis]
      by_cases e : i = k
      · subst e; exact .inr hS.hasv
      · exact .inl (h3 i (by omega))
    · rw [if_neg hm]
      refine ⟨h1, h2, fun i hi => ?_⟩
      by_cases e : i = k
      · subst e; omega
      · exact h3 i (by omega)
/-- A node is told as a joint just if it holds some together. -/
theorem mem_joi {R : Gr} (hO : Ok R) {a : Nat} : a ∈ joiF R ↔ a < R.length ∧ Cut R a := by
  obtain ⟨h1, _, h3⟩ := joiK_inv hO R.length (Nat.le_refl _)
  unfold joiF
  rw [List.mem_mergeSort, h1.jt]
  constructor
  · rintro ⟨h4, _, h5⟩
    exact ⟨by have := nv_lt h4; rwa [h1.len] at this, h5⟩
  · rintro ⟨h4, h5⟩
    exact ⟨h3 a h4, fun h => h, h5⟩
theorem joi_rise {R : Gr} (hO : Ok R) : (joiF R).Pairwise (· < ·) := by
  obtain ⟨h1, _, _⟩ := joiK_inv hO R.length (Nat.le_refl _)
  unfold joiF
  have hp : ((joiK R R.length).joints.mergeSort (fun a b => decide (a ≤ b))).Nodup := (List.mergeSort_perm _ _).nodup_iff.2 h1.nd
  have hs : ((joiK R R.length).joints.mergeSort (fun a b => decide (a ≤ b))).Pairwise (fun a b => decide (a ≤ b) = true) := List.pairwise_mergeSort (fun a b c h1 h2 => by simp at *; omega) (fun a b => by simp; omega) _
  exact (hs.and hp).imp (fun {a b} h => by have := h.1; have := h.2; simp at *; omega)
/-- Of the graph back joints are the same. -/
theorem joi_back {R : Gr} (hO : Ok R) : joiF (bkF R) = joiF R :=
  rise_ext (joi_rise (bkF_ok hO)) (joi_rise hO) (fun x => by rw [mem_joi (bkF_ok hO), mem_joi hO, bkF_length, cut_back hO])
end Gq
