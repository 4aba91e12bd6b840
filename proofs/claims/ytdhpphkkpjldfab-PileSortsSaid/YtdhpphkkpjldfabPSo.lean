/-
  The law PileSorts: a map from items to how many there are, in memory.
-/
import Derived.Test.YtdhpphkkpjldfabPRef1
import Derived.Maps.RangeWalk
import Derived.Maps.Views
import Derived.Maps.OwnOps
import Derived.WideKeyEntry
import Derived.DeepKeys4
namespace Go.Proofs.Ytdhpphkkpjldfab
set_option maxRecDepth 100000
open Go Go.RowKit Pq
open Go.Maps (Keyed IsMap)
open Go.WideElems (Fit entry_then_store)
open Go.ChangeMaps (setBlock)

/-- Within an int's bounds. -/
def Wi (x : It) : Prop := (Lit.int .i64 x.c).wf = true ∧ (Lit.int .i64 x.t).wf = true ∧ (Lit.int .i64 x.i).wf = true

theorem sLaid : laidOutB Try.prog = true := by kernel_rfl
theorem itemWide : (match Try.prog.underlying 32 with | some (.array _ _) | some (.struct _) => true | _ => false) = true := by rw [Try.underlying32]
theorem itemLaw : WideMaps.KeyLaw Try.prog 32 := deep_law_laid sLaid (m := 2) (by omega) (of_decide_eq_true (by kernel_rfl)) (by kernel_rfl) itemWide
theorem itemKeyed : Keyed Try.prog 32 := Keyed.of_law itemLaw
theorem intZero (w : World) : (zeroValue 3).run Try.prog w = .ok (.int .i64 0) w := by kernel_rfl

/-- What an item reads as, as a key. -/
noncomputable def keyL (x : It) : Lit := (keyOf Try.prog 32 x.val).getD (.bool true)
theorem keyL_of {x : It} (h : Wi x) : keyOf Try.prog 32 x.val = some (keyL x) := by
  have hs : (keyOf Try.prog 32 x.val).isSome = true := by
    have hkt : Try.prog.keyType 32 = true := by kernel_rfl
    have hc : Try.prog.cellsOf 32 = 3 := by kernel_rfl
    have hci : Try.prog.cellsOf 3 = 1 := by kernel_rfl
    obtain ⟨n, hn⟩ : ∃ n, Try.prog.types.size = n + 1 := ⟨Try.prog.types.size - 1, by have : 1 ≤ Try.prog.types.size := of_decide_eq_true (by kernel_rfl); omega⟩
    have hl : Try.prog.keyLits (n + 1 + 1) 32 [.int .i64 x.c, .int .i64 x.t, .int .i64 x.i] = some [.int .i64 x.c, .int .i64 x.t, .int .i64 x.i] := by
      have h1 : ∀ a, (Lit.int .i64 a).wf = true → Try.prog.keyLits (n + 1) 3 [.int .i64 a] = some [.int .i64 a] := by
        intro a ha
        unfold Program.keyLits
        rw [Try.underlying3]
        simp [ha]
      unfold Program.keyLits
      rw [Try.underlying32]
      simp [hc, hci, h1 _ h.1, h1 _ h.2.1, h1 _ h.2.2]
    unfold keyOf
    rw [Try.underlying32]
    simp only
    rw [if_pos (by simp [hkt, It.val, Value.formed, Try.underlying32, hc]), hn]
    show ((Try.prog.keyLits (n + 1 + 1) 32 [.int .i64 x.c, .int .i64 x.t, .int .i64 x.i]).map _).isSome = true
    rw [hl]
    rfl
  unfold keyL
  exact (Option.some_get hs).symm.trans (by rw [Option.getD_eq_iff.2 (.inl (Option.some_get hs).symm)])

/-- One count turned. -/
noncomputable def cset (g : Lit → Int) (k : Lit) (d : Int) : Lit → Int := open Classical in fun k' => if k' = k then d else g k'
theorem cset_same (g : Lit → Int) (k : Lit) (d : Int) : cset g k d k = d := by simp [cset]
theorem cset_other (g : Lit → Int) {k k' : Lit} (d : Int) (h : k' ≠ k) : cset g k d k' = g k' := by simp [cset, h]

/-- So many of each there are. -/
def Tal (w : World) (m N : Nat) (g : Lit → Int) : Prop :=
  ∃ D : DataW Unit, w.ownsMap Try.prog 32 (plainElem Try.prog 3) m N D ∧ IsMap D ∧ ∀ k, D.atKey k (.lit (.int .i64 0)) = .lit (.int .i64 (g k))

theorem Tal.kept {w w' : World} {m N : Nat} {g : Lit → Int} {X : Nat → Prop} (h : Tal w m N g) (hk : Kept X w w') (hm : ¬ X m) : Tal w' m N g := by
  obtain ⟨D, ho, h1, h2⟩ := h
  have hlt := ho.lt
  obtain ⟨es, clock, hb, F, hs, hD⟩ := ho
  exact ⟨D, ⟨es, clock, (hk.block m hlt hm).trans hb, F, hs, hD⟩, h1, h2⟩
theorem Tal.lt {w : World} {m N : Nat} {g : Lit → Int} (h : Tal w m N g) : m < w.heap.size := by
  obtain ⟨D, ho, _⟩ := h
  exact ho.lt
theorem Tal.made (w : World) : Tal (w.alloc (.map #[] 0)) w.heap.size 0 (fun _ => 0) := ⟨.map [], World.ownsMap_made w _ _ _, Maps.isMap_empty, fun _ => rfl⟩
theorem Tal.mono {w : World} {m N N' : Nat} {g : Lit → Int} (h : Tal w m N g) (hN : N ≤ N') : Tal w m N' g := by
  obtain ⟨D, ho, h1, h2⟩ := h
  exact ⟨D, ho.mono hN, h1, h2⟩

theorem entry_look {t k e : TypeId} {w w2 : World} {b : Nat} {es : Array MapEntry} {clock : Nat} {H : Type} {R : Value → Option (DataW H × List MemPlace)} (K : Keyed Try.prog k) (ht : Try.prog.underlying t = some (.map k e))
    {z : Value} (hz : ∀ u : World, (zeroValue e).run Try.prog u = .ok z u) (hb : w.heap[b]? = some (.map es clock)) (F : Fit Try.prog k R es clock) {key v x : Value} {kl : Lit} (hkey : keyOf Try.prog k key = some kl)
    (h1 : (Instr.mapEntry t (.map (some b)) key).run Try.prog w = .ok v w2) (h2 : (Instr.lookup t (.map (some b)) key false).run Try.prog w = .ok x w) :
    (Instr.lookup t (.map (some b)) key false).run Try.prog w2 = .ok x w2 := by
  have hlt : b < w.heap.size := (Array.getElem?_eq_some_iff.1 hb).1
  rcases K.find w hkey es.toList F.keys with ⟨f1, f2⟩ | ⟨j, e0, f1, f2, f3⟩
  · simp [Instr.lookup, run_underlying ht, MapKept.run_getObj_map hb, K.check w _ hkey, f1, hz, Result.andThen] at h2
    simp [Instr.mapEntry, run_underlying ht, MapKept.run_getObj_map hb, K.check w false hkey, f1, hz, MapKept.run_setObj_map _ hb, Result.andThen] at h1
    obtain ⟨_, rfl⟩ := h1
    subst h2
    have hb2 : (setBlock w b (.map (es.push ⟨key, z, clock⟩) (clock + 1))).heap[b]? = some (.map (es.push ⟨key, z, clock⟩) (clock + 1)) := by simp [setBlock, hlt]
    show (Instr.lookup t (.map (some b)) key false).run Try.prog (setBlock w b (.map (es.push ⟨key, z, clock⟩) (clock + 1))) = .ok z (setBlock w b (.map (es.push ⟨key, z, clock⟩) (clock + 1)))
    rcases K.find (setBlock w b (.map (es.push ⟨key, z, clock⟩) (clock + 1))) hkey (es.push ⟨key, z, clock⟩).toList (by
      intro y hy
      simp only [Array.toList_push, List.mem_append, List.mem_singleton] at hy
      rcases hy with hy | rfl
      · exact F.keys y hy
      · exact ⟨kl, hkey⟩) with ⟨g1, g2⟩ | ⟨j, e0, g1, g2, g3⟩
    · exact absurd rfl (g2 ⟨key, z, clock⟩ (by simp))
    · have hm := List.mem_of_getElem? g2
      simp only [Array.toList_push, List.mem_append, List.mem_singleton] at hm
      rcases hm with hm | rfl
      · exact absurd g3 (f2 e0 hm)
      · simp at g1
        simp [Instr.lookup, run_underlying ht, MapKept.run_getObj_map hb2, K.check _ _ hkey, g1, Result.andThen]
  · have hj : es[j]? = some e0 := by simpa using f2
    have hsame : es.modify j (fun e => { e with key := key }) = es := by
      apply Array.ext'
      rw [Array.toList_modify, Go.ChangeMaps.modify_eq_set _ _ _ _ f2]
      have : ({ e0 with key := key } : MapEntry) = e0 := by rw [← f3]
      rw [this]
      exact WideElems.set_self _ _ _ f2
    simp [Instr.mapEntry, run_underlying ht, MapKept.run_getObj_map hb, K.check w false hkey, f1, hj, f3, K.stays w hkey, hsame, MapKept.run_setObj_map _ hb, Result.andThen] at h1
    obtain ⟨_, h1⟩ := h1
    have e2 : w2 = w := by
      rw [← h1]
      have : w.heap.setIfInBounds b (.map es clock) = w.heap := by
        apply Array.ext'
        simp only [Array.toList_setIfInBounds]
        exact WideElems.set_self _ _ _ (by simpa using hb)
      rw [this]
    rw [e2]
    exact h2

/-- One more, or one fewer: the look-up and the entry's making, whichever comes first, and the store. -/
theorem Tal.bump {w : World} {m N : Nat} {g : Lit → Int} (h : Tal w m N g) (hN : N < 10000) {x : It} (hx : Wi x) {d : Int} (hd : (Lit.int .i64 d).wf = true) :
    ∃ v0 st w2 w4, (Instr.lookup 50 (.map (some m)) x.val false).run Try.prog w = .ok (.int .i64 (g (keyL x))) w ∧
      (Instr.mapEntry 50 (.map (some m)) x.val).run Try.prog w = .ok (.tuple #[v0, .int .i64 st]) w2 ∧
      (Instr.lookup 50 (.map (some m)) x.val false).run Try.prog w2 = .ok (.int .i64 (g (keyL x))) w2 ∧
      (Instr.entryStore 50 (.map (some m)) (.int .i64 st) (.int .i64 d)).run Try.prog w2 = .ok () w4 ∧
      Tal w4 m (N + 1) (cset g (keyL x) d) ∧ Kept (fun k => k = m) w w4 := by
  have hkey := keyL_of hx
  obtain ⟨D, ho, hM, hg⟩ := h
  obtain ⟨c, hl, hc, _⟩ := ho.lookup_int itemKeyed Try.underlying50 Try.underlying3 (intZero w) hkey
  rw [hg] at hc
  obtain rfl : g (keyL x) = c := by simpa using hc
  obtain ⟨w4, hu, ho4, hgr⟩ := ho.update itemKeyed Try.underlying50 (by unfold maxLen; omega) hkey (plainElem_int Try.underlying3 hd)
  obtain ⟨es, clock, hb, F, hs, hD⟩ := ho
  obtain ⟨v0, st, es1, clock1, he, _, hst⟩ := entry_then_store itemLaw Try.underlying50 intZero hb F hkey
  have hlt : m < w.heap.size := (Array.getElem?_eq_some_iff.1 hb).1
  obtain ⟨es', clock', hs1, hs2⟩ := hst (setBlock w m (.map es1 clock1)) (.int .i64 d) (by simp [setBlock, hlt])
  rw [hu] at hs2
  simp only [Result.ok.injEq, true_and] at hs2
  have e4 : setBlock (setBlock w m (.map es1 clock1)) m (.map es' clock') = w4 := by rw [hs2]; simp [setBlock]
  rw [e4] at hs1
  refine ⟨v0, st, _, w4, hl, he, entry_look itemKeyed Try.underlying50 intZero hb F hkey he hl, hs1, ⟨_, ho4, hM.put _ _, fun k => ?_⟩, ⟨hgr.os, hgr.tape, hgr.output, hgr.size, fun k hk hn => hgr.block k hk (fun e => hn (by simpa using e))⟩⟩
  by_cases e : k = keyL x
  · rw [e, cset_same, Maps.atKey_put_same hM (itemKeyed.key hkey)]
  · rw [cset_other _ _ e, Maps.atKey_put_other e, hg]
end Go.Proofs.Ytdhpphkkpjldfab
