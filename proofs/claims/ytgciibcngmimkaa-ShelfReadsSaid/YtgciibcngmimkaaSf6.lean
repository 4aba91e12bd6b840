/-
  A shelf's places, sorted.
-/
import Derived.Test.YtgciibcngmimkaaSf4
import Derived.Test.YtgciibcngmimkaaSfLay
import Derived.Shelf.SlIterI.Nil
import Derived.Shelf.SlIterI.Sorted
import Derived.Shelf.SortM.Plain
import Derived.Shelf.SortM.SortNone
import Derived.Shelf.AbstractIn
namespace Go.Proofs.Ytgciibcngmimkaa
set_option maxRecDepth 100000
set_option linter.unusedSimpArgs false
open Go Go.RowKit Go.Maps Go.Sort Go.Shelf Sf

theorem sortsA (m : Nat) : AnyZI.SortsIn Try.prog laySorted_ren Fence.wide m :=
  ⟨fun blk off cap ss W hH hblk hsz => callsIn_wide.2 (AnyM.slices_Sort_int laySort blk off cap ss W hH hblk hsz),
   fun p cap W => callsIn_wide.2 (AnyM.slices_Sort_int_none laySort p cap W)⟩
theorem keys_any (mb : Option Nat) (W : World) : Calls Try.prog 38 #[.map mb] W fun e w' => e = .returned (.func (.func 41) #[] #[.pointer (some ⟨W.heap.size, 0, none⟩)]) ∧ w' = W.alloc (.cells #[.map mb] 25) :=
  (callsIn_wide (n := 5)).1 (AnyZI.keys_in layKeys Fence.wide 5 trivial rfl mb W)
def plV (e : Ent) : Value := .int .i64 (e.1 : Int)
theorem sort_places {M : List Ent} (hs : M.Pairwise (fun a b => a.1 < b.1)) {ss : List Int} (h : ss.Perm (M.map fun e => (e.1 : Int))) : ss.mergeSort (fun x y => decide (x ≤ y)) = M.map fun e => (e.1 : Int) := by
  have h1 := mergeSort_of_perm_i h
  have h2 : (M.map fun e => (e.1 : Int)).mergeSort leI = M.map fun e => (e.1 : Int) := by
    refine List.mergeSort_of_pairwise (List.pairwise_map.2 (hs.imp fun {a b} hab => ?_))
    simp only [leI, decide_eq_true_eq]; omega
  exact h1.trans h2
set_option maxHeartbeats 1000000 in
theorem sorted_any {w : World} {b N : Nat} {mo : Option Nat} {M : List Ent} (h : ShAt w b mo N M) :
    Calls Try.prog 37 #[.func (.func 41) #[] #[.pointer (some ⟨w.heap.size, 0, none⟩)]] (w.alloc (.cells #[.map mo] 25)) fun e w' =>
      ∃ v, e = .returned v ∧ w'.ownsRow (w.heap.size + 1) 3 1 v M.length (M.map plV) ∧ Below w.heap.size w w' := by
  refine (callsIn_wide (n := 5)).1 ?_
  have hM := h.ok.len
  have hb0 : Below w.heap.size w (w.alloc (.cells #[.map mo] 25)) := (Below.refl _ w).alloc (Nat.le_refl _) _
  have e1 : (w.alloc (.cells #[.map mo] 25)).heap.size = w.heap.size + 1 := by simp
  cases mo with
  | none =>
    obtain rfl := h.none_ rfl
    have hseq : SeqGives Fence.wide 2 Try.prog 41 #[.pointer (some ⟨w.heap.size, 0, none⟩)] encZ (fun ss : List Int => ss = []) 0 (w.alloc (.cells #[.map none] 25)) :=
      AnyZI.keys_gives_nil (ρ := layKeys_ren) { layKeys with } Fence.wide _ trivial rfl w.heap.size _ (by simp) (by simp)
    have cS := AnyZI.sorted_in laySorted Fence.wide 5 trivial trivial trivial trivial rfl (by omega) (sortsA _) (enters_of Try.func40 (by kernel_rfl) rfl) 41 #[.pointer (some ⟨w.heap.size, 0, none⟩)] trivial (enters_of Try.func41 (by kernel_rfl) rfl) _ 0 (Nat.zero_le _) (by omega) _ hseq
    refine cS.mono ?_
    rintro e w' ⟨v, ss, rfl, rfl, hrow, hnil, hb⟩
    obtain rfl := hnil.2 rfl
    rw [e1] at hb
    exact ⟨_, rfl, World.ownsRow_nil _ _ _ _, hb0.trans (hb.mono (by omega))⟩
  | some m =>
    obtain ⟨D, ho, h1, h2, h3⟩ := h.some_ m rfl
    have hp := MapM.perm ho h2 h.ok.srt
    have hsz : Maps.size D = M.length := by rw [← size_keys h1, ← hp.length_eq, List.length_map]
    have hbl := ho.lt
    have hseq : SeqGives Fence.wide 2 Try.prog 41 #[.pointer (some ⟨w.heap.size, 0, none⟩)] encZ (fun ss => ss.Perm (intKeys D)) (Maps.size D) (w.alloc (.cells #[.map (some m)] 25)) :=
      AnyZI.keys_gives (ρ := layKeys_ren) { layKeys with } Fence.wide _ trivial rfl (by omega) w.heap.size m N D _ (by simp) (by simp) (own_same ho (Below.heap_alloc _ _ m hbl))
    have cS := AnyZI.sorted_in laySorted Fence.wide 5 trivial trivial trivial trivial rfl (by omega) (sortsA _) (enters_of Try.func40 (by kernel_rfl) rfl) 41 #[.pointer (some ⟨w.heap.size, 0, none⟩)] trivial (enters_of Try.func41 (by kernel_rfl) rfl) _ _ (by rw [hsz]; unfold maxLen; omega) (by omega) _ hseq
    refine cS.mono ?_
    rintro e w' ⟨v, ss, rfl, hS, hrow, hnil, hb⟩
    have hss := sort_places h.ok.srt (hS.trans hp.symm)
    have hl : ss.length = M.length := by rw [(hS.trans hp.symm).length_eq, List.length_map]
    rw [hss, hl, e1, List.map_map] at hrow
    rw [e1] at hb
    exact ⟨v, rfl, hrow, hb0.trans (hb.mono (by omega))⟩
end Go.Proofs.Ytgciibcngmimkaa
