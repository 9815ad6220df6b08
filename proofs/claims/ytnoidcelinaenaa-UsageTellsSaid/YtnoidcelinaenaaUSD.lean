/-
  slices.SortedFunc of slices.Values of a list of blocks: a sorted copy of it, in memory of its own. Conditions: the list is as it comes in.
-/
import Derived.Test.YtnoidcelinaenaaUSC
import Derived.Test.YtnoidcelinaenaaUSA
import Derived.Test.YtnoidcelinaenaaLaySF
namespace Go.Proofs.Ytnoidcelinaenaa
open Go.ChangeShapes Go.WideShapes Go.ChangeAt Go.RowKit Go.Shelf
set_option maxRecDepth 100000

theorem cmpLaysB (blk off size : Nat) (w : World) : CmpLays Try.prog 28 #[] bkC 2 cmpB blk off size w :=
  fun _ _ _ _ x y => order_any x y _

theorem flatK_bks (d : Array Bk) : (Go.Sort.flatK bkC 2 d).toList = bks d.toList := by
  refine List.ext_getElem? fun t => ?_
  by_cases ht : t < d.size * 2
  · have hk : t / 2 < d.size := by omega
    have hx : d.toList[t / 2]? = some d[t / 2]! := by
      rw [Array.getElem?_toList, getElem!_pos d _ hk]
      exact Array.getElem?_eq_getElem hk
    have h1 : (bks d.toList)[t / 2 * 2 + t % 2]? = _ := flat_at_of (cells := bkC) (n := 2) (fun _ => rfl) d.toList (t / 2) (t % 2) _ hx (by omega)
    rw [show t / 2 * 2 + t % 2 = t by omega] at h1
    rw [h1, Array.getElem?_toList]
    have h2 := Go.Sort.get_flatK bkC 2 d t ht
    have hs : t < (Go.Sort.flatK bkC 2 d).size := by rw [Go.Sort.size_flatK]; exact ht
    rw [getElem!_pos (Go.Sort.flatK bkC 2 d) t hs] at h2
    rw [Array.getElem?_eq_getElem hs, h2]
    have hm : t % 2 < (bkC d[t / 2]!).length := by show t % 2 < 2; omega
    rw [getElem!_pos (bkC d[t / 2]!) (t % 2) hm, List.getElem?_eq_getElem hm]
  · rw [List.getElem?_eq_none (by rw [Array.length_toList, Go.Sort.size_flatK]; omega), List.getElem?_eq_none (by rw [bks_length, Array.length_toList]; omega)]

theorem holdsK_of {w : World} {g n cap : Nat} {cur : Array Value} {e : TypeId} {xs : List Bk} (hb : w.heap[g]? = some (.cells cur e (0, 0))) (hn : xs.length = n) (ht : cur.toList.take (n * 2) = bks xs) (_hc : cap = cap) : Go.Sort.HoldsK bkC 2 w g 0 xs.toArray := by
  intro j hj
  have hj2 : j < n * 2 := by
    have : j < (xs.toArray).size * 2 := by simpa using hj
    simpa [hn] using this
  refine ⟨?_, by simp [World.frozen?, hb]⟩
  have h1 : (cur.toList.take (n * 2))[j]? = (bks xs)[j]? := by rw [ht]
  rw [List.getElem?_take_of_lt hj2] at h1
  simp only [World.cell?, hb, Nat.zero_add]
  simp only [Option.isSome_none, Bool.false_eq_true, if_false]
  rw [← Array.getElem?_toList, h1]
  have h2 := congrArg (fun l => l[j]?) (flatK_bks xs.toArray)
  simp only [] at h2
  rw [← h2, Array.getElem?_toList, getElem!_pos (Go.Sort.flatK bkC 2 xs.toArray) j hj, Array.getElem?_eq_getElem hj]
  rfl

theorem heap_sortedK {w : World} {g n : Nat} {os : Array Obj} {cur : Array Value} {e : TypeId} {fr : Nat × Nat} (d : Array Bk) (hb : w.heap[g]? = some (.cells cur e fr)) :
    (sortWorldK bkC 2 w g 0 n d os).heap[g]? = some (.cells (Go.Sort.putCells id 0 (Go.Sort.flatK bkC 2 d) cur) e fr) := by
  have hg : g < w.heap.size := (Array.getElem?_eq_some_iff.1 hb).1
  unfold sortWorldK Go.Sort.putRowK
  rw [Go.Sort.heap_grow_old _ _ (by simpa using hg)]
  simp [Go.Sort.putRow, Go.Sort.mapBlock, Go.Sort.ahead, Array.getElem?_modify, hb, Go.Sort.onCells]

theorem below_sortedK {w : World} {g n B : Nat} {os : Array Obj} (d : Array Bk) (hB : B ≤ g) (hw : B ≤ w.heap.size) : Below B w (sortWorldK bkC 2 w g 0 n d os) := by
  unfold sortWorldK Go.Sort.putRowK
  refine ⟨rfl, rfl, rfl, by simp, fun k hk => ?_⟩
  rw [Go.Sort.heap_grow_old _ _ (by simp; omega)]
  have : g ≠ k := by omega
  simp [Go.Sort.putRow, Go.Sort.mapBlock, Go.Sort.ahead, Array.getElem?_modify, this]

theorem take_putCellsK (cur : Array Value) (d : Array Bk) (h : d.size * 2 ≤ cur.size) : (Go.Sort.putCells id 0 (Go.Sort.flatK bkC 2 d) cur).toList.take (d.size * 2) = bks d.toList := by
  rw [← flatK_bks]
  refine List.ext_getElem? fun j => ?_
  by_cases hj : j < d.size * 2
  · rw [List.getElem?_take_of_lt hj, Array.getElem?_toList, Array.getElem?_toList]
    simp [Go.Sort.putCells, hj, show j < cur.size by omega]
  · rw [List.getElem?_take_eq_none (by omega), List.getElem?_eq_none (by rw [Array.length_toList, Go.Sort.size_flatK]; omega)]

theorem perm_of {d d' : Array Bk} (h : Go.Sort.PermIn 0 d.size d d') : d'.size = d.size ∧ d'.toList.Perm d.toList := by
  obtain ⟨h1, _, h3⟩ := h
  refine ⟨h1, ?_⟩
  rw [← h1] at h3
  have e : d.extract 0 d'.size = d := by rw [h1]; simp
  rw [e] at h3
  simpa using h3

theorem srt_of {d' : Array Bk} (h : Go.Sort.SortedIn (ltOf cmpB) 0 d'.size d') : SrtB d'.toList := by
  intro i j x y hij hx hy
  rw [Array.getElem?_toList] at hx hy
  obtain ⟨hi, hx⟩ := Array.getElem?_eq_some_iff.1 hx
  obtain ⟨hj, hy⟩ := Array.getElem?_eq_some_iff.1 hy
  have := h i j (Nat.zero_le _) hij hj
  rw [getElem!_pos d' j hj, getElem!_pos d' i hi, hx, hy, ltB, decide_eq_false_iff_not] at this
  omega

/-- slices.SortFunc at a list of one's own. -/
theorem sortOwn_any (base : Nat) (v : Value) (xs : List Bk) (hl : xs.length ≤ 8796093022208) (w : World) (hw : base ≤ w.heap.size) (ho : w.ownsRow base 65 2 v xs.length (bks xs)) :
    Calls Try.prog 31 #[v, .func (.func 28) #[] #[]] w fun e w' => e = .returned (.tuple #[]) ∧ ∃ l, w'.ownsRow base 65 2 v l.length (bks l) ∧ l.Perm xs ∧ SrtB l ∧ Below base w w' := by
  rcases ho with ⟨h1, ⟨rfl, h2⟩ | ⟨g, cap, cur, rfl, hg, hb, h3, h4, h5, h6⟩⟩
  · have hx : xs = [] := List.length_eq_zero_iff.1 h2
    subst hx
    refine (AnyF.slices_SortFunc_none Try.sortBk none 0 _ w).mono ?_
    rintro e w' ⟨rfl, rfl⟩
    exact ⟨rfl, [], ownNone _ _ _ _, List.Perm.refl _, fun i j x y _ hx _ => by (simp at hx), Below.refl _ _⟩
  · have hH := holdsK_of (cap := cap) hb rfl h6 rfl
    have hgl : g < w.heap.size := (Array.getElem?_eq_some_iff.1 hb).1
    have eg : ∀ args w, (callFunc 28 args).run Try.prog w = .ok (.enter 28 args) w := enters_of Try.func28 (by kernel_rfl) rfl
    have H := AnyQ.slices_SortFunc Try.sortBk 2 Try.isAgg65 Try.sizeOf65 bkC (fun _ => rfl) (fun x v hv => by simp [bkC] at hv; rcases hv with rfl | rfl <;> rfl) cmpB swoB 28 #[] g 0 cap xs.toArray w eg (cmpLaysB g 0 _ w) hH hgl (by simp; omega)
    rw [List.size_toArray] at H
    refine H.mono ?_
    rintro e w' ⟨rfl, d', n, os, hp, hs, rfl⟩
    rw [← List.size_toArray] at hp hs
    obtain ⟨p1, p2⟩ := perm_of hp
    rw [← p1] at hs
    refine ⟨rfl, d'.toList, ?_, by simpa using p2, srt_of hs, below_sortedK d' hg hw⟩
    have e1 : d'.toList.length = xs.length := by rw [Array.length_toList, p1, List.size_toArray]
    have e2 : d'.size = xs.length := by rw [p1, List.size_toArray]
    rw [e1]
    refine ⟨by rw [bks_length, e1]; omega, .inr ⟨g, cap, _, rfl, hg, heap_sortedK d' hb, h3, h4, by simp [Go.Sort.putCells, h5], ?_⟩⟩
    rw [← e2]
    exact take_putCellsK cur d' (by rw [e2, h5]; omega)

theorem sorted_any (Bn : Nat) (A : Option Addr) (c : Nat) (xs : List Bk) (hl : xs.length * 24 ≤ 140737488351232) (w : World) (hBn : Bn < w.heap.size) (hc0 : w.cell? ⟨Bn, 0, none⟩ = some (.slice A xs.length c)) (hr : Rd w A (bks xs)) :
    Calls Try.prog 26 #[.func (.func 32) #[] #[.pointer (some ⟨Bn, 0, none⟩)], .func (.func 28) #[] #[]] w fun e w' => ∃ v l, e = .returned v ∧ w'.ownsRow w.heap.size 65 2 v l.length (bks l) ∧ l.Perm xs ∧ SrtB l ∧ Below w.heap.size w w' := by
  have H := Lib.hid (collect_any Bn A c xs hl w hBn hc0 hr)
  clear hr hc0
  go_enter Try.func26, Try.ntmps26
  go_wp2_with fail
  refine H.out.mono ?_
  rintro e w1 ⟨v, rfl, ho, hB⟩
  have HS := Lib.hid (sortOwn_any w.heap.size v xs (by omega) w1 hB.size ho)
  clear ho H
  go_wp2_with fail
  refine HS.out.mono ?_
  rintro e w2 ⟨rfl, l, ho, hp, hs, hB2⟩
  have HO := Lib.hid ho
  clear ho HS
  go_wp2
  go_ret
  exact ⟨v, l, rfl, HO.out, hp, hs, hB.trans hB2⟩

end Go.Proofs.Ytnoidcelinaenaa
