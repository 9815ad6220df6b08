/-
  Sets of numbers as maps; the numbers of a set, rising. Conditions: at most 2^44 numbers.
-/
import Derived.Test.YtddkalcgijeldaaSA
import Derived.Test.YtddkalcgijeldaaSIter
import Derived.Maps.OwnSet
namespace Go.Proofs.Ytddkalcgijeldaa
open Go.ChangeShapes Go.WideShapes Go.ChangeAt Go.RowKit Go.Maps

theorem sortsA (m : Nat) : AnyZI.SortsIn Try.prog Try.sortedA_ren Fence.wide m :=
  ⟨fun blk off cap ss W hH hblk hsz => callsIn_wide.2 (AnyM.slices_Sort_int Try.sortA blk off cap ss W hH hblk hsz),
   fun p cap W => callsIn_wide.2 (AnyM.slices_Sort_int_none Try.sortA p cap W)⟩

/-- A datum that is a set of numbers. -/
abbrev Dz := DataW Unit

theorem keyed : Keyed Try.prog 3 := int_keyed Try.underlying3
theorem wf_int {z : Int} (h : -9223372036854775808 ≤ z ∧ z ≤ 9223372036854775807) : (Lit.int .i64 z).wf = true := WalkArith.wf_i64 (by omega)
theorem key_int {z : Int} (h : -9223372036854775808 ≤ z ∧ z ≤ 9223372036854775807) : keyOf Try.prog 3 (.int .i64 z) = some (.int .i64 z) := keyOf_int_mk Try.underlying3 (wf_int h)

/-- The set's numbers are those of the list. -/
def SetIs (D : Dz) (S : List Int) : Prop := IsMap D ∧ ∀ x, Maps.has D (.int .i64 x) = true ↔ x ∈ S

theorem SetIs.empty : SetIs (.map []) [] := ⟨isMap_empty, fun x => by simp [Maps.has]⟩
theorem SetIs.put {D : Dz} {S : List Int} (h : SetIs D S) (z : Int) (u : Dz) : SetIs (D.put (.int .i64 z) u) (S ++ [z]) := by
  refine ⟨h.1.put _ _, fun x => ?_⟩
  by_cases e : x = z
  · subst e
    rw [has_put_same h.1 (show WideAt.IsKeyLit (.int .i64 x) from trivial)]
    simp
  · rw [has_put_other (by simpa using e), h.2 x]
    simp [e]
theorem SetIs.del {D : Dz} {S : List Int} (h : SetIs D S) (z : Int) : SetIs (D.del (.int .i64 z)) (S.filter fun x => decide (x ≠ z)) := by
  refine ⟨h.1.del _, fun x => ?_⟩
  by_cases e : x = z
  · subst e
    rw [has_del_same]
    simp
  · rw [has_del_other (by simpa using e), h.2 x]
    simp [e]
theorem SetIs.of_mem {D : Dz} {S T : List Int} (h : SetIs D S) (e : ∀ x, x ∈ S ↔ x ∈ T) : SetIs D T := ⟨h.1, fun x => by rw [h.2 x, e x]⟩

/-- A set's block. -/
abbrev OwnS (w : World) (b n : Nat) (D : Dz) : Prop := w.ownsMap Try.prog 3 unitElem b n D

theorem keys_facts {w : World} {b n : Nat} {D : Dz} (hown : OwnS w b n D) : (intKeys D).Nodup ∧ (∀ x, x ∈ intKeys D ↔ Maps.has D (.int .i64 x) = true) ∧ Maps.size D = (intKeys D).length := by
  obtain ⟨es, hD, hpw, _⟩ := hown.entries keyed
  obtain ⟨es', hD', hko⟩ := hown.keysOf
  obtain rfl : es = es' := by rw [hD] at hD'; simpa using hD'
  subst hD
  have hk : ∀ p ∈ es, ∃ x, p.1 = .int .i64 x := fun p hp => by
    obtain ⟨v, hv⟩ := hko p hp
    obtain ⟨x, _, hx, _⟩ := Maps.keyOf_i64 Try.underlying3 hv
    exact ⟨x, hx⟩
  refine ⟨?_, fun x => ?_, ?_⟩
  · show (es.map fun p => Go.intOf p.1).Nodup
    refine List.pairwise_map.2 (hpw.imp_of_mem fun {p q} hp' hq' hne e => hne ?_)
    obtain ⟨a, ha⟩ := hk p hp'
    obtain ⟨b, hb⟩ := hk q hq'
    rw [ha, hb] at e ⊢
    exact congrArg _ e
  · rw [has_eq, List.any_eq_true]
    show (x ∈ es.map fun p => Go.intOf p.1) ↔ _
    rw [List.mem_map]
    constructor
    · rintro ⟨p, hp', rfl⟩
      obtain ⟨a, ha⟩ := hk p hp'
      exact ⟨p, hp', by rw [ha]; simp [Lit.sameKey, Go.intOf]⟩
    · rintro ⟨p, hp', hs⟩
      obtain ⟨a, ha⟩ := hk p hp'
      rw [ha] at hs
      exact ⟨p, hp', by rw [ha]; simpa [Lit.sameKey, Go.intOf] using hs⟩
  · show es.length = (es.map fun p => Go.intOf p.1).length
    simp

theorem size_set {w : World} {b n : Nat} {D : Dz} {S : List Int} (hown : OwnS w b n D) (hs : SetIs D S) : Maps.size D ≤ S.length ∧ (S.Nodup → Maps.size D = S.length) ∧ (¬ S.Nodup → Maps.size D < S.length) := by
  obtain ⟨h1, h2, h3⟩ := keys_facts hown
  rw [h3]
  exact length_keys h1 fun x => by rw [h2 x, hs.2 x]

set_option maxRecDepth 100000 in
set_option maxHeartbeats 1000000 in
theorem rising_own (b nn : Nat) (D0 : Dz) (w : World) (hown : OwnS w b nn D0) (hmax : Maps.size D0 ≤ 17592186044416) :
    Calls Try.prog 39 #[.map (some b)] w fun e w' => ∃ (v : Value) (ss : List Int), e = .returned v ∧ ss.Perm (intKeys D0) ∧
      w'.ownsRow w.heap.size 3 1 v ss.length ((ss.mergeSort (fun x y => decide (x ≤ y))).map encZ) ∧ (v = .slice none 0 0 ↔ ss = []) ∧ Below w.heap.size w w' := by
  refine (callsIn_wide (n := 6)).1 ?_
  have hbl := hown.lt
  have hseq : SeqGives Fence.wide 2 Try.prog 47 #[.pointer (some ⟨w.heap.size, 0, none⟩)] encZ (fun ss => ss.Perm (intKeys D0)) (Maps.size D0) (w.alloc (.cells #[.map (some b)] 72)) :=
    AnyZI.keys_gives (ρ := Try.keysA_ren) { Try.keysA with } Fence.wide _ trivial rfl (by omega) w.heap.size b nn D0 _ (by simp) (by simp) (by
      obtain ⟨es, clock, hb, Ft, hs, hD⟩ := hown
      exact ⟨es, clock, (Below.heap_alloc _ _ b hbl).trans hb, Ft, hs, hD⟩)
  have cK : ∀ mb W, CallsIn Fence.wide 5 Try.prog 44 #[.map mb] W fun e w' => e = .returned (.func (.func 47) #[] #[.pointer (some ⟨W.heap.size, 0, none⟩)]) ∧ w' = W.alloc (.cells #[.map mb] 72) := fun mb W => AnyZI.keys_in Try.keysA Fence.wide 5 trivial rfl mb W
  have cS := AnyZI.sorted_in Try.sortedA Fence.wide 5 trivial trivial trivial trivial rfl (by omega) (sortsA _) (enters_of Try.func46 (by kernel_rfl) rfl) 47 #[.pointer (some ⟨w.heap.size, 0, none⟩)] trivial (enters_of Try.func47 (by kernel_rfl) rfl) _ _ (by unfold maxLen; omega) (by omega) _ hseq
  change CallsIn _ _ Try.prog 43 _ _ _ at cS
  have hfK : Fence.wide.fn 44 := trivial
  have hfS : Fence.wide.fn 43 := trivial
  refine callsIn_of_wp Try.func39 rfl trivial ?_ rfl
  simp only [Try.ntmps39, List.size_toArray, List.length_cons, List.length_nil, Nat.reduceAdd, Nat.reduceSub, Array.replicate_succ, Array.replicate_zero, List.push_toArray, List.append_toArray, List.nil_append, List.cons_append]
  gi_wp2_with (first
    | (gi_at_call 44; refine (cK _ _).mono ?_; rintro e w' ⟨rfl, rfl⟩)
    | (gi_at_call 43; refine cS.mono ?_; rintro e w' ⟨v, ss, rfl, hS, hrow, hnil, hb⟩))
  go_ret
  exact ⟨v, ss, rfl, hS, ownsRow_base_a hrow (by simp), hnil, ((Below.refl _ w).alloc (Nat.le_refl _) _).trans (hb.mono (by simp))⟩

/-- The numbers of a set, rising. -/
theorem rising_any (b nn : Nat) (D0 : Dz) (S : List Int) (w : World) (hown : OwnS w b nn D0) (hS : SetIs D0 S) (hmax : S.length ≤ 17592186044416) :
    Calls Try.prog 39 #[.map (some b)] w fun e w' => ∃ (A : Option Addr) (c : Nat) (L : List Int), e = .returned (.slice A L.length c) ∧ Hid (Rise L ∧ (∀ x, x ∈ L ↔ x ∈ S) ∧ L.length ≤ S.length) ∧ L.length ≤ c ∧ Hid (A = none → c = 0) ∧ Hid (RdI w' A L) ∧ Below w.heap.size w w' := by
  have hsz := (size_set hown hS).1
  obtain ⟨k1, k2, k3⟩ := keys_facts hown
  refine (rising_own b nn D0 w hown (by omega)).mono ?_
  rintro e w' ⟨v, ss, rfl, hp, hrow, hnil, hB⟩
  have hL : (ss.mergeSort (fun x y => decide (x ≤ y))).length = ss.length := by simp
  have hle : ss.length ≤ S.length := by rw [hp.length_eq, ← k3]; exact hsz
  have hR : Rise (ss.mergeSort (fun x y => decide (x ≤ y))) := rise_of_sort (hp.nodup_iff.2 k1)
  have hM : ∀ x, x ∈ ss.mergeSort (fun x y => decide (x ≤ y)) ↔ x ∈ S := fun x => by rw [List.mem_mergeSort, hp.mem_iff, k2 x, hS.2 x]
  rcases Nat.eq_zero_or_pos ss.length with h0 | h0
  · have hs := List.eq_nil_of_length_eq_zero h0
    obtain rfl := hnil.2 hs
    subst hs
    refine ⟨none, 0, _, by rw [hL]; rfl, Lib.hid ⟨hR, hM, by rw [hL]; exact hle⟩, by rw [hL]; exact Nat.le_refl _, Lib.hid fun _ => rfl, Lib.hid ?_, hB⟩
    intro hne
    simp at hne
  · obtain ⟨g, cap, rfl, hbase, hlt⟩ := hrow.form h0
    have hcap : ss.length ≤ cap := by
      rcases hrow.2 with ⟨_, hz⟩ | ⟨_, cap', _, e, _, _, _, h, _⟩
      · omega
      · injection e with _ _ e
        subst e
        omega
    exact ⟨some ⟨g, 0, none⟩, cap, _, by rw [hL], Lib.hid ⟨hR, hM, by rw [hL]; exact hle⟩, by rw [hL]; exact hcap, Lib.hid fun h => (by cases h), Lib.hid (Rd.of_own (hL ▸ hrow)), hB⟩

end Go.Proofs.Ytddkalcgijeldaa
