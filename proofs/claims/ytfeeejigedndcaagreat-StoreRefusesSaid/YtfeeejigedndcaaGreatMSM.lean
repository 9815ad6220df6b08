/-
  Lists of sectors: which may be used, which are free, rising lists. Plain words. No conditions.
-/
import Derived.Test.YtfeeejigedndcaaGreatMZ
import Derived.Deep.QuietTactic
import Derived.BigQuiet
import Derived.Deep.RegionHeld3
import Derived.Test.YtfeeejigedndcaaGreatSIter
import Derived.Maps.OwnSet
namespace Go.Proofs.YtfeeejigedndcaaGreat
set_option maxRecDepth 100000

/-- Rising, each once. -/
def Rise (l : List Int) : Prop := l.Pairwise (· < ·)

theorem Rise.eq : ∀ {l m : List Int}, Rise l → Rise m → (∀ x, x ∈ l ↔ x ∈ m) → l = m
  | [], [], _, _, _ => rfl
  | [], y :: m, _, _, h => by have := (h y).2 (by simp); simp at this
  | x :: l, [], _, _, h => by have := (h x).1 (by simp); simp at this
  | x :: l, y :: m, hl, hm, h => by
    have hl' := List.pairwise_cons.1 hl
    have hm' := List.pairwise_cons.1 hm
    have hxy : x = y := by
      have h1 := (h x).1 (by simp)
      have h2 := (h y).2 (by simp)
      rcases List.mem_cons.1 h1 with h1 | h1
      · exact h1
      · rcases List.mem_cons.1 h2 with h2 | h2
        · exact h2.symm
        · have := hm'.1 x h1
          have := hl'.1 y h2
          omega
    subst hxy
    congr 1
    refine Rise.eq hl'.2 hm'.2 fun z => ⟨fun hz => ?_, fun hz => ?_⟩
    · have := hl'.1 z hz
      rcases List.mem_cons.1 ((h z).1 (by simp [hz])) with h1 | h1
      · omega
      · exact h1
    · have := hm'.1 z hz
      rcases List.mem_cons.1 ((h z).2 (by simp [hz])) with h1 | h1
      · omega
      · exact h1

theorem Rise.take {l : List Int} (h : Rise l) (n : Nat) : Rise (l.take n) := List.Pairwise.sublist (List.take_sublist _ _) h

/-- A list that is sorted and bears nothing twice. -/
theorem rise_of_sort {l : List Int} (hn : l.Nodup) : Rise (l.mergeSort (fun x y => decide (x ≤ y))) := by
  have h1 : (l.mergeSort (fun x y => decide (x ≤ y))).Pairwise (fun a b => decide (a ≤ b) = true) :=
    List.pairwise_mergeSort (fun a b c h1 h2 => by simp at *; omega) (fun a b => by simp; omega) l
  have h2 : (l.mergeSort (fun x y => decide (x ≤ y))).Nodup := (List.mergeSort_perm l _).nodup_iff.2 hn
  refine List.Pairwise.imp₂ (S := fun a b => a ≠ b) (fun a b h1 h2 => ?_) h1 h2
  simp at h1
  omega

/-- All are from 2 to below t. -/
def ins (t : Int) (u : List Int) : Bool := u.all fun z => decide (2 ≤ z) && decide (z < t)

/-- A number of sectors that may be. -/
def totS (t : Int) : Bool := decide (2 ≤ t) && decide (t ≤ 8192)

/-- What is told of sectors in use. -/
def chk (t : Int) (u : List Int) : Int := if totS t && ins t u then (if u.Nodup then 0 else 6) else 4

theorem chk_4 {t : Int} {u : List Int} (h : (totS t && ins t u) = false) : chk t u = 4 := by simp [chk, h]
theorem chk_0 {t : Int} {u : List Int} (h : (totS t && ins t u) = true) (hn : u.Nodup) : chk t u = 0 := by simp [chk, h, hn]
theorem chk_6 {t : Int} {u : List Int} (h : (totS t && ins t u) = true) (hn : ¬ u.Nodup) : chk t u = 6 := by simp [chk, h, hn]

theorem tot_iff {t : Int} : totS t = true ↔ 2 ≤ t ∧ t ≤ 8192 := by simp [totS]
theorem ins_iff {t : Int} {u : List Int} : ins t u = true ↔ ∀ z ∈ u, 2 ≤ z ∧ z < t := by simp [ins, List.all_eq_true]

theorem chk_ok {t : Int} {u : List Int} : chk t u = 0 ↔ (2 ≤ t ∧ t ≤ 8192) ∧ (∀ z ∈ u, 2 ≤ z ∧ z < t) ∧ u.Nodup := by
  unfold chk
  rw [← tot_iff, ← ins_iff]
  cases totS t <;> cases ins t u <;> by_cases hn : u.Nodup <;> simp [hn]

/-- Those from 2 to below t. -/
def upto (t : Int) : List Int := (List.range (t - 2).toNat).map fun (i : Nat) => (i : Int) + 2

/-- Those that are not in use. -/
def freeL (t : Int) (u : List Int) : List Int := (upto t).filter fun z => !u.contains z

theorem mem_upto {t z : Int} : z ∈ upto t ↔ 2 ≤ z ∧ z < t := by
  unfold upto
  simp only [List.mem_map, List.mem_range]
  constructor
  · rintro ⟨i, hi, rfl⟩; omega
  · rintro ⟨h1, h2⟩; exact ⟨(z - 2).toNat, by omega, by omega⟩

theorem mem_free {t z : Int} {u : List Int} : z ∈ freeL t u ↔ (2 ≤ z ∧ z < t) ∧ z ∉ u := by
  simp [freeL, List.mem_filter, mem_upto]

theorem rise_upto (t : Int) : Rise (upto t) := by
  unfold upto Rise
  rw [List.pairwise_map]
  exact List.pairwise_lt_range.imp fun h => by omega

theorem rise_free (t : Int) (u : List Int) : Rise (freeL t u) := (rise_upto t).sublist List.filter_sublist

theorem length_upto (t : Int) : (upto t).length = (t - 2).toNat := by simp [upto]
theorem length_free_le (t : Int) (u : List Int) : (freeL t u).length ≤ (t - 2).toNat := by
  rw [← length_upto]; exact List.length_filter_le _ _

theorem Rise.nodup {l : List Int} (h : Rise l) : l.Nodup := h.imp fun h => by omega

/-- As many are free as there are others. -/
theorem length_filter_two {α : Type} (p : α → Bool) : ∀ l : List α, (l.filter p).length + (l.filter (fun x => !p x)).length = l.length
  | [] => rfl
  | x :: l => by
    have := length_filter_two p l
    by_cases h : p x = true
    · simp [h]; omega
    · simp [h]; omega

theorem nodup_perm : ∀ {l m : List Int}, l.Nodup → m.Nodup → (∀ x, x ∈ l ↔ x ∈ m) → l.length = m.length := fun {l m} hl hm h => by
  have h1 := rise_of_sort hl
  have h2 := rise_of_sort hm
  have e : l.mergeSort (fun x y => decide (x ≤ y)) = m.mergeSort (fun x y => decide (x ≤ y)) :=
    h1.eq h2 fun x => by rw [List.mem_mergeSort, List.mem_mergeSort]; exact h x
  have := congrArg List.length e
  simpa using this

theorem length_free {t : Int} {u : List Int} (h : ∀ z ∈ u, 2 ≤ z ∧ z < t) (hn : u.Nodup) : (freeL t u).length + u.length = (t - 2).toNat := by
  have h1 := length_filter_two (fun z => !u.contains z) (upto t)
  rw [length_upto] at h1
  have h2 : ((upto t).filter (fun z => !(!u.contains z))).length = u.length := by
    refine nodup_perm ((rise_upto t).nodup.sublist List.filter_sublist) hn fun x => ?_
    simp [List.mem_filter, mem_upto]
    exact fun hx => h x hx
  unfold freeL
  omega

/-- What was taken is used then. -/
theorem nodup_taken {t : Int} {u : List Int} (hn : u.Nodup) (n : Nat) : (u ++ (freeL t u).take n).Nodup := by
  rw [List.nodup_append]
  refine ⟨hn, ((rise_free t u).take n).nodup, fun a ha b hb e => ?_⟩
  subst e
  exact (mem_free.1 (List.mem_of_mem_take hb)).2 ha

theorem in_taken {t : Int} {u : List Int} (h : ∀ z ∈ u, 2 ≤ z ∧ z < t) (n : Nat) : ∀ z ∈ u ++ (freeL t u).take n, 2 ≤ z ∧ z < t := fun z hz => by
  rcases List.mem_append.1 hz with hz | hz
  · exact h z hz
  · exact (mem_free.1 (List.mem_of_mem_take hz)).1

/-- The first number that stands ahead already. -/
theorem nodup_snoc {l : List Int} {z : Int} : (l ++ [z]).Nodup ↔ l.Nodup ∧ z ∉ l := by
  rw [List.nodup_append]
  constructor
  · rintro ⟨h1, _, h3⟩; exact ⟨h1, fun h => h3 z h z (by simp) rfl⟩
  · rintro ⟨h1, h2⟩; exact ⟨h1, by simp, fun a ha b hb e => by simp at hb; subst hb; subst e; exact h2 ha⟩

theorem not_nodup_take {l : List Int} {k : Nat} (h : ¬ (l.take k).Nodup) : ¬ l.Nodup := fun hn => h (hn.sublist (List.take_sublist _ _))

/-- Each once. -/
def once : List Int → List Int
  | [] => []
  | x :: u => if u.contains x then once u else x :: once u

theorem mem_once : ∀ {u : List Int} {x : Int}, x ∈ once u ↔ x ∈ u
  | [], x => by simp [once]
  | y :: u, x => by
    unfold once
    split
    · rename_i h
      rw [mem_once, List.mem_cons]
      constructor
      · exact fun h => .inr h
      · rintro (rfl | h')
        · simpa using h
        · exact h'
    · rw [List.mem_cons, List.mem_cons, mem_once]
theorem nodup_once : ∀ u : List Int, (once u).Nodup
  | [] => by simp [once]
  | y :: u => by
    unfold once
    split
    · exact nodup_once u
    · rename_i h
      exact List.nodup_cons.2 ⟨fun h' => h (by simpa using mem_once.1 h'), nodup_once u⟩
theorem length_once_le : ∀ u : List Int, (once u).length ≤ u.length
  | [] => by simp [once]
  | y :: u => by
    have := length_once_le u
    unfold once
    split <;> simp <;> omega
theorem length_once_lt : ∀ {u : List Int}, ¬ u.Nodup → (once u).length < u.length
  | [], h => by simp at h
  | y :: u, h => by
    unfold once
    split
    · have := length_once_le u
      simp; omega
    · rename_i hc
      have := length_once_lt (u := u) (fun hn => h (List.nodup_cons.2 ⟨by simpa using hc, hn⟩))
      simp; omega

theorem length_keys {l u : List Int} (hl : l.Nodup) (h : ∀ x, x ∈ l ↔ x ∈ u) : l.length ≤ u.length ∧ (u.Nodup → l.length = u.length) ∧ (¬ u.Nodup → l.length < u.length) := by
  have e : l.length = (once u).length := nodup_perm hl (nodup_once u) fun x => by rw [h x, mem_once]
  refine ⟨e ▸ length_once_le u, fun hu => nodup_perm hl hu h, fun hu => e ▸ length_once_lt hu⟩

end Go.Proofs.YtfeeejigedndcaaGreat

namespace Go.Proofs.YtfeeejigedndcaaGreat
open Go.ChangeShapes Go.WideShapes Go.ChangeAt Go.RowKit
set_option maxRecDepth 100000

theorem RdI.take {w : World} {A : Option Addr} {zs : List Int} (h : RdI w A zs) (n : Nat) : RdI w A (zs.take n) := fun hne => by
  obtain ⟨b, off, e, hb, hc⟩ := h (by intro e; simp at e; subst e; simp at hne)
  refine ⟨b, off, e, hb, fun j u hu => hc j u ?_⟩
  rw [List.getElem?_map] at hu ⊢
  rw [List.getElem?_take] at hu
  split at hu
  · exact hu
  · cases hu

theorem take_at {zs : List Int} {k : Nat} {z : Int} (h : zs[k]? = some z) : zs.take (k + 1) = zs.take k ++ [z] := by
  rw [List.take_add_one, h]; rfl

theorem ins_cons {t z : Int} {zs : List Int} : ins t (z :: zs) = (decide (2 ≤ z) && decide (z < t) && ins t zs) := rfl

end Go.Proofs.YtfeeejigedndcaaGreat

namespace Go.Proofs.YtfeeejigedndcaaGreat
open Go.ChangeShapes Go.WideShapes Go.ChangeAt Go.RowKit Go.Maps
set_option maxRecDepth 100000

theorem sortsA (m : Nat) : AnyZI.SortsIn Tryz.prog Tryz.sortedA_ren Fence.wide m :=
  ⟨fun blk off cap ss W hH hblk hsz => callsIn_wide.2 (AnyM.slices_Sort_int Tryz.sortA blk off cap ss W hH hblk hsz),
   fun p cap W => callsIn_wide.2 (AnyM.slices_Sort_int_none Tryz.sortA p cap W)⟩

/-- A datum that is a set of numbers. -/
abbrev Dz := DataW Unit

theorem keyed : Keyed Tryz.prog 3 := int_keyed Tryz.underlying3
theorem wf_int {z : Int} (h : -9223372036854775808 ≤ z ∧ z ≤ 9223372036854775807) : (Lit.int .i64 z).wf = true := WalkArith.wf_i64 (by omega)
theorem key_int {z : Int} (h : -9223372036854775808 ≤ z ∧ z ≤ 9223372036854775807) : keyOf Tryz.prog 3 (.int .i64 z) = some (.int .i64 z) := keyOf_int_mk Tryz.underlying3 (wf_int h)

/-- The set's numbers are those of the list. -/
def SetIs (D : Dz) (S : List Int) : Prop := IsMap D ∧ ∀ x, Maps.has D (.int .i64 x) = true ↔ x ∈ S

theorem SetIs.empty : SetIs (.map []) [] := ⟨isMap_empty, fun x => by simp [Maps.has]⟩
theorem SetIs.put {D : Dz} {S : List Int} (h : SetIs D S) (z : Int) (u : Dz) : SetIs (D.put (.int .i64 z) u) (S ++ [z]) := by
  refine ⟨h.1.put _ _, fun x => ?_⟩
  by_cases e : x = z
  · subst e
    rw [has_put_same h.1 (show WideAt.IsKeyLit (.int .i64 x) from trivial)]
    simp
  · rw [has_put_other (by simpa using e), h.2 x]
    simp [e]
theorem SetIs.del {D : Dz} {S : List Int} (h : SetIs D S) (z : Int) : SetIs (D.del (.int .i64 z)) (S.filter fun x => decide (x ≠ z)) := by
  refine ⟨h.1.del _, fun x => ?_⟩
  by_cases e : x = z
  · subst e
    rw [has_del_same]
    simp
  · rw [has_del_other (by simpa using e), h.2 x]
    simp [e]
theorem SetIs.of_mem {D : Dz} {S T : List Int} (h : SetIs D S) (e : ∀ x, x ∈ S ↔ x ∈ T) : SetIs D T := ⟨h.1, fun x => by rw [h.2 x, e x]⟩

/-- A set's block. -/
abbrev OwnS (w : World) (b n : Nat) (D : Dz) : Prop := w.ownsMap Tryz.prog 3 unitElem b n D

theorem keys_facts {w : World} {b n : Nat} {D : Dz} (hown : OwnS w b n D) : (intKeys D).Nodup ∧ (∀ x, x ∈ intKeys D ↔ Maps.has D (.int .i64 x) = true) ∧ Maps.size D = (intKeys D).length := by
  obtain ⟨es, hD, hpw, _⟩ := hown.entries keyed
  obtain ⟨es', hD', hko⟩ := hown.keysOf
  obtain rfl : es = es' := by rw [hD] at hD'; simpa using hD'
  subst hD
  have hk : ∀ p ∈ es, ∃ x, p.1 = .int .i64 x := fun p hp => by
    obtain ⟨v, hv⟩ := hko p hp
    obtain ⟨x, _, hx, _⟩ := Maps.keyOf_i64 Tryz.underlying3 hv
    exact ⟨x, hx⟩
  refine ⟨?_, fun x => ?_, ?_⟩
  · show (es.map fun p => Go.intOf p.1).Nodup
    refine List.pairwise_map.2 (hpw.imp_of_mem fun {p q} hp' hq' hne e => hne ?_)
    obtain ⟨a, ha⟩ := hk p hp'
    obtain ⟨b, hb⟩ := hk q hq'
    rw [ha, hb] at e ⊢
    exact congrArg _ e
  · rw [has_eq, List.any_eq_true]
    show (x ∈ es.map fun p => Go.intOf p.1) ↔ _
    rw [List.mem_map]
    constructor
    · rintro ⟨p, hp', rfl⟩
      obtain ⟨a, ha⟩ := hk p hp'
      exact ⟨p, hp', by rw [ha]; simp [Lit.sameKey, Go.intOf]⟩
    · rintro ⟨p, hp', hs⟩
      obtain ⟨a, ha⟩ := hk p hp'
      rw [ha] at hs
      exact ⟨p, hp', by rw [ha]; simpa [Lit.sameKey, Go.intOf] using hs⟩
  · show es.length = (es.map fun p => Go.intOf p.1).length
    simp

theorem size_set {w : World} {b n : Nat} {D : Dz} {S : List Int} (hown : OwnS w b n D) (hs : SetIs D S) : Maps.size D ≤ S.length ∧ (S.Nodup → Maps.size D = S.length) ∧ (¬ S.Nodup → Maps.size D < S.length) := by
  obtain ⟨h1, h2, h3⟩ := keys_facts hown
  rw [h3]
  exact length_keys h1 fun x => by rw [h2 x, hs.2 x]

set_option maxRecDepth 100000 in
set_option maxHeartbeats 1000000 in
theorem rising_own (b nn : Nat) (D0 : Dz) (w : World) (hown : OwnS w b nn D0) (hmax : Maps.size D0 ≤ 17592186044416) :
    Calls Tryz.prog 95 #[.map (some b)] w fun e w' => ∃ (v : Value) (ss : List Int), e = .returned v ∧ ss.Perm (intKeys D0) ∧
      w'.ownsRow w.heap.size 3 1 v ss.length ((ss.mergeSort (fun x y => decide (x ≤ y))).map encZ) ∧ (v = .slice none 0 0 ↔ ss = []) ∧ Below w.heap.size w w' := by
  refine (callsIn_wide (n := 6)).1 ?_
  have hbl := hown.lt
  have hseq : SeqGives Fence.wide 2 Tryz.prog 129 #[.pointer (some ⟨w.heap.size, 0, none⟩)] encZ (fun ss => ss.Perm (intKeys D0)) (Maps.size D0) (w.alloc (.cells #[.map (some b)] 136)) :=
    AnyZI.keys_gives (ρ := Tryz.keysA_ren) { Tryz.keysA with } Fence.wide _ trivial rfl (by omega) w.heap.size b nn D0 _ (by simp) (by simp) (by
      obtain ⟨es, clock, hb, Ft, hs, hD⟩ := hown
      exact ⟨es, clock, (Below.heap_alloc _ _ b hbl).trans hb, Ft, hs, hD⟩)
  have cK : ∀ mb W, CallsIn Fence.wide 5 Tryz.prog 115 #[.map mb] W fun e w' => e = .returned (.func (.func 129) #[] #[.pointer (some ⟨W.heap.size, 0, none⟩)]) ∧ w' = W.alloc (.cells #[.map mb] 136) := fun mb W => AnyZI.keys_in Tryz.keysA Fence.wide 5 trivial rfl mb W
  have cS := AnyZI.sorted_in Tryz.sortedA Fence.wide 5 trivial trivial trivial trivial rfl (by omega) (sortsA _) (enters_of Tryz.func128 (by kernel_rfl) rfl) 129 #[.pointer (some ⟨w.heap.size, 0, none⟩)] trivial (enters_of Tryz.func129 (by kernel_rfl) rfl) _ _ (by unfold maxLen; omega) (by omega) _ hseq
  change CallsIn _ _ Tryz.prog 114 _ _ _ at cS
  have hfK : Fence.wide.fn 115 := trivial
  have hfS : Fence.wide.fn 114 := trivial
  refine callsIn_of_wp Tryz.func95 rfl trivial ?_ rfl
  simp only [Tryz.ntmps95, List.size_toArray, List.length_cons, List.length_nil, Nat.reduceAdd, Nat.reduceSub, Array.replicate_succ, Array.replicate_zero, List.push_toArray, List.append_toArray, List.nil_append, List.cons_append]
  gi_wp2_with (first
    | (gi_at_call 115; refine (cK _ _).mono ?_; rintro e w' ⟨rfl, rfl⟩)
    | (gi_at_call 114; refine cS.mono ?_; rintro e w' ⟨v, ss, rfl, hS, hrow, hnil, hb⟩))
  go_ret
  exact ⟨v, ss, rfl, hS, ownsRow_base_a hrow (by simp), hnil, ((Below.refl _ w).alloc (Nat.le_refl _) _).trans (hb.mono (by simp))⟩

/-- The numbers of a set, rising. -/
theorem rising_any (b nn : Nat) (D0 : Dz) (S : List Int) (w : World) (hown : OwnS w b nn D0) (hS : SetIs D0 S) (hmax : S.length ≤ 17592186044416) :
    Calls Tryz.prog 95 #[.map (some b)] w fun e w' => ∃ (A : Option Addr) (c : Nat) (L : List Int), e = .returned (.slice A L.length c) ∧ Hid (Rise L ∧ (∀ x, x ∈ L ↔ x ∈ S) ∧ L.length ≤ S.length) ∧ L.length ≤ c ∧ Hid (A = none → c = 0) ∧ Hid (RdI w' A L) ∧ Below w.heap.size w w' := by
  have hsz := (size_set hown hS).1
  obtain ⟨k1, k2, k3⟩ := keys_facts hown
  refine (rising_own b nn D0 w hown (by omega)).mono ?_
  rintro e w' ⟨v, ss, rfl, hp, hrow, hnil, hB⟩
  have hL : (ss.mergeSort (fun x y => decide (x ≤ y))).length = ss.length := by simp
  have hle : ss.length ≤ S.length := by rw [hp.length_eq, ← k3]; exact hsz
  have hR : Rise (ss.mergeSort (fun x y => decide (x ≤ y))) := rise_of_sort (hp.nodup_iff.2 k1)
  have hM : ∀ x, x ∈ ss.mergeSort (fun x y => decide (x ≤ y)) ↔ x ∈ S := fun x => by rw [List.mem_mergeSort, hp.mem_iff, k2 x, hS.2 x]
  rcases Nat.eq_zero_or_pos ss.length with h0 | h0
  · have hs := List.eq_nil_of_length_eq_zero h0
    obtain rfl := hnil.2 hs
    subst hs
    refine ⟨none, 0, _, by rw [hL]; rfl, Lib.hid ⟨hR, hM, by rw [hL]; exact hle⟩, by rw [hL]; exact Nat.le_refl _, Lib.hid fun _ => rfl, Lib.hid ?_, hB⟩
    intro hne
    simp at hne
  · obtain ⟨g, cap, rfl, hbase, hlt⟩ := hrow.form h0
    have hcap : ss.length ≤ cap := by
      rcases hrow.2 with ⟨_, hz⟩ | ⟨_, cap', _, e, _, _, _, h, _⟩
      · omega
      · injection e with _ _ e
        subst e
        omega
    exact ⟨some ⟨g, 0, none⟩, cap, _, by rw [hL], Lib.hid ⟨hR, hM, by rw [hL]; exact hle⟩, by rw [hL]; exact hcap, Lib.hid fun h => (by cases h), Lib.hid (Rd.of_own (hL ▸ hrow)), hB⟩

end Go.Proofs.YtfeeejigedndcaaGreat

namespace Go.Proofs.YtfeeejigedndcaaGreat
open Go.ChangeShapes Go.WideShapes Go.ChangeAt Go.RowKit Go.Maps
set_option maxRecDepth 100000

/-- A list of numbers that came in. -/
structure Li where
  A : Option Addr
  zs : List Int
  c : Nat

def Li.val (l : Li) : Value := .slice l.A l.zs.length l.c

/-- All numbers of the lists. -/
def flat (ls : List Li) : List Int := (ls.map Li.zs).flatten

/-- Lists that read so. -/
structure RdL (w : World) (A : Option Addr) (ls : List Li) : Prop where
  row : Rd w A (ls.map Li.val)
  each : ∀ l ∈ ls, RdI w l.A l.zs
  ints : ∀ l ∈ ls, Ints l.zs
  few : (flat ls).length ≤ 17592200000000
  many : ls.length ≤ 17592186044416

theorem RdL.below {w w' : World} {A : Option Addr} {ls : List Li} (h : RdL w A ls) (hb : Below w.heap.size w w') : RdL w' A ls :=
  ⟨Rd.below h.row hb, fun l hl => RdI.below (h.each l hl) hb, h.ints, h.few, h.many⟩

theorem flat_take {ls : List Li} {k : Nat} {l : Li} (h : ls[k]? = some l) : flat (ls.take (k + 1)) = flat (ls.take k) ++ l.zs := by
  unfold flat
  rw [List.take_add_one, h]
  simp
theorem flat_le (ls : List Li) (k : Nat) : (flat (ls.take k)).length ≤ (flat ls).length := by
  have h : flat ls = flat (ls.take k) ++ flat (ls.drop k) := by
    unfold flat
    rw [← List.flatten_append, ← List.map_append, List.take_append_drop]
  rw [h]
  simp

theorem RdL.at_ {w : World} {A : Option Addr} {ls : List Li} (h : RdL w A ls) {k : Nat} (hk : k < ls.length) :
    ∃ (b off : Nat) (l : Li), A = some ⟨b, off, none⟩ ∧ b < w.heap.size ∧ w.cell? ⟨b, off + k, none⟩ = some (.slice l.A l.zs.length l.c) ∧ Hid (RdI w l.A l.zs) ∧ Hid (Ints l.zs) ∧ Hid (flat (ls.take (k + 1)) = flat (ls.take k) ++ l.zs) ∧ (flat (ls.take k)).length + l.zs.length ≤ 17592200000000 := by
  obtain ⟨b, off, e, hb, hc⟩ := h.row (by intro h0; have := congrArg List.length h0; simp at this; subst this; simp at hk)
  have hl : ls[k]? = some ls[k] := List.getElem?_eq_getElem hk
  have hf := flat_take hl
  have h1 := flat_le ls (k + 1)
  rw [hf, List.length_append] at h1
  exact ⟨b, off, ls[k], e, hb, hc k _ (by simp [List.getElem?_map, hl, Li.val]), Lib.hid (h.each _ (List.getElem_mem hk)), Lib.hid (h.ints _ (List.getElem_mem hk)), Lib.hid hf, Nat.le_trans h1 h.few⟩

set_option maxRecDepth 100000 in
set_option maxHeartbeats 1000000 in
theorem met_any (A : Option Addr) (c : Nat) (ls : List Li) (w : World) (hr : RdL w A ls) :
    Calls Tryz.prog 71 #[.slice A ls.length c] w fun e w' => ∃ (n : Nat) (D : Dz), e = .returned (.map (some w.heap.size)) ∧ Hid (OwnS w' w.heap.size n D) ∧ Hid (SetIs D (flat ls)) ∧ Below w.heap.size w w' := by
  have hmany := hr.many
  have HR := Lib.hid hr
  clear hr
  have hmm := @run_makeMap Tryz.prog
  go_enter Tryz.func71, Tryz.ntmps71
  go_wp2
  go_loopw [11] (fun i wr => ∃ (k n : Nat) (D : Dz), k ≤ ls.length ∧ i = .int .i64 k ∧ n ≤ (flat (ls.take k)).length ∧ Hid (OwnS wr w.heap.size n D) ∧ Hid (SetIs D (flat (ls.take k))) ∧ Below w.heap.size w wr) (fun i _ => ls.length - (intOf i).toNat)
  case atStart => exact ⟨0, 0, .map [], Nat.zero_le _, rfl, Nat.zero_le _, Lib.hid (World.ownsMap_made _ _ _ _), Lib.hid (by simpa [flat] using SetIs.empty), (Below.refl _ _).alloc (Nat.le_refl _) _⟩
  case round =>
    obtain ⟨k, n, D, hk, rfl, hn, HO, HS, hB⟩ := hrel
    by_cases hlt : k < ls.length
    · obtain ⟨b, off, l, rfl, hb, hc0, HL, HI, HF, hfew⟩ := HR.out.at_ hlt
      have hc := (hB.cell (p := ⟨b, off + k, none⟩) hb).trans hc0
      clear hc0
      generalize flat (ls.take k) = S at *
      obtain ⟨B, zs, d⟩ := l
      dsimp only at hc HL HI HF hfew
      go_wp2
      go_loopw [17] (fun i wr' => ∃ (j m : Nat) (D' : Dz), j ≤ zs.length ∧ i = .int .i64 j ∧ m ≤ S.length + j ∧ Hid (OwnS wr' w.heap.size m D') ∧ Hid (SetIs D' (S ++ zs.take j)) ∧ Below w.heap.size w wr') (fun i _ => zs.length - (intOf i).toNat)
      case atStart => exact ⟨0, n, D, Nat.zero_le _, rfl, by omega, HO, Lib.hid (by simpa using HS.out), hB⟩
      case round =>
        obtain ⟨j, m, D', hj, rfl, hm, HO', HS', hB'⟩ := hrel
        by_cases hlt' : j < zs.length
        · obtain ⟨b', off', z, rfl, hb', hc', HZ⟩ := RdI.at_ (RdI.below HL.out hB') hlt'
          have hz := HI.out z (List.mem_of_getElem? HZ.out)
          go_wp2_with (at_mapUpdate; refine wpList_mapUpdate_own _ rfl _ _ _ 136 rfl 3 173 keyed Tryz.underlying136 (unitElem (H := Unit)) w.heap.size m D' rfl HO'.out (by unfold maxLen; omega) _ _ _ rfl rfl (key_int hz) (.agg []) [] unitElem_mk ?_; intro w1 hown1 hgrow1)
          go_roundw
          case rel =>
            refine ⟨j + 1, m + 1, _, by omega, by go_num, by omega, Lib.hid hown1, Lib.hid ?_, hB'.grown hgrow1 hB'.size (fun i hi => by cases hi; exact Nat.le_refl _)⟩
            rw [List.take_add_one, HZ.out, Option.toList_some, ← List.append_assoc]
            exact HS'.out.put z _
          case measure => simp [intOf]; omega
        · obtain rfl : j = zs.length := by omega
          rw [List.take_length] at HS'
          go_wp2
          go_roundw
          case rel => exact ⟨k + 1, m, D', by omega, by go_num, by rw [HF.out, List.length_append]; omega, HO', Lib.hid (by rw [HF.out]; exact HS'.out), hB'⟩
          case measure => simp [intOf]; omega
    · go_wp2
      go_ret
      exact ⟨n, D, rfl, HO, Lib.hid (by have := HS.out; rwa [List.take_of_length_le (by omega)] at this), hB⟩

end Go.Proofs.YtfeeejigedndcaaGreat

namespace Go.Proofs.YtfeeejigedndcaaGreat
open Go.ChangeShapes Go.WideShapes Go.ChangeAt Go.RowKit Go.Maps
set_option maxRecDepth 100000

theorem met_one (B : Option Addr) (zs : List Int) (d : Nat) (w : World) (n t : Nat) (hn : w.heap.size = n) (hl : zs.length ≤ 17592200000000) (hi : Ints zs) (hr : RdI w B zs) :
    Calls Tryz.prog 71 #[.slice (some ⟨n, 0, none⟩) 1 1] (w.alloc (.cells #[.slice B zs.length d] t)) fun e w' => ∃ (m : Nat) (D : Dz), e = .returned (.map (some (n + 1))) ∧ Hid (OwnS w' (n + 1) m D) ∧ Hid (SetIs D zs) ∧ Below n w w' := by
  subst hn
  have hB : Below w.heap.size w (w.alloc (.cells #[.slice B zs.length d] t)) := (Below.refl _ _).alloc (Nat.le_refl _) _
  have hR : RdL (w.alloc (.cells #[.slice B zs.length d] t)) (some ⟨w.heap.size, 0, none⟩) [⟨B, zs, d⟩] :=
    ⟨fun _ => ⟨w.heap.size, 0, rfl, by simp, fun j u hu => by
        rcases j with _ | j
        · have hu' : some (Value.slice B zs.length d) = some u := hu
          injection hu' with hu'
          subst hu'
          rw [cell_of_row (w.alloc (.cells #[.slice B zs.length d] t)) w.heap.size (0 + 0) #[.slice B zs.length d] t (0, 0) (heap_alloc_new w _)]
          rfl
        · simp at hu⟩,
      fun l hl => by simp at hl; subst hl; exact RdI.below hr hB, fun l hl => by simp at hl; subst hl; exact hi, by simpa [flat] using hl, by simp⟩
  refine (met_any (some ⟨w.heap.size, 0, none⟩) 1 [⟨B, zs, d⟩] _ hR).mono ?_
  rintro e w' ⟨m, D, rfl, HO, HS, hb⟩
  have hsz : (w.alloc (.cells #[.slice B zs.length d] t)).heap.size = w.heap.size + 1 := by simp
  rw [hsz] at HO hb
  exact ⟨m, D, by rw [hsz], HO, Lib.hid (by simpa [flat] using HS.out), hB.trans (hb.mono (by omega))⟩

theorem check_tot (t : Int) (A : Option Addr) (c : Nat) (zs : List Int) (ht : totS t = false) (w : World) :
    Calls Tryz.prog 43 #[.int .i64 t, .slice A zs.length c] w fun e w' => e = .returned (.int .i64 4) ∧ Below w.heap.size w w' := by
  have h : t < 2 ∨ (2 ≤ t ∧ 8192 < t) := by
    have : ¬ (2 ≤ t ∧ t ≤ 8192) := fun h => by rw [tot_iff.2 h] at ht; cases ht
    omega
  rcases h with h | ⟨h1, h2⟩
  · go_enter Tryz.func43, Tryz.ntmps43
    go_wp2
    go_ret
    exact ⟨rfl, Below.refl _ _⟩
  · go_enter Tryz.func43, Tryz.ntmps43
    go_wp2
    go_ret
    exact ⟨rfl, Below.refl _ _⟩

theorem check_out (t : Int) (A : Option Addr) (c : Nat) (zs : List Int) (ht : totS t = true) (hi : ins t zs = false) (hl : zs.length ≤ 17592200000000) (w : World) (hr : RdI w A zs) :
    Calls Tryz.prog 43 #[.int .i64 t, .slice A zs.length c] w fun e w' => e = .returned (.int .i64 4) ∧ Below w.heap.size w w' := by
  obtain ⟨h1, h2⟩ := tot_iff.1 ht
  have HI := Lib.hid hi
  clear ht hi
  go_enter Tryz.func43, Tryz.ntmps43
  go_wp2
  go_loop [15] (fun i => ∃ k : Nat, k ≤ zs.length ∧ i = .int .i64 k ∧ Hid (ins t (zs.drop k) = false)) (fun i => zs.length - (intOf i).toNat)
  case atStart => exact ⟨0, Nat.zero_le _, rfl, HI⟩
  case round =>
    obtain ⟨k, hk, rfl, HD⟩ := hrel
    by_cases hlt : k < zs.length
    · obtain ⟨b, off, z, rfl, hb, hc, HZ⟩ := hr.at_ hlt
      by_cases h3 : z < 2
      · go_wp2
        go_ret
        exact ⟨rfl, Below.refl _ _⟩
      · by_cases h4 : t ≤ z
        · have h5 : 2 ≤ z := by omega
          go_wp2
          go_ret
          exact ⟨rfl, Below.refl _ _⟩
        · have h5 : 2 ≤ z := by omega
          have h6 : z < t := by omega
          have HD' : Hid (ins t (zs.drop (k + 1)) = false) := by
            have := HD.out
            rw [drop_at zs HZ.out, ins_cons] at this
            exact Lib.hid (by simpa [h5, h6] using this)
          go_wp2
          go_round
          case rel => exact ⟨k + 1, by omega, by go_num, HD'⟩
          case measure => simp [intOf]; omega
    · exfalso
      have := HD.out
      rw [List.drop_eq_nil_of_le (by omega)] at this
      simp [ins] at this

theorem ints_of_ins {t : Int} {zs : List Int} (h2 : t ≤ 8192) (h : ∀ z ∈ zs, 2 ≤ z ∧ z < t) : Ints zs := fun z hz => by
  have := h z hz
  omega

set_option maxRecDepth 100000 in
theorem check_in (t : Int) (A : Option Addr) (c : Nat) (zs : List Int) (ht : totS t = true) (hi : ins t zs = true) (hl : zs.length ≤ 17592200000000) (w : World) (hr : RdI w A zs) :
    Calls Tryz.prog 43 #[.int .i64 t, .slice A zs.length c] w fun e w' => e = .returned (.int .i64 (chk t zs)) ∧ Below w.heap.size w w' := by
  obtain ⟨h1, h2⟩ := tot_iff.1 ht
  have HT := Lib.hid (show (totS t && ins t zs) = true by rw [ht, hi]; rfl)
  have HI := Lib.hid (ins_iff.1 hi)
  have HM := Lib.hid (fun n ty hn => met_one A zs c w n ty hn hl (ints_of_ins h2 (ins_iff.1 hi)) hr)
  clear ht hi
  go_enter Tryz.func43, Tryz.ntmps43
  go_wp2
  go_loop [15] (fun i => ∃ k : Nat, k ≤ zs.length ∧ i = .int .i64 k) (fun i => zs.length - (intOf i).toNat)
  case atStart => exact ⟨0, Nat.zero_le _, rfl⟩
  case round =>
    obtain ⟨k, hk, rfl⟩ := hrel
    by_cases hlt : k < zs.length
    · obtain ⟨b, off, z, rfl, hb, hc, HZ⟩ := hr.at_ hlt
      obtain ⟨h5, h6⟩ := HI.out z (List.mem_of_getElem? HZ.out)
      go_wp2
      go_round
      case rel => exact ⟨k + 1, by omega, by go_num⟩
      case measure => simp [intOf]; omega
    · go_wp2_with fail
      refine (HM.out _ _ rfl).mono ?_
      rintro e w1 ⟨m, D, rfl, HO, HS, hB⟩
      obtain ⟨hs1, hs2, hs3⟩ := size_set HO.out HS.out
      by_cases hn : zs.Nodup
      · have hd : decide (Maps.size D < zs.length) = false := decide_eq_false (by have := hs2 hn; omega)
        have HN := Lib.hid (chk_0 HT.out hn)
        clear hs1 hs2 hs3 hn
        go_wp2_with (at_len; refine wpList_len_own _ rfl _ 136 rfl 3 173 Tryz.underlying136 (unitElem (H := Unit)) (w.heap.size + 1) m D rfl HO.out ?_)
        go_ret
        exact ⟨by rw [HN.out]; rfl, hB⟩
      · have hd : decide (Maps.size D < zs.length) = true := decide_eq_true (hs3 hn)
        have HN := Lib.hid (chk_6 HT.out hn)
        clear hs1 hs2 hs3 hn
        go_wp2_with (at_len; refine wpList_len_own _ rfl _ 136 rfl 3 173 Tryz.underlying136 (unitElem (H := Unit)) (w.heap.size + 1) m D rfl HO.out ?_)
        go_ret
        exact ⟨by rw [HN.out]; rfl, hB⟩

theorem spaceCheck_any (t : Int) (A : Option Addr) (c : Nat) (zs : List Int) (hl : zs.length ≤ 17592200000000) (w : World) (hr : RdI w A zs) :
    Calls Tryz.prog 43 #[.int .i64 t, .slice A zs.length c] w fun e w' => e = .returned (.int .i64 (chk t zs)) ∧ Below w.heap.size w w' := by
  rcases ht : totS t with _ | _
  · rw [chk_4 (by rw [ht]; rfl)]
    exact check_tot t A c zs ht w
  · rcases hi : ins t zs with _ | _
    · rw [chk_4 (by rw [ht, hi]; rfl)]
      exact check_out t A c zs ht hi hl w hr
    · exact check_in t A c zs ht hi hl w hr

end Go.Proofs.YtfeeejigedndcaaGreat

namespace Go.Proofs.YtfeeejigedndcaaGreat
open Go.ChangeShapes Go.WideShapes Go.ChangeAt Go.RowKit Go.Maps
set_option maxRecDepth 100000

/-- Numbers, and an error. -/
abbrev ansI (A : Option Addr) (n c : Nat) (e : Int) : Value := .tuple #[.slice A n c, .int .i64 e]

theorem run_makeMap_hint {P : Program} {t k e : TypeId} (ht : P.underlying t = some (.map k e)) (n : Int) (w : World) : (Instr.makeMap t (some (.int .i64 n))).run P w = .ok (.map (some w.heap.size)) (w.alloc (.map #[] 0)) := by
  simp [Instr.makeMap, run_underlying ht, asInt, asIntOf, Result.andThen]

theorem free_no (t : Int) (A : Option Addr) (c : Nat) (zs : List Int) (hl : zs.length ≤ 17592186044416) (hn : chk t zs ≠ 0) (w : World) (hr : RdI w A zs) :
    Calls Tryz.prog 74 #[.int .i64 t, .slice A zs.length c] w fun e w' => e = .returned (ansI none 0 0 (chk t zs)) ∧ Below w.heap.size w w' := by
  have HC := Lib.hid (spaceCheck_any t A c zs (by omega) w hr)
  generalize chk t zs = r at *
  have hr1 : (r == 0) = false := by simpa using hn
  have hr2 : (r != 0) = true := by simpa using hn
  go_enter Tryz.func74, Tryz.ntmps74
  go_wp2_with (go_at_call 43; refine HC.out.mono ?_; rintro e w1 ⟨rfl, hB⟩)
  go_ret2
  exact ⟨rfl, hB⟩

theorem upto_take_succ {t : Int} {k : Nat} (h : (k : Int) + 2 < t) : (upto t).take (k + 1) = (upto t).take k ++ [(k : Int) + 2] := by
  have hlt : k < (t - 2).toNat := by omega
  have : (upto t)[k]? = some ((k : Int) + 2) := by simp [upto, hlt]
  rw [List.take_add_one, this]
  rfl

/-- What is left when these are struck. -/
def less (S T : List Int) : List Int := S.filter fun z => !T.contains z
theorem less_nil (S : List Int) : less S [] = S := by simp [less, List.filter_eq_self]
theorem less_snoc (S T : List Int) (z : Int) : ∀ x, x ∈ (less S T).filter (fun x => decide (x ≠ z)) ↔ x ∈ less S (T ++ [z]) := fun x => by
  simp only [less, List.mem_filter, decide_eq_true_eq, Bool.not_eq_true', List.contains_eq_mem, decide_eq_false_iff_not, List.mem_append, List.mem_singleton]
  constructor
  · rintro ⟨⟨h1, h2⟩, h3⟩; exact ⟨h1, fun h => h.elim h2 h3⟩
  · rintro ⟨h1, h2⟩; exact ⟨⟨h1, fun h => h2 (.inl h)⟩, fun h => h2 (.inr h)⟩

set_option maxRecDepth 100000 in
set_option maxHeartbeats 1000000 in
theorem free_ok (t : Int) (A : Option Addr) (c : Nat) (zs : List Int) (hl : zs.length ≤ 17592186044416) (hn : chk t zs = 0) (w : World) (hr : RdI w A zs) :
    Calls Tryz.prog 74 #[.int .i64 t, .slice A zs.length c] w fun e w' => ∃ (B : Option Addr) (d : Nat), e = .returned (ansI B (freeL t zs).length d 0) ∧ (freeL t zs).length ≤ d ∧ Hid (B = none → d = 0) ∧ Hid (RdI w' B (freeL t zs)) ∧ Below w.heap.size w w' := by
  have HC := Lib.hid (hn ▸ spaceCheck_any t A c zs (by omega) w hr)
  obtain ⟨⟨h1, h2⟩, hin, _⟩ := chk_ok.1 hn
  have HI := Lib.hid (ints_of_ins h2 hin)
  have HR := Lib.hid hr
  clear hn hr hin
  have hmm := fun W => run_makeMap_hint (P := Tryz.prog) Tryz.underlying136 t W
  go_enter Tryz.func74, Tryz.ntmps74
  go_wp2_with (go_at_call 43; refine HC.out.mono ?_; rintro e w1 ⟨rfl, hB1⟩)
  go_loopw [8] (fun i wr => ∃ (k m : Nat) (D : Dz), (k : Int) + 2 ≤ t ∧ i = .int .i64 ((k : Int) + 2) ∧ m ≤ k ∧ Hid (OwnS wr w1.heap.size m D) ∧ Hid (SetIs D ((upto t).take k)) ∧ Below w.heap.size w wr ∧ w1.heap.size < wr.heap.size) (fun i _ => (t - intOf i).toNat)
  case atStart =>
    have hs := hB1.size
    exact ⟨0, 0, .map [], by omega, rfl, Nat.le_refl _, Lib.hid (World.ownsMap_made _ _ _ _), Lib.hid (by simpa using SetIs.empty), hB1.alloc hs _, by simp⟩
  case round =>
    obtain ⟨k, m, D, hk, rfl, hm, HO, HS, hB, hs1⟩ := hrel
    by_cases hlt : (k : Int) + 2 < t
    · go_wp2_with (at_mapUpdate; refine wpList_mapUpdate_own _ rfl _ _ _ 136 rfl 3 173 keyed Tryz.underlying136 (unitElem (H := Unit)) w1.heap.size m D rfl HO.out (by unfold maxLen; omega) _ _ _ rfl rfl (key_int (by omega)) (.agg []) [] unitElem_mk ?_; intro w2 hown2 hgrow2)
      go_roundw
      case rel =>
        refine ⟨k + 1, m + 1, _, by omega, by go_num, by omega, Lib.hid hown2, Lib.hid ?_, hB.grown hgrow2 hB.size (fun i hi => by cases hi; exact hB1.size), by have := hgrow2.size; omega⟩
        rw [upto_take_succ hlt]
        exact HS.out.put _ _
      case measure => simp [intOf]; omega
    · have hkt : (upto t).take k = upto t := List.take_of_length_le (by rw [length_upto]; omega)
      rw [hkt] at HS
      have hm' : m ≤ 8192 := by omega
      have hbs := hB1.size
      clear hkt hm hk hmm
      go_wp2
      go_loopw [29] (fun i wr' => ∃ (j : Nat) (D' : Dz), j ≤ zs.length ∧ i = .int .i64 j ∧ Hid (OwnS wr' w1.heap.size m D') ∧ Hid (SetIs D' (less (upto t) (zs.take j))) ∧ Below w.heap.size w wr') (fun i _ => zs.length - (intOf i).toNat)
      case atStart => exact ⟨0, D, Nat.zero_le _, rfl, HO, Lib.hid (by rw [List.take_zero, less_nil]; exact HS.out), hB⟩
      case round =>
        obtain ⟨j, D', hj, rfl, HO', HS', hB'⟩ := hrel
        by_cases hlt' : j < zs.length
        · obtain ⟨b', off', z, rfl, hb', hc', HZ⟩ := RdI.at_ (RdI.below HR.out hB') hlt'
          have hz := HI.out z (List.mem_of_getElem? HZ.out)
          go_wp2_with (at_delete; refine wpList_delete_own _ rfl _ _ 136 3 rfl 173 keyed Tryz.underlying136 (unitElem (H := Unit)) w1.heap.size m D' rfl HO'.out _ _ rfl (key_int hz) ?_; intro w2 hown2 hturn2)
          go_roundw
          case rel =>
            refine ⟨j + 1, _, by omega, by go_num, Lib.hid hown2, Lib.hid ?_, hB'.grown hturn2.grown hB'.size (fun i hi => by cases hi; exact hbs)⟩
            rw [take_at HZ.out]
            exact (HS'.out.del z).of_mem (less_snoc _ _ _)
          case measure => simp [intOf]; omega
        · obtain rfl : j = zs.length := by omega
          rw [List.take_length] at HS'
          go_wp2_with (go_at_call 95; refine (rising_any w1.heap.size m D' _ _ HO'.out HS'.out (Nat.le_trans (length_free_le t zs) (by omega))).mono ?_; rintro e w3 ⟨B, d, L, rfl, HL, hd, HD0, HL', hB3⟩)
          have hLe : L = freeL t zs := HL.out.1.eq (rise_free t zs) HL.out.2.1
          subst hLe
          go_ret2
          exact ⟨B, d, rfl, hd, HD0, HL', hB'.trans (hB3.mono hB'.size)⟩

end Go.Proofs.YtfeeejigedndcaaGreat
