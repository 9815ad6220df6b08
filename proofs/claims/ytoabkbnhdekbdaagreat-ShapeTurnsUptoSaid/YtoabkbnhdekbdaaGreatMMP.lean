/-
  Maps of properties by their names; the names of one, rising. No conditions.
-/
import Derived.Test.YtoabkbnhdekbdaaGreatMEM
import Derived.Test.YtoabkbnhdekbdaaGreatLayS
import Derived.StringKeys
import Derived.Maps.OwnSet
namespace Go.Proofs.YtoabkbnhdekbdaaGreat
open Go.ChangeShapes Go.WideShapes Go.ChangeAt Go.RowKit Go.Maps Go.Sort
set_option maxRecDepth 100000
abbrev Dh := DataW Value
def heldV (v : Value) : Option (DataW Value × List MemPlace) := some (.held v, [])
abbrev bKey (s : ByteArray) : Lit := .string s.data.toList
theorem keyedT : Keyed Tryz.prog 9 := string_keyed Tryz.underlying9
theorem keyT {s : ByteArray} (h : s.size ≤ maxLen) : keyOf Tryz.prog 9 (.string s) = some (bKey s) := WideMaps.keyOf_string_mk Tryz.underlying9 h
theorem bKey_inj {a b : ByteArray} (h : bKey a = bKey b) : a = b := by
  injection h with h
  exact bs_inj h
abbrev prZ : Value := .agg #[.string ⟨#[]⟩, .string ⟨#[]⟩]
abbrev prAt (m : List Pr) (k : ByteArray) : Value := match getP m k with | some v => prV (k, v) | none => prZ
def MapPr (D : Dh) (m : List Pr) : Prop := IsMap D ∧ ∀ k : ByteArray, Maps.has D (bKey k) = (getP m k).isSome ∧ D.atKey (bKey k) (.held prZ) = .held (prAt m k)
theorem MapPr.empty : MapPr (.map []) [] := ⟨isMap_empty, fun _ => ⟨rfl, rfl⟩⟩
theorem MapPr.put {D : Dh} {m : List Pr} (h : MapPr D m) (hr : RisP m) (p : Pr) : MapPr (D.put (bKey p.1) (.held (prV p))) (putP m p) := by
  refine ⟨h.1.put _ _, fun k => ?_⟩
  unfold prAt
  rw [getP_put hr]
  by_cases e : p.1 = k
  · subst e
    rw [if_pos rfl, has_put_same h.1 (show WideAt.IsKeyLit (bKey p.1) from trivial), atKey_put_same h.1 (show WideAt.IsKeyLit (bKey p.1) from trivial)]
    exact ⟨rfl, rfl⟩
  · have hne : bKey k ≠ bKey p.1 := fun h' => e (bKey_inj h').symm
    rw [if_neg e, has_put_other hne, atKey_put_other hne]
    exact h.2 k
theorem mapPr_look {w : World} {mb n : Nat} {D : Dh} {m : List Pr} (h : w.ownsMap Tryz.prog 9 heldV mb n D) (hM : MapPr D m) {k : ByteArray} (hk : k.size ≤ maxLen) :
    (Instr.lookup 182 (.map (some mb)) (.string k) false).run Tryz.prog w = .ok (prAt m k) w := by
  have hz : (zeroValue 105).run Tryz.prog w = .ok prZ w := by kernel_rfl
  obtain ⟨v, ps, hrun, hv⟩ := h.lookup keyedT Tryz.underlying182 hz (zd := .held prZ) (zp := []) rfl (keyT hk)
  have hv' : DataW.held v = D.atKey (bKey k) (.held prZ) := by
    have := congrArg (Option.map Prod.fst) hv
    simpa [heldV] using this
  rw [(hM.2 k).2] at hv'
  injection hv' with hv'
  rw [← hv']
  exact hrun
theorem blt_eq : ∀ x y : List UInt8, Op.bytesLess x y = decide (x < y)
  | [], [] => by simp [Op.bytesLess]
  | _ :: _, [] => by simp [Op.bytesLess]
  | [], _ :: _ => by simp [Op.bytesLess]
  | a :: x, b :: y => by
    rw [Op.bytesLess, blt_eq x y]
    simp only [List.cons_lt_cons_iff]
    by_cases h1 : a < b <;> by_cases h2 : a = b <;> by_cases h3 : x < y <;> simp [h1, h2, h3]
theorem ltK_lt {a b : ByteArray} : ltK a b ↔ bs a < bs b := by
  unfold ltK
  rw [ByteArray.toList_eq, ByteArray.toList_eq, blt_eq, decide_eq_true_eq]
  rfl
def namesP (m : List Pr) : List (List UInt8) := m.map fun p => bs p.1
theorem namesP_nodup {m : List Pr} (h : RisP m) : (namesP m).Nodup := by
  unfold namesP
  exact List.pairwise_map.2 (h.imp fun {a b} hab e => ltK_ne hab (bs_inj e))
theorem getP_some_iff {m : List Pr} {k : ByteArray} : (getP m k).isSome = true ↔ bs k ∈ namesP m := by
  unfold namesP
  rw [List.mem_map, Option.isSome_iff_ne_none, ne_eq, getP_none]
  constructor
  · intro h
    apply Classical.byContradiction
    intro h2
    exact h fun p hp e => h2 ⟨p, hp, by rw [e]⟩
  · rintro ⟨p, hp, e⟩ h
    exact h p hp (bs_inj e)
theorem mapPr_keys {w : World} {mb n : Nat} {D : Dh} {m : List Pr} (h : w.ownsMap Tryz.prog 9 heldV mb n D) (hM : MapPr D m) (hr : RisP m) : (namesP m).Perm (strKeys D) ∧ Maps.size D = m.length := by
  obtain ⟨es, hD, hpw, _⟩ := h.entries keyedT
  obtain ⟨es', hD', hko⟩ := h.keysOf
  obtain rfl : es = es' := by rw [hD] at hD'; simpa using hD'
  subst hD
  have hp := perm_strKeys hpw (fun p hp => by obtain ⟨v, hv⟩ := hko p hp; obtain ⟨x, _, hx, _⟩ := Maps.keyOf_str Tryz.underlying9 hv; exact ⟨x, hx⟩) (namesP_nodup hr) (fun x => by
    have h1 := (hM.2 (ofL x)).1
    have e : bKey (ofL x) = .string x := by show Lit.string (bs (ofL x)) = _; rw [bs_ofL]
    rw [e] at h1
    rw [h1, getP_some_iff, bs_ofL])
  refine ⟨hp, ?_⟩
  have := hp.length_eq
  rw [show (namesP m).length = m.length from List.length_map ..] at this
  rw [this]
  show es.length = (es.map _).length
  simp
theorem sorted_names {m : List Pr} (h : RisP m) {ss : List (List UInt8)} (hp : ss.Perm (namesP m)) : ss.mergeSort (fun x y => decide (x ≤ y)) = namesP m := by
  have tr : ∀ a b c : List UInt8, leB a b = true → leB b c = true → leB a c = true := fun a b c h1 h2 => by simp only [leB, decide_eq_true_eq] at *; exact List.le_trans h1 h2
  have to : ∀ a b : List UInt8, (leB a b || leB b a) = true := fun a b => by simp only [leB, Bool.or_eq_true, decide_eq_true_eq]; exact List.le_total a b
  refine List.Perm.eq_of_pairwise (le := fun a b => leB a b = true) (fun a b _ _ h1 h2 => ?_) (List.pairwise_mergeSort tr to ss) ?_ ((List.mergeSort_perm ss leB).trans hp)
  · simp only [leB, decide_eq_true_eq] at h1 h2
    exact List.le_antisymm h1 h2
  · unfold namesP
    exact List.pairwise_map.2 (h.imp fun {a b} hab => by simp only [leB, decide_eq_true_eq]; exact List.le_of_lt (ltK_lt.1 hab))
theorem keysS_any (mb : Option Nat) (W : World) : Calls Tryz.prog 155 #[.map mb] W fun e w' => e = .returned (.func (.func 188) #[] #[.pointer (some ⟨W.heap.size, 0, none⟩)]) ∧ w' = W.alloc (.cells #[.map mb] 182) :=
  (callsIn_wide (n := 5)).1 (AnyZ.keys_in Tryz.keysS Fence.wide 5 trivial rfl mb W)
theorem sortsS (m : Nat) : AnyZ.SortsIn Tryz.prog Tryz.sortedS_ren Fence.wide m :=
  ⟨fun blk off cap ss W hH hblk hsz => callsIn_wide.2 (AnyM.slices_Sort_string Tryz.sortS blk off cap ss W hH hblk hsz),
   fun p cap W => callsIn_wide.2 (AnyM.slices_Sort_string_none Tryz.sortS p cap W)⟩
set_option maxHeartbeats 1000000 in
theorem sortedS_any {w : World} {mb n : Nat} {D : Dh} {m : List Pr} (hown : w.ownsMap Tryz.prog 9 heldV mb n D) (hM : MapPr D m) (hr : RisP m) (hl : m.length ≤ 4398046511104) :
    Calls Tryz.prog 154 #[.func (.func 188) #[] #[.pointer (some ⟨w.heap.size, 0, none⟩)]] (w.alloc (.cells #[.map (some mb)] 182)) fun e w' => ∃ A c, e = .returned (.slice A m.length c) ∧ Rd w' A (m.map fun p => .string p.1) ∧ Below w.heap.size w w' := by
  obtain ⟨hp, hsz⟩ := mapPr_keys hown hM hr
  have hbl := hown.lt
  have hseq : SeqGives Fence.wide 2 Tryz.prog 188 #[.pointer (some ⟨w.heap.size, 0, none⟩)] encStr (fun ss => ss.Perm (strKeys D)) (Maps.size D) (w.alloc (.cells #[.map (some mb)] 182)) :=
    AnyZ.keys_gives (ρ := Tryz.keysS_ren) { Tryz.keysS with } Fence.wide _ trivial rfl (by omega) w.heap.size mb n D _ (by simp) (by simp) (by
      obtain ⟨es, clock, hb, Ft, hs, hD⟩ := hown
      exact ⟨es, clock, (Below.heap_alloc _ _ mb hbl).trans hb, Ft, hs, hD⟩)
  have cS := AnyZ.sorted_in Tryz.sortedS Fence.wide 5 trivial trivial trivial trivial rfl (by omega) (sortsS _) (enters_of Tryz.func187 (by kernel_rfl) rfl) 188 #[.pointer (some ⟨w.heap.size, 0, none⟩)] trivial (enters_of Tryz.func188 (by kernel_rfl) rfl) _ _ (by rw [hsz]; unfold maxLen; omega) (by rw [hsz]; omega) _ hseq
  refine ((callsIn_wide (n := 5)).1 cS).mono ?_
  rintro e w' ⟨v, ss, rfl, hS, hrow, _, hB⟩
  have hss : ss.Perm (namesP m) := hS.trans hp.symm
  rw [sorted_names hr hss, hss.length_eq, show (namesP m).length = m.length from List.length_map ..] at hrow
  obtain ⟨A, c, rfl, _, _, hrd, _⟩ := ownAny hrow
  refine ⟨A, c, rfl, ?_, ((Below.refl _ w).alloc (Nat.le_refl _) _).trans (hB.mono (by simp))⟩
  have e : (namesP m).map encStr = m.map fun p => Value.string p.1 := by
    unfold namesP
    rw [List.map_map]
    exact List.map_congr_left fun p _ => by show Value.string (ofL (bs p.1)) = _; rw [ofL_bs]
  rw [← e]
  exact hrd.1
end Go.Proofs.YtoabkbnhdekbdaaGreat
