/-
 slices.IndexFunc over structs, as lists in memory: which element is found. No conditions.
-/
import Derived.Test.YtimmcmjipmkebaaGreatVSL
import Derived.Shelf.SlicesQ.IndexFunc
namespace Go.Proofs.YtimmcmjipmkebaaGreat
open Go.ChangeShapes Go.WideShapes Go.ChangeAt Go.RowKit Go.Shelf
set_option maxRecDepth 100000
theorem idx_cases {α : Type} [Inhabited α] (p : α → Bool) (l : List α) : (∃ (j : Nat) (x : α), l[j]? = some x ∧ p x = true ∧ (∀ y ∈ l.take j, p y = false) ∧ Lib.idxBy (fun _ y => p y) l default = (j : Int)) ∨ ((∀ x ∈ l, p x = false) ∧ Lib.idxBy (fun _ y => p y) l default = -1) := by
 suffices H : ∀ (l : List α) (i : Nat), (∃ (j : Nat) (x : α), l[j]? = some x ∧ p x = true ∧ (∀ y ∈ l.take j, p y = false) ∧ Lib.idxByFrom (fun _ y => p y) default l i = ((i + j : Nat) : Int)) ∨ ((∀ x ∈ l, p x = false) ∧ Lib.idxByFrom (fun _ y => p y) default l i = -1) by
  rcases H l 0 with ⟨j, x, h1, h2, h3, h4⟩ | h
  · exact .inl ⟨j, x, h1, h2, h3, by rw [Nat.zero_add] at h4; exact h4⟩
  · exact .inr h
 intro l
 induction l with
 | nil => exact fun i => .inr ⟨by simp, rfl⟩
 | cons z l ih =>
  intro i
  unfold Lib.idxByFrom
  rcases hz : p z with _ | _
  · rcases ih (i + 1) with ⟨j, x, h1, h2, h3, h4⟩ | ⟨h1, h2⟩
    · refine .inl ⟨j + 1, x, by simpa using h1, h2, fun y hy => ?_, ?_⟩
      · rw [List.take_succ_cons] at hy
        rcases List.mem_cons.1 hy with rfl | hy
        · exact hz
        · exact h3 y hy
      · rw [if_neg Bool.false_ne_true, h4]
        congr 1
        omega
    · refine .inr ⟨fun y hy => ?_, ?_⟩
      · rcases List.mem_cons.1 hy with rfl | hy
        · exact hz
        · exact h1 y hy
      · rw [if_neg Bool.false_ne_true, h2]
  · exact .inl ⟨0, z, rfl, hz, by simp, by rw [if_pos rfl]; rfl⟩
section
variable {P : Program} {ρ : Ren}
theorem indexFn_nil (L : SlLaysH0.n6 P ρ) (a : Option Addr) (c : Nat) (fv : Value) (w : World) :
 Calls P (ρ.f 6) #[.slice a 0 c, fv] w fun e w' => e = .returned (.int .i64 (-1)) ∧ w' = w := by
 have mixed := L.mixed; have t0 := L.t0; have a0 := L.a0; have z0 := L.z0; have v0 := L.v0; have t3 := L.t3; have a3 := L.a3; have z3 := L.z3; have v3 := L.v3; have t4 := L.t4; have a4 := L.a4; have z4 := L.z4; have v4 := L.v4; have t22 := L.t22; have a22 := L.a22; have z22 := L.z22; have v22 := L.v22; have t25 := L.t25; have a25 := L.a25; have z25 := L.z25; have v25 := L.v25
 obtain ⟨_, _, FG⟩ := L.f6
 go_enter FG, SlBodyH.n6_ntmps ρ
 go_wp2
 go_loopg [5, 8] 0 (fun _ _ s8 wr => s8 = .int .i64 0 ∧ wr = w)
 case atStart => exact ⟨rfl, rfl⟩
 case round =>
  obtain ⟨rfl, rfl⟩ := hrel
  go_wp2
  go_ret
  exact ⟨rfl, rfl⟩
theorem indexFn {α : Type} [Inhabited α] (L : SlLaysH0.n6 P ρ) (k : Nat) (aE : ∀ w, (isAgg (ρ.t 23)).run P w = .ok true w) (zE : ∀ w, (Go.sizeOf (ρ.t 23)).run P w = .ok k w) (enc : α → List Value) (hk : ∀ x, (enc x).length = k) (hk0 : 0 < k)
 (p : α → Bool) (g : Nat) (lb : Array Value) (eg : ∀ args w, (callFunc g args).run P w = .ok (.enter g args) w) (A : Option Addr) (c n : Nat) (l : List α) (hn : l.length = n) (w : World)
 (hp : ∀ (W : World) (x : α), Below w.heap.size w W → Calls P g (#[.agg (enc x).toArray] ++ lb) W fun e w' => e = .returned (.bool (p x)) ∧ Below W.heap.size W w') (hl : n ≤ 9223372036854775807) (hr : Rd w A (l.flatMap enc)) :
 Calls P (ρ.f 6) #[.slice A n c, .func (.func g) #[] lb] w fun e w' => Below w.heap.size w w' ∧ ((∃ (j : Nat) (x : α), l[j]? = some x ∧ p x = true ∧ (∀ y ∈ l.take j, p y = false) ∧ e = .returned (.int .i64 j)) ∨ ((∀ x ∈ l, p x = false) ∧ e = .returned (.int .i64 (-1)))) := by
 subst hn
 rcases l with _ | ⟨x0, l0⟩
 · refine (indexFn_nil L A c _ w).mono ?_
   rintro e w' ⟨rfl, rfl⟩
   exact ⟨Below.refl _ _, .inr ⟨by simp, rfl⟩⟩
 · obtain ⟨b, off, rfl, hb, _⟩ := Rd.elem hk hk0 hr (k := 0) (x := x0) rfl
   generalize x0 :: l0 = l at *
   refine (AnyQ.slices_IndexFunc L k aE zE enc hk p g lb eg b off l.length c l w (fun W x hB => (hp W x hB).mono fun _ _ h => ⟨h.1, hB.trans (h.2.mono hB.size)⟩) (Nat.le_refl _) hl hb (fun j hj i v hi => ?_)).mono ?_
   · have hx : l[j]? = some l[j]! := by rw [getElem!_pos l j hj]; exact qZa hj
     obtain ⟨b', off', e', _, hc⟩ := Rd.elem hk hk0 hr hx
     injection e' with e'
     injection e' with e1 e2 _
     subst e1 e2
     have := hc i v hi
     rwa [show off + (j * k + i) = off + j * k + i by omega] at this
   · rintro e w' ⟨rfl, hB⟩
     refine ⟨hB, ?_⟩
     rw [List.take_of_length_le (Nat.le_refl _)]
     rcases idx_cases p l with ⟨j, x, h1, h2, h3, h4⟩ | ⟨h1, h2⟩
     · exact .inl ⟨j, x, h1, h2, h3, by rw [h4]⟩
     · exact .inr ⟨h1, by rw [h2]⟩
end
def findI {α : Type} (p : α → Bool) (l : List α) : Int := match l.findIdx? p with | none => -1 | some i => i
theorem findI_none {α : Type} {p : α → Bool} {l : List α} (h : ∀ x ∈ l, p x = false) : findI p l = -1 := by
 unfold findI
 rw [List.findIdx?_eq_none_iff.2 h]
theorem findI_some {α : Type} {p : α → Bool} {l : List α} {j : Nat} {x : α} (hx : l[j]? = some x) (hp : p x = true) (hn : ∀ y ∈ l.take j, p y = false) : findI p l = j := by
 unfold findI
 have : l.findIdx? p = some j := by
  rw [List.findIdx?_eq_some_iff_getElem]
  obtain ⟨h, e⟩ := List.getElem?_eq_some_iff.1 hx
  refine ⟨h, by rw [e]; exact hp, fun i hi => ?_⟩
  rw [Bool.not_eq_true]
  exact hn _ (List.mem_take_iff_getElem.2 ⟨i, by omega, rfl⟩)
 rw [this]
theorem findI_ways {α : Type} (p : α → Bool) (l : List α) : (findI p l = -1 ∧ ∀ x ∈ l, p x = false) ∨ ∃ (j : Nat) (x : α), findI p l = j ∧ l[j]? = some x ∧ p x = true ∧ ∀ y ∈ l.take j, p y = false := by
 rcases h : l.findIdx? p with _ | j
 · exact .inl ⟨by unfold findI; rw [h], List.findIdx?_eq_none_iff.1 h⟩
 · obtain ⟨hj, h1, h2⟩ := List.findIdx?_eq_some_iff_getElem.1 h
   refine .inr ⟨j, l[j], by unfold findI; rw [h], qZa hj, h1, fun y hy => ?_⟩
   obtain ⟨i, hi, rfl⟩ := List.mem_take_iff_getElem.1 hy
   rw [← Bool.not_eq_true]
   exact h2 i (by omega)
theorem findI_any {α : Type} (p : α → Bool) (l : List α) : decide (0 ≤ findI p l) = l.any p := by
 rcases findI_ways p l with ⟨h, hn⟩ | ⟨j, x, h, hx, hp, _⟩
 · rw [h]
   symm
   rw [show decide ((0 : Int) ≤ -1) = false from rfl, List.any_eq_false]
   intro x hx
   rw [hn x hx]
   exact Bool.false_ne_true
 · rw [h]
   symm
   rw [show decide ((0 : Int) ≤ (j : Int)) = true from decide_eq_true (by omega), List.any_eq_true]
   exact ⟨x, mG hx, hp⟩
section
variable {P : Program} {ρ : Ren}
theorem indexMem {α : Type} (L : SlLaysH0.n6 P ρ) (k : Nat) (aE : ∀ w, (isAgg (ρ.t 23)).run P w = .ok true w) (zE : ∀ w, (Go.sizeOf (ρ.t 23)).run P w = .ok k w) (enc : α → List Value) (hk : ∀ x, (enc x).length = k) (hk0 : 0 < k)
 (p : α → Bool) (g : Nat) (lb : Array Value) (eg : ∀ args w, (callFunc g args).run P w = .ok (.enter g args) w) (A : Option Addr) (c n : Nat) (l : List α) (hn : l.length = n) (w : World)
 (hp : ∀ (W : World) (x : α), x ∈ l → Below w.heap.size w W → Calls P g (#[.agg (enc x).toArray] ++ lb) W fun e w' => e = .returned (.bool (p x)) ∧ Below W.heap.size W w') (hl : n ≤ 9223372036854775807) (hr : Rd w A (l.flatMap enc)) :
 Calls P (ρ.f 6) #[.slice A n c, .func (.func g) #[] lb] w fun e w' => e = .returned (.int .i64 (findI p l)) ∧ Below w.heap.size w w' := by
 subst hn
 rcases l with _ | ⟨x0, l0⟩
 · refine (indexFn_nil L A c _ w).mono ?_
   rintro e w' ⟨rfl, rfl⟩
   exact ⟨rfl, Below.refl _ _⟩
 · have x0m : x0 ∈ x0 :: l0 := by simp
   generalize x0 :: l0 = l at *
   haveI : Inhabited {x // x ∈ l} := ⟨⟨x0, x0m⟩⟩
   have hfl : l.attach.flatMap (fun x => enc x.1) = l.flatMap enc := by
    rw [List.flatMap_def, List.flatMap_def, show (fun x : {x // x ∈ l} => enc x.1) = enc ∘ Subtype.val from rfl, ← List.map_map, List.attach_map_subtype_val]
   have := indexFn L k aE zE (fun x : {x // x ∈ l} => enc x.1) (fun x => hk x.1) hk0 (fun x => p x.1) g lb eg A c l.length l.attach (by simp) w (fun W x hB => hp W x.1 x.2 hB) hl (by rw [hfl]; exact hr)
   refine this.mono ?_
   rintro e w' ⟨hB, ⟨j, x, hx, h1, h2, rfl⟩ | ⟨h1, rfl⟩⟩
   · have hx' : l[j]? = some x.1 := by
      have := congrArg (Option.map Subtype.val) hx
      rwa [← List.getElem?_map, List.attach_map_subtype_val] at this
     have hq : findI p l = j := findI_some hx' h1 fun y hy => by
      obtain ⟨i, hi, rfl⟩ := List.mem_take_iff_getElem.1 hy
      have hil : i < l.length := by omega
      exact h2 ⟨l[i], List.getElem_mem hil⟩ (List.mem_take_iff_getElem.2 ⟨i, by simp; omega, by simp⟩)
     exact ⟨by rw [hq], hB⟩
   · have hq : findI p l = -1 := findI_none fun y hy => h1 ⟨y, hy⟩ (by simp)
     exact ⟨by rw [hq], hB⟩
end
end Go.Proofs.YtimmcmjipmkebaaGreat
