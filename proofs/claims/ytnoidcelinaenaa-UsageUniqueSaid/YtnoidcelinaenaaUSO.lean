/-
  usage: ahead; contents that are met and taken, one by one. Conditions: the lists are as they come in.
-/
import Derived.Test.YtnoidcelinaenaaUSN
import Derived.Test.YtnoidcelinaenaaUSH
namespace Go.Proofs.Ytnoidcelinaenaa
open Go.ChangeShapes Go.WideShapes Go.ChangeAt Go.RowKit
set_option maxRecDepth 100000

/-- What stands ahead of a place. -/
def prevM {α : Type} (L : List α) : Nat → List α
  | 0 => []
  | j + 1 => L[j]?.toList
theorem prevM_map {α β : Type} (f : α → β) (L : List α) (k : Nat) : (prevM L k).map f = prevM (L.map f) k := by
  cases k with
  | zero => rfl
  | succ j =>
    simp only [prevM, List.getElem?_map]
    cases L[j]? <;> rfl

/-- What ahead answers. -/
def AH (g c k : Nat) (A : Option Addr) (n c' : Nat) : Prop := (k = 0 ∧ n = 0) ∨ ∃ j, k = j + 1 ∧ n = 1 ∧ A = some ⟨g, j, none⟩ ∧ c' = c - j

theorem ahead_any (g n c k : Nat) (hn : n ≤ 8796093022208) (hk : k ≤ n) (hc : n ≤ c) (w : World) :
    Calls Try.prog 22 #[.slice (some ⟨g, 0, none⟩) n c, .int .i64 k] w fun e w' => w' = w ∧ ∃ A m c', e = .returned (.slice A m c') ∧ AH g c k A m c' := by
  rcases k with _ | j
  · have h1 : wrap64 (((0 : Nat) : Int) - 1) = -1 := IntWalk.wrap64_in _ (by omega)
    go_enter Try.func22, Try.ntmps22
    go_wp2
    all_goals
      go_ret
      exact ⟨rfl, _, _, _, rfl, .inl ⟨rfl, rfl⟩⟩
  · have h1 : wrap64 (((j + 1 : Nat) : Int) - 1) = (j : Int) := by rw [IntWalk.wrap64_in _ (by omega)]; omega
    have h2 : j + 1 - j = 1 := by omega
    go_enter Try.func22, Try.ntmps22
    go_wp2
    go_ret
    exact ⟨rfl, _, _, _, rfl, .inr ⟨j, rfl, rfl, rfl, rfl⟩⟩

theorem meet_one (F : Nat) (s : Int) (ms : List (Sl Bk)) (hms : ms.length ≤ 8) (A : Option Addr) (c : Nat) (x : Sl Bk) (hl : x.l.length * 24 ≤ 140737488351232) (w : World) (h : Fr F s ms w) (hr : Rd w x.A (bks x.l)) (hA : Rd w A (slC x)) :
    Calls Try.prog 18 #[.func (.func 21) #[.pointer (some ⟨F, 0, none⟩)] #[], .slice A 1 c] w fun e w' => e = .returned (.tuple #[]) ∧ ∃ m : Sl Bk, Fr F s (ms ++ [m]) w' ∧ m.l.Perm x.l ∧ Below F w w' :=
  each_one 21 (enters_of Try.func21 (by kernel_rfl) rfl) _ A c x _ w hA (meet_any F s ms hms x.A x.c x.l hl w h hr)

theorem take_one (F : Nat) (s : Int) (ms : List (Sl Bk)) (hms : ms.length ≤ 8) (A : Option Addr) (c : Nat) (x : Sl Bk) (hl : x.l.length * 24 ≤ 140737488351232) (w : World) (h : Fr F (wrap64 s) ms w) (hr : RdU F w x.A (bks x.l)) (hA : Rd w A (slC x)) :
    Calls Try.prog 18 #[.func (.func 23) #[.pointer (some ⟨F, 0, none⟩)] #[], .slice A 1 c] w fun e w' => e = .returned (.tuple #[]) ∧ Fr F (wrap64 (s + cntB (ms.map Sl.l) x.l)) ms w' ∧ Below F w w' :=
  each_one 23 (enters_of Try.func23 (by kernel_rfl) rfl) _ A c x _ w hA (freshTake_any F s ms hms x.A x.c x.l hl w h hr)

/-- What stands ahead is met. -/
theorem meet_ahead (F : Nat) (s : Int) (g c k n c' : Nat) (A : Option Addr) (L : List (Sl Bk)) (hk : k ≤ L.length) (hb : ∀ x ∈ L, x.l.length * 24 ≤ 140737488351232) (w : World) (h : Fr F s [] w) (hr : ∀ x ∈ L, Rd w x.A (bks x.l)) (hrow : Rd w (some ⟨g, 0, none⟩) (L.flatMap slC)) (ha : AH g c k A n c') :
    Calls Try.prog 18 #[.func (.func 21) #[.pointer (some ⟨F, 0, none⟩)] #[], .slice A n c'] w fun e w' => e = .returned (.tuple #[]) ∧ ∃ ms : List (Sl Bk), Fr F s ms w' ∧ ms.length ≤ 1 ∧ (∀ b, hitB (ms.map Sl.l) b = hitB ((prevM L k).map Sl.l) b) ∧ Below F w w' := by
  rcases ha with ⟨rfl, rfl⟩ | ⟨j, rfl, rfl, rfl, rfl⟩
  · refine (each_none 21 (enters_of Try.func21 (by kernel_rfl) rfl) _ A c' w).mono ?_
    rintro e w' ⟨rfl, rfl⟩
    exact ⟨rfl, [], h, by decide, fun _ => rfl, Below.refl _ _⟩
  · obtain ⟨x, hx⟩ : ∃ x, L[j]? = some x := ⟨L[j]'(by omega), List.getElem?_eq_getElem (by omega)⟩
    have hxm := List.mem_of_getElem? hx
    obtain ⟨b, off, e, hbl, hc⟩ := Rd.elem (cells := slC) (n := 1) (fun _ => rfl) (by decide) hrow hx
    injection e with e
    injection e with e1 e2 _
    subst e1 e2
    refine (meet_one F s [] (by decide) (some ⟨g, j, none⟩) (c - j) x (hb x hxm) w h (hr x hxm) (fun _ => ⟨g, j, rfl, hbl, fun i u hu => by
      have := hc i u hu
      rwa [show 0 + (j * 1 + i) = j + i by omega] at this⟩)).mono ?_
    rintro e w' ⟨rfl, m, hf, hp, hB⟩
    refine ⟨rfl, [m], hf, by simp, fun b => ?_, hB⟩
    simp only [prevM, hx, hitB, List.map_cons, List.map_nil, Option.toList, List.any_cons, List.any_nil]
    rw [memB_perm hp]

end Go.Proofs.Ytnoidcelinaenaa
