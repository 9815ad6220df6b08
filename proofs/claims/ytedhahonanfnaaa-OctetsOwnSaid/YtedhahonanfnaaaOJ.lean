/-
  Cut answers the first octets and the rest, each in new memory. Conditions: the place lies in the list; at most 2^48 octets.
-/
import Derived.Test.YtedhahonanfnaaaON
import Derived.Deep.RegionWith
import Derived.WalkSpells
namespace Go.Proofs.Ytedhahonanfnaaa
open Go.ChangeShapes Go.WideShapes Go.ChangeAt Go.RowKit
set_option maxRecDepth 100000

/-- Join of one list. -/
theorem join1 (A : Option Addr) (zs : List Int) (k c g : Nat) (hk : zs.length = k) (hl : k ≤ 281474976710656) (w : World) (hc : w.cell? ⟨g, 0, none⟩ = some (.slice A k c)) (hr : RdB w A zs) :
    Calls Try.prog 11 #[.slice (some ⟨g, 0, none⟩) 1 1] w fun e w' => ∃ v, e = .returned v ∧ w'.ownsRow w.heap.size 5 1 v k (zs.map (Value.int .u8)) ∧ Below w.heap.size w w' := by
  subst hk
  have hcat : cat [⟨A, zs, c⟩] = zs := by simp [cat]
  have := callsIn_wide.1 (join_in (some ⟨g, 0, none⟩) 1 [⟨A, zs, c⟩] (by simp) w (fun _ => ⟨g, 0, rfl, ?_, fun j u hu => ?_⟩) (fun p hp => ?_) (by unfold tot; rw [hcat]; exact hl))
  · rw [hcat] at this
    exact this
  · rcases Nat.lt_or_ge g w.heap.size with h | h
    · exact h
    · simp [World.cell?, Array.getElem?_eq_none h] at hc
  · rcases j with _ | j
    · simp at hu
      subst hu
      exact hc
    · simp at hu
  · simp at hp
    subst hp
    exact hr

set_option maxHeartbeats 1000000 in
theorem cut_any (A : Option Addr) (zs : List Int) (c n : Nat) (hl : zs.length ≤ 281474976710656) (hn : n ≤ zs.length) (hc : zs.length ≤ c) (w : World) (hr : RdB w A zs) :
    Calls Try.prog 12 #[.slice A zs.length c, .int .i64 n] w fun e w' => ∃ v1 v2, e = .returned (.tuple #[v1, v2, .int .i64 0]) ∧ w'.ownsRow w.heap.size 5 1 v1 n ((zs.take n).map (Value.int .u8)) ∧ w'.ownsRow w.heap.size 5 1 v2 (zs.length - n) ((zs.drop n).map (Value.int .u8)) ∧ Below w.heap.size w w' := by
  have hr1 := rd_take hr n
  have hr2 := rd_drop hr n c hc
  obtain ⟨A2, hA2⟩ : ∃ A2, (if c = n then A else Option.map (fun x => x.add n) A) = A2 := ⟨_, rfl⟩
  rw [hA2] at hr2
  have hk1 : (zs.take n).length = n := by simp; omega
  have hk2 : (zs.drop n).length = zs.length - n := by simp
  have HK1 := Lib.hid hk1
  have HK2 := Lib.hid hk2
  clear hk1 hk2
  have HR1 := Lib.hid hr1
  have HR2 := Lib.hid hr2
  clear hr hr1 hr2
  have hnc : n ≤ c := by omega
  have hnd : decide (c < n) = false := by simp; omega
  go_enter Try.func12, Try.ntmps12
  go_wp2_with fail
  go_region_with (first
    | (go_at_call 11; refine (join1 A (zs.take n) n c _ HK1.out (by omega) _ ?_ ?_).mono ?_; (focus (first | (go_simp; done) | (refine (hc1 _ _ ?_).trans ?_ <;> (go_simp; done)) | (refine (hc2 _ _ ?_).trans ?_ <;> (go_simp; done)))); (focus (refine HR1.out.below ?_; (repeat (first | exact Below.refl _ _ | assumption | refine Below.drew ?_ | refine Below.alloc ?_ ?_ _ | (focus omega) | (focus (simp; done)) | (focus (simp; omega)))); done)); rintro e w1 ⟨v1, rfl, ho1, hB1⟩; have gw1 : Below w.heap.size w w1 := (by refine Below.trans ?_ (hB1.mono ?_); (focus ((repeat (first | exact Below.refl _ _ | assumption | refine Below.drew ?_ | refine Below.alloc ?_ ?_ _ | (focus omega) | (focus (simp; done)) | (focus (simp; omega)))); done)); (focus (first | omega | (simp; done) | (simp; omega)))); have gs1 := gw1.size; have hc1 : ∀ o b, _ → _ := fun o b h => hB1.cell (p := ⟨b, o, none⟩) h)
    | (go_at_call 11; refine (join1 A2 (zs.drop n) (zs.length - n) (c - n) _ HK2.out (by omega) _ ?_ ?_).mono ?_; (focus (first | (go_simp; done) | (refine (hc1 _ _ ?_).trans ?_ <;> (go_simp; done)) | (refine (hc2 _ _ ?_).trans ?_ <;> (go_simp; done)))); (focus (refine HR2.out.below ?_; (repeat (first | exact Below.refl _ _ | assumption | refine Below.drew ?_ | refine Below.alloc ?_ ?_ _ | (focus omega) | (focus (simp; done)) | (focus (simp; omega)))); done)); rintro e w2 ⟨v2, rfl, ho2, hB2⟩; have gw2 : Below w.heap.size w w2 := (by refine Below.trans ?_ (hB2.mono ?_); (focus ((repeat (first | exact Below.refl _ _ | assumption | refine Below.drew ?_ | refine Below.alloc ?_ ?_ _ | (focus omega) | (focus (simp; done)) | (focus (simp; omega)))); done)); (focus (first | omega | (simp; done) | (simp; omega)))); have gs2 := gw2.size; have hc2 : ∀ o b, _ → _ := fun o b h => hB2.cell (p := ⟨b, o, none⟩) h))
  all_goals go_wp2
  all_goals go_ret3
  all_goals refine ⟨v1, v2, rfl, ?_, ?_, gw2⟩
  all_goals first
    | (refine own_below ho1 hB2 ?_; first | (simp; done) | (simp; omega))
    | (refine own_below ho1 (((Below.refl _ w1).alloc (Nat.le_refl _) _).trans (hB2.mono (by simp))) ?_; first | (simp; done) | (simp; omega))
    | (refine own_below ho2 (Below.refl _ _) ?_; first | omega | (simp; done) | (simp; omega))

end Go.Proofs.Ytedhahonanfnaaa
