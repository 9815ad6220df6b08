/-
 rising over api.Stage. No conditions but those written.
-/
import Derived.Test.YtimmcmjipmkebaaGreatVSX
import Derived.Test.YtimmcmjipmkebaaGreatVTMA
import Derived.BigQuiet
namespace Go.Proofs.YtimmcmjipmkebaaGreat
open Go.ChangeShapes Go.WideShapes Go.ChangeAt Go.RowKit
set_option maxRecDepth 100000
section
variable {P : Program} {ops : Array Oper} {Q : Exit → Act → World → Prop} {md : Region.Mode} {S1 S2 : World → Prop} {l : Nat}
theorem tkD (n : Nat) {i : Nat} {oi : Oper} {v : Value} {fuel : Nat} {listed : Array Bool} {a : Act} {w : World} (hi : ops[i]? = some oi) (hS : S1 w)
 (h : wpAnyL P md ops Q S1 l fuel (listed.setIfInBounds i true) (a.put oi.dst v) w)
 (hs : Region.noSelect ops = true := by kernel_rfl) (hf : Region.free md ops listed i = true := by kernel_rfl) (hr : (Region.ready md ops listed).contains i = true := by kernel_rfl) (ht : inTurnB md ops listed = true := by kernel_rfl) (hl : waitsFor md ops n l i = true := by kernel_rfl) (hil : (i == l) = false := by kernel_rfl) (hun : listed.getD l false = false := by kernel_rfl)
 (hQ : ∀ c a w, Q (.panic c) (a.put oi.dst v) w → Q (.panic c) a w := by exact fun _ _ _ h => h) (hy : YieldsIf P ops S1 oi v a := by refine Or.inl ⟨by rfl, ?_⟩; intro w hSw; (try dsimp only at hSw); obtain ⟨hS1, hS2⟩ := hSw; go_simp; first | with_reducible rfl | (simp only [Tryz.isAgg91, Tryz.sizeOf91, Result.andThen, ↓reduceIte, hS1, hS2]; with_reducible rfl)) : wpAnyL P md ops Q S1 l (fuel + 1) listed a w :=
 wpAnyL_take n hi hs hf hr ht hl hil hun hQ hy hS h
end
set_option linter.unusedSimpArgs false
set_option linter.unusedVariables false
attribute [-simp] Tryz.isAgg91 Tryz.sizeOf91
set_option maxHeartbeats 4000000 in
theorem rising_Stage (key : Mta → ByteArray) (g : Nat) (lb : Array Value) (eg : Enters Tryz.prog g) (A : Option Addr) (c n : Nat) (l : List Mta) (hn : l.length = n) (w : World)
 (hp : ∀ (W : World) (x : Mta), Below w.heap.size w W → Calls Tryz.prog g (#[.agg x.cells.toArray] ++ lb) W fun e w' => e = .returned (.string (key x)) ∧ Below W.heap.size W w') (hl : n ≤ 4398046511104) (hr : Rd w A (l.flatMap Mta.cells)) :
 Calls Tryz.prog 148 #[.slice A n c, .func (.func g) #[] lb] w fun e w' => e = .returned (.bool (riseB (fun a b => ltTx (key a) (key b)) l)) ∧ Below w.heap.size w w' := by
 subst hn
 have eg' : ∀ args w, (callFunc g args).run Tryz.prog w = .ok (.enter g args) w := eg
 obtain ⟨R, hR⟩ : ∃ R, riseB (fun a b => ltTx (key a) (key b)) l = R := ⟨_, rfl⟩
 have HR := zI hR
 rw [hR]
 clear hR
 go_enter Tryz.func148, Tryz.ntmps148
 go_wp2
 go_loopw [5] (fun i W => ∃ k : Nat, 1 ≤ k ∧ k ≤ l.length + 1 ∧ i = .int .i64 k ∧ Hid (∀ j y x, j + 1 < k → l[j]? = some y → l[j + 1]? = some x → (fun a b => ltTx (key a) (key b)) y x = true) ∧ Below w.heap.size w W) (fun i _ => l.length - (intOf i).toNat)
 case atStart => exact ⟨1, by omega, by omega, rfl, zI fun _ _ _ h => absurd h (by omega), Below.refl _ _⟩
 case round =>
  obtain ⟨k, hk1, hk, rfl, HU, hB⟩ := hrel
  by_cases hlt : k < l.length
  · obtain ⟨x, hx⟩ : ∃ x, l[k]? = some x := ⟨l[k], qZa hlt⟩
    obtain ⟨j, hj⟩ : ∃ j : Nat, k = j + 1 := ⟨k - 1, by omega⟩
    have hw : IntKind.i64.wrap ((k : Int) - 1) = (j : Int) := by
     rw [show ((k : Int) - 1) = (j : Int) by omega]
     exact IntWalk.i64_in _ (by omega)
    have hjl : j < l.length := by omega
    obtain ⟨y, hy⟩ : ∃ y, l[j]? = some y := ⟨l[j], qZa hjl⟩
    obtain ⟨b, off, rfl, hb, hc⟩ := load_elem Tryz.prog (n := 21) (fun _ => rfl) (by omega) (hr.below hB) hx
    obtain ⟨b', off', e', _, hd⟩ := load_elem Tryz.prog (n := 21) (fun _ => rfl) (by omega) (hr.below hB) hy
    injection e' with e'
    injection e' with e1 e2 _
    subst e1 e2
    obtain ⟨cx, hcx⟩ : ∃ cx, x.cells.toArray = cx := ⟨_, rfl⟩
    obtain ⟨cy, hcy⟩ : ∃ cy, y.cells.toArray = cy := ⟨_, rfl⟩
    have HC := zI hc
    have HD := zI hd
    rw [hcx] at HC
    rw [hcy] at HD
    have HX := zI hx
    have HY := zI hy
    have HPX := zI (fun W hB => hp W x hB)
    have HPY := zI (fun W hB => hp W y hB)
    rw [hcx] at HPX
    rw [hcy] at HPY
    obtain ⟨kx, hkx⟩ : ∃ kx, key x = kx := ⟨_, rfl⟩
    obtain ⟨ky, hky⟩ : ∃ ky, key y = ky := ⟨_, rfl⟩
    rw [hkx] at HPX
    rw [hky] at HPY
    have HJ := zI hj
    clear hc hd hx hy hp hr hj hcx hcy
    rcases hl : ltTx ky kx with _ | _
    · have hd : (Op.bytesLess kx.toList ky.toList || kx.toList == ky.toList) = true := by
       rw [← Bool.not_eq_false]
       intro h
       have := ltK_iff.2 h
       unfold ltK at this
       unfold ltTx at hl
       rw [this] at hl
       cases hl
      obtain rfl : R = false := by
       rw [← HR.out, ← Bool.not_eq_true]
       intro h
       have := riseB_iff.1 h j y x HY.out (by rw [← HJ.out]; exact HX.out)
       simp only [hkx, hky] at this
       rw [hl] at this
       cases this
      clear HU HX HY hl HR
      go_wp2_with fail
      refine wp_region_noPanic ?_
      refine zcX 13 (fun W => Sem.run Tryz.prog (loadCellsFrom ⟨b, off + k * 21, none⟩ 0 21 #[]) W = .ok cx W ∧ Sem.run Tryz.prog (loadCellsFrom ⟨b, off + j * 21, none⟩ 0 21 #[]) W = .ok cy W) (by kernel_rfl) ⟨HC.out _ (Below.refl _ _).drew, HD.out _ (Below.refl _ _).drew⟩ (fun hHeld => ?_)
      refine tkD 16 (i := 0) (oi := ⟨some 12, _, _, _, _, _⟩) rfl hHeld ?_
      try simp only [zP]
      refine tkD 16 (i := 1) (oi := ⟨some 13, _, _, _, _, _⟩) rfl hHeld ?_
      try simp only [zP]
      refine tkD 16 (i := 2) (oi := ⟨some 14, _, _, _, _, _⟩) rfl hHeld ?_
      try simp only [zP]
      refine tkD 16 (i := 3) (oi := ⟨some 15, _, _, _, _, _⟩) rfl hHeld ?_
      try simp only [zP]
      refine tkD 16 (i := 4) (oi := ⟨some 16, _, _, _, _, _⟩) rfl hHeld ?_
      try simp only [zP]
      refine tkD 16 (i := 6) (oi := ⟨some 18, _, _, _, _, _⟩) rfl hHeld ?_
      try simp only [zP]
      refine tkD 16 (i := 7) (oi := ⟨some 19, _, _, _, _, _⟩) rfl hHeld ?_
      try simp only [zP]
      refine tkD 16 (i := 8) (oi := ⟨some 20, _, _, _, _, _⟩) rfl hHeld ?_
      try simp only [zP]
      refine tkD 16 (i := 9) (oi := ⟨some 21, _, _, _, _, _⟩) rfl hHeld ?_
      try simp only [zP]
      refine tkD 16 (i := 10) (oi := ⟨some 22, _, _, _, _, _⟩) rfl hHeld ?_
      try simp only [zP]
      refine tkD 16 (i := 11) (oi := ⟨some 23, _, _, _, _, _⟩) rfl hHeld ?_
      try simp only [zP]
      clear hHeld
      refine zdZ 16 2 1 [(5, 17), (12, 24)] (fun s v w => match s with
       | 17 => v = .string (kx)
       | 24 => v = .string (ky)
       | _ => True) (fun w w' => Below w.heap.size w w') (by kernel_rfl) (by kernel_rfl) bZh ⟨?_, ?_, trivial⟩ (fun w' hB' => ⟨HC.out _ ((Below.refl _ _).drew.trans hB'), HD.out _ ((Below.refl _ _).drew.trans hB')⟩) ⟨?_, ?_, trivial⟩ ?_
      focus
       intro v w w' h hB
       exact h
      focus
       intro v w w' h hB
       exact h
      focus
       intro vs w2 hBf hFf o ho K hK
       obtain rfl : (⟨some 17, _, _, _, _, _⟩ : Oper) = o := Option.some.inj ho
       clear ho
       (try simp only [fillL, zQ, zP] at hK ⊢)
       go_simp
       refine (HPX.out w2 (hB.trans (((Below.refl _ wr).drew.trans hBf).mono hB.size))).mono ?_
       rintro e w3 ⟨rfl, hB3⟩
       refine hK.out _ _ ⟨rfl, hB3⟩
      focus
       intro vs w2 hBf hFf o ho K hK
       obtain rfl : (⟨some 24, _, _, _, _, _⟩ : Oper) = o := Option.some.inj ho
       clear ho
       (try simp only [fillL, zQ, zP] at hK ⊢)
       go_simp
       refine (HPY.out w2 (hB.trans (((Below.refl _ wr).drew.trans hBf).mono hB.size))).mono ?_
       rintro e w3 ⟨rfl, hB3⟩
       refine hK.out _ _ ⟨rfl, hB3⟩
      intro vs w2 hBf hFf
      (try simp only [fillL, zQ, zP])
      have e1 : vs 17 = .string (kx) := (hFf (5, 17) (by simp))
      have e2 : vs 24 = .string (ky) := (hFf (12, 24) (by simp))
      simp only [e1, e2]
      have hB2 : Below w.heap.size w w2 := hB.trans (((Below.refl _ wr).drew.trans hBf).mono hB.size)
      refine zcZ (i := 13) (o := ⟨some 25, _, _, _, _, _⟩) (by kernel_rfl) rfl (by kernel_rfl) (fun K hK => ?_)
      go_simp
      refine hK.out _ _ ?_
      clear hK K
      try simp only [zP]
      refine zdQ (by kernel_rfl) ?_ _
      refine NoPanic.normal ?_
      go_wp2
      go_ret
      exact ⟨rfl, hB2⟩
    · have hd : (Op.bytesLess kx.toList ky.toList || kx.toList == ky.toList) = false := ltK_iff.1 hl
      have HU' : Hid (∀ j y x, j + 1 < k + 1 → l[j]? = some y → l[j + 1]? = some x → (fun a b => ltTx (key a) (key b)) y x = true) := zI fun j' y' x' h1 h2 h3 => by
       by_cases e : j' + 1 = k
       · obtain rfl : j' = j := by have := HJ.out; omega
         rw [HY.out] at h2
         injection h2 with h2
         rw [e, HX.out] at h3
         injection h3 with h3
         subst h2 h3
         show ltTx (key y) (key x) = true
         rw [hkx, hky]
         exact hl
       · exact HU.out j' y' x' (by omega) h2 h3
      clear HU HX HY hl HR
      go_wp2_with fail
      refine wp_region_noPanic ?_
      refine zcX 13 (fun W => Sem.run Tryz.prog (loadCellsFrom ⟨b, off + k * 21, none⟩ 0 21 #[]) W = .ok cx W ∧ Sem.run Tryz.prog (loadCellsFrom ⟨b, off + j * 21, none⟩ 0 21 #[]) W = .ok cy W) (by kernel_rfl) ⟨HC.out _ (Below.refl _ _).drew, HD.out _ (Below.refl _ _).drew⟩ (fun hHeld => ?_)
      refine tkD 16 (i := 0) (oi := ⟨some 12, _, _, _, _, _⟩) rfl hHeld ?_
      try simp only [zP]
      refine tkD 16 (i := 1) (oi := ⟨some 13, _, _, _, _, _⟩) rfl hHeld ?_
      try simp only [zP]
      refine tkD 16 (i := 2) (oi := ⟨some 14, _, _, _, _, _⟩) rfl hHeld ?_
      try simp only [zP]
      refine tkD 16 (i := 3) (oi := ⟨some 15, _, _, _, _, _⟩) rfl hHeld ?_
      try simp only [zP]
      refine tkD 16 (i := 4) (oi := ⟨some 16, _, _, _, _, _⟩) rfl hHeld ?_
      try simp only [zP]
      refine tkD 16 (i := 6) (oi := ⟨some 18, _, _, _, _, _⟩) rfl hHeld ?_
      try simp only [zP]
      refine tkD 16 (i := 7) (oi := ⟨some 19, _, _, _, _, _⟩) rfl hHeld ?_
      try simp only [zP]
      refine tkD 16 (i := 8) (oi := ⟨some 20, _, _, _, _, _⟩) rfl hHeld ?_
      try simp only [zP]
      refine tkD 16 (i := 9) (oi := ⟨some 21, _, _, _, _, _⟩) rfl hHeld ?_
      try simp only [zP]
      refine tkD 16 (i := 10) (oi := ⟨some 22, _, _, _, _, _⟩) rfl hHeld ?_
      try simp only [zP]
      refine tkD 16 (i := 11) (oi := ⟨some 23, _, _, _, _, _⟩) rfl hHeld ?_
      try simp only [zP]
      clear hHeld
      refine zdZ 16 2 1 [(5, 17), (12, 24)] (fun s v w => match s with
       | 17 => v = .string (kx)
       | 24 => v = .string (ky)
       | _ => True) (fun w w' => Below w.heap.size w w') (by kernel_rfl) (by kernel_rfl) bZh ⟨?_, ?_, trivial⟩ (fun w' hB' => ⟨HC.out _ ((Below.refl _ _).drew.trans hB'), HD.out _ ((Below.refl _ _).drew.trans hB')⟩) ⟨?_, ?_, trivial⟩ ?_
      focus
       intro v w w' h hB
       exact h
      focus
       intro v w w' h hB
       exact h
      focus
       intro vs w2 hBf hFf o ho K hK
       obtain rfl : (⟨some 17, _, _, _, _, _⟩ : Oper) = o := Option.some.inj ho
       clear ho
       (try simp only [fillL, zQ, zP] at hK ⊢)
       go_simp
       refine (HPX.out w2 (hB.trans (((Below.refl _ wr).drew.trans hBf).mono hB.size))).mono ?_
       rintro e w3 ⟨rfl, hB3⟩
       refine hK.out _ _ ⟨rfl, hB3⟩
      focus
       intro vs w2 hBf hFf o ho K hK
       obtain rfl : (⟨some 24, _, _, _, _, _⟩ : Oper) = o := Option.some.inj ho
       clear ho
       (try simp only [fillL, zQ, zP] at hK ⊢)
       go_simp
       refine (HPY.out w2 (hB.trans (((Below.refl _ wr).drew.trans hBf).mono hB.size))).mono ?_
       rintro e w3 ⟨rfl, hB3⟩
       refine hK.out _ _ ⟨rfl, hB3⟩
      intro vs w2 hBf hFf
      (try simp only [fillL, zQ, zP])
      have e1 : vs 17 = .string (kx) := (hFf (5, 17) (by simp))
      have e2 : vs 24 = .string (ky) := (hFf (12, 24) (by simp))
      simp only [e1, e2]
      have hB2 : Below w.heap.size w w2 := hB.trans (((Below.refl _ wr).drew.trans hBf).mono hB.size)
      refine zcZ (i := 13) (o := ⟨some 25, _, _, _, _, _⟩) (by kernel_rfl) rfl (by kernel_rfl) (fun K hK => ?_)
      go_simp
      refine hK.out _ _ ?_
      clear hK K
      try simp only [zP]
      refine zdQ (by kernel_rfl) ?_ _
      refine NoPanic.normal ?_
      go_wp2
      go_roundw
      case rel => exact ⟨k + 1, by omega, by omega, by go_num, HU', hB2⟩
      case measure => simp [intOf]; omega
  · obtain rfl : R = true := by
     rw [← HR.out, riseB_iff]
     intro j y x h1 h2
     have h3 := (List.getElem?_eq_some_iff.1 h2).1
     exact HU.out j y x (by omega) h1 h2
    clear HU HR
    go_wp2
    go_ret
    exact ⟨rfl, hB⟩
end Go.Proofs.YtimmcmjipmkebaaGreat
