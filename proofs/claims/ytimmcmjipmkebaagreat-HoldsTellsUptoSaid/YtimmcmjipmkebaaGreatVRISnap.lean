/-
 rising over api.Snap. No conditions but those written.
-/
import Derived.Test.YtimmcmjipmkebaaGreatVGRX
import Derived.Test.YtimmcmjipmkebaaGreatVSX
import Derived.BigQuiet
namespace Go.Proofs.YtimmcmjipmkebaaGreat
open Go.ChangeShapes Go.WideShapes Go.ChangeAt Go.RowKit
set_option maxRecDepth 100000
set_option maxHeartbeats 4000000 in
theorem rising_Snap (key : Mna → Int) (g : Nat) (lb : Array Value) (eg : Enters Tryz.prog g) (A : Option Addr) (c n : Nat) (l : List Mna) (hn : l.length = n) (w : World)
 (hp : ∀ (W : World) (x : Mna), Below w.heap.size w W → Calls Tryz.prog g (#[.agg x.cells.toArray] ++ lb) W fun e w' => e = .returned (.int .i64 (key x)) ∧ Below W.heap.size W w') (hl : n ≤ 4398046511104) (hr : Rd w A (l.flatMap Mna.cells)) :
 Calls Tryz.prog 175 #[.slice A n c, .func (.func g) #[] lb] w fun e w' => e = .returned (.bool (riseB (fun a b => decide (key a < key b)) l)) ∧ Below w.heap.size w w' := by
 subst hn
 have eg' : ∀ args w, (callFunc g args).run Tryz.prog w = .ok (.enter g args) w := eg
 obtain ⟨R, hR⟩ : ∃ R, riseB (fun a b => decide (key a < key b)) l = R := ⟨_, rfl⟩
 have HR := zI hR
 rw [hR]
 clear hR
 go_enter Tryz.func175, Tryz.ntmps175
 go_wp2
 go_loopw [5] (fun i W => ∃ k : Nat, 1 ≤ k ∧ k ≤ l.length + 1 ∧ i = .int .i64 k ∧ Hid (∀ j y x, j + 1 < k → l[j]? = some y → l[j + 1]? = some x → (fun a b => decide (key a < key b)) y x = true) ∧ Below w.heap.size w W) (fun i _ => l.length - (intOf i).toNat)
 case atStart => exact ⟨1, by omega, by omega, rfl, zI fun _ _ _ h => absurd h (by omega), Below.refl _ _⟩
 case round =>
  obtain ⟨k, hk1, hk, rfl, HU, hB⟩ := hrel
  by_cases hlt : k < l.length
  · obtain ⟨x, hx⟩ : ∃ x, l[k]? = some x := ⟨l[k], qZa hlt⟩
    obtain ⟨j, hj⟩ : ∃ j : Nat, k = j + 1 := ⟨k - 1, by omega⟩
    have hw : IntKind.i64.wrap ((k : Int) - 1) = (j : Int) := by
     rw [show ((k : Int) - 1) = (j : Int) by omega]
     exact IntWalk.i64_in _ (by omega)
    have hjl : j < l.length := by omega
    obtain ⟨y, hy⟩ : ∃ y, l[j]? = some y := ⟨l[j], qZa hjl⟩
    obtain ⟨b, off, rfl, hb, hc⟩ := Rd.elem (n := 5) (fun _ => rfl) (by omega) (hr.below hB) hx
    obtain ⟨b', off', e', _, hd⟩ := Rd.elem (n := 5) (fun _ => rfl) (by omega) (hr.below hB) hy
    injection e' with e'
    injection e' with e1 e2 _
    subst e1 e2
    have x0 := hc 0 _ rfl
    have x1 := hc 1 _ rfl
    have x2 := hc 2 _ rfl
    have x3 := hc 3 _ rfl
    have x4 := hc 4 _ rfl
    have y0 := hd 0 _ rfl
    have y1 := hd 1 _ rfl
    have y2 := hd 2 _ rfl
    have y3 := hd 3 _ rfl
    have y4 := hd 4 _ rfl
    simp only [Nat.add_zero] at x0 y0
    have HX := zI hx
    have HY := zI hy
    have HPX := zI (fun W hB => hp W x hB)
    have HPY := zI (fun W hB => hp W y hB)
    obtain ⟨kx, hkx⟩ : ∃ kx, key x = kx := ⟨_, rfl⟩
    obtain ⟨ky, hky⟩ : ∃ ky, key y = ky := ⟨_, rfl⟩
    rw [hkx] at HPX
    rw [hky] at HPY
    have HJ := zI hj
    clear hc hd hx hy hp hr hj
    rcases hl : decide (ky < kx) with _ | _
    · have hd : kx ≤ ky := by have := of_decide_eq_false hl; omega
      obtain rfl : R = false := by
       rw [← HR.out, ← Bool.not_eq_true]
       intro h
       have := riseB_iff.1 h j y x HY.out (by rw [← HJ.out]; exact HX.out)
       simp only [hkx, hky] at this
       rw [hl] at this
       cases this
      clear HU HX HY hl HR
      go_wp2_with fail
      refine wp_region_noPanic ?_
      refine zcX 13 (fun W => W.cell? ⟨b, off + k * 5, none⟩ = some (.string x.x_) ∧ W.cell? ⟨b, off + k * 5 + 1, none⟩ = some (.int .i64 x.z_) ∧ W.cell? ⟨b, off + k * 5 + 2, none⟩ = some (.slice x.p_.A x.p_.l.length x.p_.c) ∧ W.cell? ⟨b, off + k * 5 + 3, none⟩ = some (.slice x.u_.A x.u_.l.length x.u_.c) ∧ W.cell? ⟨b, off + k * 5 + 4, none⟩ = some (.slice x.j_.A x.j_.l.length x.j_.c) ∧ W.cell? ⟨b, off + j * 5, none⟩ = some (.string y.x_) ∧ W.cell? ⟨b, off + j * 5 + 1, none⟩ = some (.int .i64 y.z_) ∧ W.cell? ⟨b, off + j * 5 + 2, none⟩ = some (.slice y.p_.A y.p_.l.length y.p_.c) ∧ W.cell? ⟨b, off + j * 5 + 3, none⟩ = some (.slice y.u_.A y.u_.l.length y.u_.c) ∧ W.cell? ⟨b, off + j * 5 + 4, none⟩ = some (.slice y.j_.A y.j_.l.length y.j_.c)) (by kernel_rfl) ⟨x0, x1, x2, x3, x4, y0, y1, y2, y3, y4⟩ (fun hHeld => ?_)
      refine tkA 16 (i := 0) (oi := ⟨some 12, _, _, _, _, _⟩) rfl hHeld ?_
      try simp only [zP]
      refine tkA 16 (i := 1) (oi := ⟨some 13, _, _, _, _, _⟩) rfl hHeld ?_
      try simp only [zP]
      refine tkA 16 (i := 2) (oi := ⟨some 14, _, _, _, _, _⟩) rfl hHeld ?_
      try simp only [zP]
      refine tkA 16 (i := 3) (oi := ⟨some 15, _, _, _, _, _⟩) rfl hHeld ?_
      try simp only [zP]
      refine tkA 16 (i := 4) (oi := ⟨some 16, _, _, _, _, _⟩) rfl hHeld ?_
      try simp only [zP]
      refine tkA 16 (i := 6) (oi := ⟨some 18, _, _, _, _, _⟩) rfl hHeld ?_
      try simp only [zP]
      refine tkA 16 (i := 7) (oi := ⟨some 19, _, _, _, _, _⟩) rfl hHeld ?_
      try simp only [zP]
      refine tkA 16 (i := 8) (oi := ⟨some 20, _, _, _, _, _⟩) rfl hHeld ?_
      try simp only [zP]
      refine tkA 16 (i := 9) (oi := ⟨some 21, _, _, _, _, _⟩) rfl hHeld ?_
      try simp only [zP]
      refine tkA 16 (i := 10) (oi := ⟨some 22, _, _, _, _, _⟩) rfl hHeld ?_
      try simp only [zP]
      refine tkA 16 (i := 11) (oi := ⟨some 23, _, _, _, _, _⟩) rfl hHeld ?_
      try simp only [zP]
      clear hHeld
      refine zdZ 16 2 1 [(5, 17), (12, 24)] (fun s v w => match s with
       | 17 => v = .int .i64 (kx)
       | 24 => v = .int .i64 (ky)
       | _ => True) (fun w w' => Below w.heap.size w w') (by kernel_rfl) (by kernel_rfl) bZh ⟨?_, ?_, trivial⟩ (fun w' hB' => ⟨(hB'.cell (p := ⟨b, off + k * 5, none⟩) hb).trans x0, (hB'.cell (p := ⟨b, off + k * 5 + 1, none⟩) hb).trans x1, (hB'.cell (p := ⟨b, off + k * 5 + 2, none⟩) hb).trans x2, (hB'.cell (p := ⟨b, off + k * 5 + 3, none⟩) hb).trans x3, (hB'.cell (p := ⟨b, off + k * 5 + 4, none⟩) hb).trans x4, (hB'.cell (p := ⟨b, off + j * 5, none⟩) hb).trans y0, (hB'.cell (p := ⟨b, off + j * 5 + 1, none⟩) hb).trans y1, (hB'.cell (p := ⟨b, off + j * 5 + 2, none⟩) hb).trans y2, (hB'.cell (p := ⟨b, off + j * 5 + 3, none⟩) hb).trans y3, (hB'.cell (p := ⟨b, off + j * 5 + 4, none⟩) hb).trans y4⟩) ⟨?_, ?_, trivial⟩ ?_
      focus
       intro v w w' h hB
       exact h
      focus
       intro v w w' h hB
       exact h
      focus
       intro vs w2 hBf hFf o ho K hK
       obtain rfl : (⟨some 17, _, _, _, _, _⟩ : Oper) = o := Option.some.inj ho
       clear ho
       (try simp only [fillL, zQ, zP] at hK ⊢)
       go_simp
       refine (HPX.out w2 (hB.trans (((Below.refl _ wr).drew.trans hBf).mono hB.size))).mono ?_
       rintro e w3 ⟨rfl, hB3⟩
       refine hK.out _ _ ⟨rfl, hB3⟩
      focus
       intro vs w2 hBf hFf o ho K hK
       obtain rfl : (⟨some 24, _, _, _, _, _⟩ : Oper) = o := Option.some.inj ho
       clear ho
       (try simp only [fillL, zQ, zP] at hK ⊢)
       go_simp
       refine (HPY.out w2 (hB.trans (((Below.refl _ wr).drew.trans hBf).mono hB.size))).mono ?_
       rintro e w3 ⟨rfl, hB3⟩
       refine hK.out _ _ ⟨rfl, hB3⟩
      intro vs w2 hBf hFf
      (try simp only [fillL, zQ, zP])
      have e1 : vs 17 = .int .i64 (kx) := (hFf (5, 17) (by simp))
      have e2 : vs 24 = .int .i64 (ky) := (hFf (12, 24) (by simp))
      simp only [e1, e2]
      have hB2 : Below w.heap.size w w2 := hB.trans (((Below.refl _ wr).drew.trans hBf).mono hB.size)
      refine zcZ (i := 13) (o := ⟨some 25, _, _, _, _, _⟩) (by kernel_rfl) rfl (by kernel_rfl) (fun K hK => ?_)
      go_simp
      refine hK.out _ _ ?_
      clear hK K
      try simp only [zP]
      refine zdQ (by kernel_rfl) ?_ _
      refine NoPanic.normal ?_
      go_wp2
      go_ret
      exact ⟨rfl, hB2⟩
    · have hd : ky < kx := of_decide_eq_true hl
      have hd2 : ¬ kx ≤ ky := by omega
      have HU' : Hid (∀ j y x, j + 1 < k + 1 → l[j]? = some y → l[j + 1]? = some x → (fun a b => decide (key a < key b)) y x = true) := zI fun j' y' x' h1 h2 h3 => by
       by_cases e : j' + 1 = k
       · obtain rfl : j' = j := by have := HJ.out; omega
         rw [HY.out] at h2
         injection h2 with h2
         rw [e, HX.out] at h3
         injection h3 with h3
         subst h2 h3
         show decide (key y < key x) = true
         rw [hkx, hky]
         exact hl
       · exact HU.out j' y' x' (by omega) h2 h3
      clear HU HX HY hl HR
      go_wp2_with fail
      refine wp_region_noPanic ?_
      refine zcX 13 (fun W => W.cell? ⟨b, off + k * 5, none⟩ = some (.string x.x_) ∧ W.cell? ⟨b, off + k * 5 + 1, none⟩ = some (.int .i64 x.z_) ∧ W.cell? ⟨b, off + k * 5 + 2, none⟩ = some (.slice x.p_.A x.p_.l.length x.p_.c) ∧ W.cell? ⟨b, off + k * 5 + 3, none⟩ = some (.slice x.u_.A x.u_.l.length x.u_.c) ∧ W.cell? ⟨b, off + k * 5 + 4, none⟩ = some (.slice x.j_.A x.j_.l.length x.j_.c) ∧ W.cell? ⟨b, off + j * 5, none⟩ = some (.string y.x_) ∧ W.cell? ⟨b, off + j * 5 + 1, none⟩ = some (.int .i64 y.z_) ∧ W.cell? ⟨b, off + j * 5 + 2, none⟩ = some (.slice y.p_.A y.p_.l.length y.p_.c) ∧ W.cell? ⟨b, off + j * 5 + 3, none⟩ = some (.slice y.u_.A y.u_.l.length y.u_.c) ∧ W.cell? ⟨b, off + j * 5 + 4, none⟩ = some (.slice y.j_.A y.j_.l.length y.j_.c)) (by kernel_rfl) ⟨x0, x1, x2, x3, x4, y0, y1, y2, y3, y4⟩ (fun hHeld => ?_)
      refine tkA 16 (i := 0) (oi := ⟨some 12, _, _, _, _, _⟩) rfl hHeld ?_
      try simp only [zP]
      refine tkA 16 (i := 1) (oi := ⟨some 13, _, _, _, _, _⟩) rfl hHeld ?_
      try simp only [zP]
      refine tkA 16 (i := 2) (oi := ⟨some 14, _, _, _, _, _⟩) rfl hHeld ?_
      try simp only [zP]
      refine tkA 16 (i := 3) (oi := ⟨some 15, _, _, _, _, _⟩) rfl hHeld ?_
      try simp only [zP]
      refine tkA 16 (i := 4) (oi := ⟨some 16, _, _, _, _, _⟩) rfl hHeld ?_
      try simp only [zP]
      refine tkA 16 (i := 6) (oi := ⟨some 18, _, _, _, _, _⟩) rfl hHeld ?_
      try simp only [zP]
      refine tkA 16 (i := 7) (oi := ⟨some 19, _, _, _, _, _⟩) rfl hHeld ?_
      try simp only [zP]
      refine tkA 16 (i := 8) (oi := ⟨some 20, _, _, _, _, _⟩) rfl hHeld ?_
      try simp only [zP]
      refine tkA 16 (i := 9) (oi := ⟨some 21, _, _, _, _, _⟩) rfl hHeld ?_
      try simp only [zP]
      refine tkA 16 (i := 10) (oi := ⟨some 22, _, _, _, _, _⟩) rfl hHeld ?_
      try simp only [zP]
      refine tkA 16 (i := 11) (oi := ⟨some 23, _, _, _, _, _⟩) rfl hHeld ?_
      try simp only [zP]
      clear hHeld
      refine zdZ 16 2 1 [(5, 17), (12, 24)] (fun s v w => match s with
       | 17 => v = .int .i64 (kx)
       | 24 => v = .int .i64 (ky)
       | _ => True) (fun w w' => Below w.heap.size w w') (by kernel_rfl) (by kernel_rfl) bZh ⟨?_, ?_, trivial⟩ (fun w' hB' => ⟨(hB'.cell (p := ⟨b, off + k * 5, none⟩) hb).trans x0, (hB'.cell (p := ⟨b, off + k * 5 + 1, none⟩) hb).trans x1, (hB'.cell (p := ⟨b, off + k * 5 + 2, none⟩) hb).trans x2, (hB'.cell (p := ⟨b, off + k * 5 + 3, none⟩) hb).trans x3, (hB'.cell (p := ⟨b, off + k * 5 + 4, none⟩) hb).trans x4, (hB'.cell (p := ⟨b, off + j * 5, none⟩) hb).trans y0, (hB'.cell (p := ⟨b, off + j * 5 + 1, none⟩) hb).trans y1, (hB'.cell (p := ⟨b, off + j * 5 + 2, none⟩) hb).trans y2, (hB'.cell (p := ⟨b, off + j * 5 + 3, none⟩) hb).trans y3, (hB'.cell (p := ⟨b, off + j * 5 + 4, none⟩) hb).trans y4⟩) ⟨?_, ?_, trivial⟩ ?_
      focus
       intro v w w' h hB
       exact h
      focus
       intro v w w' h hB
       exact h
      focus
       intro vs w2 hBf hFf o ho K hK
       obtain rfl : (⟨some 17, _, _, _, _, _⟩ : Oper) = o := Option.some.inj ho
       clear ho
       (try simp only [fillL, zQ, zP] at hK ⊢)
       go_simp
       refine (HPX.out w2 (hB.trans (((Below.refl _ wr).drew.trans hBf).mono hB.size))).mono ?_
       rintro e w3 ⟨rfl, hB3⟩
       refine hK.out _ _ ⟨rfl, hB3⟩
      focus
       intro vs w2 hBf hFf o ho K hK
       obtain rfl : (⟨some 24, _, _, _, _, _⟩ : Oper) = o := Option.some.inj ho
       clear ho
       (try simp only [fillL, zQ, zP] at hK ⊢)
       go_simp
       refine (HPY.out w2 (hB.trans (((Below.refl _ wr).drew.trans hBf).mono hB.size))).mono ?_
       rintro e w3 ⟨rfl, hB3⟩
       refine hK.out _ _ ⟨rfl, hB3⟩
      intro vs w2 hBf hFf
      (try simp only [fillL, zQ, zP])
      have e1 : vs 17 = .int .i64 (kx) := (hFf (5, 17) (by simp))
      have e2 : vs 24 = .int .i64 (ky) := (hFf (12, 24) (by simp))
      simp only [e1, e2]
      have hB2 : Below w.heap.size w w2 := hB.trans (((Below.refl _ wr).drew.trans hBf).mono hB.size)
      refine zcZ (i := 13) (o := ⟨some 25, _, _, _, _, _⟩) (by kernel_rfl) rfl (by kernel_rfl) (fun K hK => ?_)
      go_simp
      refine hK.out _ _ ?_
      clear hK K
      try simp only [zP]
      refine zdQ (by kernel_rfl) ?_ _
      refine NoPanic.normal ?_
      go_wp2
      go_roundw
      case rel => exact ⟨k + 1, by omega, by omega, by go_num, HU', hB2⟩
      case measure => simp [intOf]; omega
  · obtain rfl : R = true := by
     rw [← HR.out, riseB_iff]
     intro j y x h1 h2
     have h3 := (List.getElem?_eq_some_iff.1 h2).1
     exact HU.out j y x (by omega) h1 h2
    clear HU HR
    go_wp2
    go_ret
    exact ⟨rfl, hB⟩
set_option maxHeartbeats 4000000 in
theorem rising_Set (key : MSet → ByteArray) (g : Nat) (lb : Array Value) (eg : Enters Tryz.prog g) (A : Option Addr) (c n : Nat) (l : List MSet) (hn : l.length = n) (w : World)
 (hp : ∀ (W : World) (x : MSet), Below w.heap.size w W → Calls Tryz.prog g (#[.agg x.cells.toArray] ++ lb) W fun e w' => e = .returned (.string (key x)) ∧ Below W.heap.size W w') (hl : n ≤ 4398046511104) (hr : Rd w A (l.flatMap MSet.cells)) :
 Calls Tryz.prog 141 #[.slice A n c, .func (.func g) #[] lb] w fun e w' => e = .returned (.bool (riseB (fun a b => ltTx (key a) (key b)) l)) ∧ Below w.heap.size w w' := by
 subst hn
 have eg' : ∀ args w, (callFunc g args).run Tryz.prog w = .ok (.enter g args) w := eg
 obtain ⟨R, hR⟩ : ∃ R, riseB (fun a b => ltTx (key a) (key b)) l = R := ⟨_, rfl⟩
 have HR := zI hR
 rw [hR]
 clear hR
 go_enter Tryz.func141, Tryz.ntmps141
 go_wp2
 go_loopw [5] (fun i W => ∃ k : Nat, 1 ≤ k ∧ k ≤ l.length + 1 ∧ i = .int .i64 k ∧ Hid (∀ j y x, j + 1 < k → l[j]? = some y → l[j + 1]? = some x → (fun a b => ltTx (key a) (key b)) y x = true) ∧ Below w.heap.size w W) (fun i _ => l.length - (intOf i).toNat)
 case atStart => exact ⟨1, by omega, by omega, rfl, zI fun _ _ _ h => absurd h (by omega), Below.refl _ _⟩
 case round =>
  obtain ⟨k, hk1, hk, rfl, HU, hB⟩ := hrel
  by_cases hlt : k < l.length
  · obtain ⟨x, hx⟩ : ∃ x, l[k]? = some x := ⟨l[k], qZa hlt⟩
    obtain ⟨j, hj⟩ : ∃ j : Nat, k = j + 1 := ⟨k - 1, by omega⟩
    have hw : IntKind.i64.wrap ((k : Int) - 1) = (j : Int) := by
     rw [show ((k : Int) - 1) = (j : Int) by omega]
     exact IntWalk.i64_in _ (by omega)
    have hjl : j < l.length := by omega
    obtain ⟨y, hy⟩ : ∃ y, l[j]? = some y := ⟨l[j], qZa hjl⟩
    obtain ⟨b, off, rfl, hb, hc⟩ := Rd.elem (n := 5) (fun _ => rfl) (by omega) (hr.below hB) hx
    obtain ⟨b', off', e', _, hd⟩ := Rd.elem (n := 5) (fun _ => rfl) (by omega) (hr.below hB) hy
    injection e' with e'
    injection e' with e1 e2 _
    subst e1 e2
    have x0 := hc 0 _ rfl
    have x1 := hc 1 _ rfl
    have x2 := hc 2 _ rfl
    have x3 := hc 3 _ rfl
    have x4 := hc 4 _ rfl
    have y0 := hd 0 _ rfl
    have y1 := hd 1 _ rfl
    have y2 := hd 2 _ rfl
    have y3 := hd 3 _ rfl
    have y4 := hd 4 _ rfl
    simp only [Nat.add_zero] at x0 y0
    have HX := zI hx
    have HY := zI hy
    have HPX := zI (fun W hB => hp W x hB)
    have HPY := zI (fun W hB => hp W y hB)
    obtain ⟨kx, hkx⟩ : ∃ kx, key x = kx := ⟨_, rfl⟩
    obtain ⟨ky, hky⟩ : ∃ ky, key y = ky := ⟨_, rfl⟩
    rw [hkx] at HPX
    rw [hky] at HPY
    have HJ := zI hj
    clear hc hd hx hy hp hr hj
    rcases hl : ltTx ky kx with _ | _
    · have hd : (Op.bytesLess kx.toList ky.toList || kx.toList == ky.toList) = true := by
       rw [← Bool.not_eq_false]
       intro h
       have := ltK_iff.2 h
       unfold ltK at this
       unfold ltTx at hl
       rw [this] at hl
       cases hl
      obtain rfl : R = false := by
       rw [← HR.out, ← Bool.not_eq_true]
       intro h
       have := riseB_iff.1 h j y x HY.out (by rw [← HJ.out]; exact HX.out)
       simp only [hkx, hky] at this
       rw [hl] at this
       cases this
      clear HU HX HY hl HR
      go_wp2_with fail
      refine wp_region_noPanic ?_
      refine zcX 13 (fun W => W.cell? ⟨b, off + k * 5, none⟩ = some (.string x.l_) ∧ W.cell? ⟨b, off + k * 5 + 1, none⟩ = some (.string x.m_) ∧ W.cell? ⟨b, off + k * 5 + 2, none⟩ = some (.slice x.p_.A x.p_.l.length x.p_.c) ∧ W.cell? ⟨b, off + k * 5 + 3, none⟩ = some (.slice x.n_.A x.n_.l.length x.n_.c) ∧ W.cell? ⟨b, off + k * 5 + 4, none⟩ = some (.slice x.j_.A x.j_.l.length x.j_.c) ∧ W.cell? ⟨b, off + j * 5, none⟩ = some (.string y.l_) ∧ W.cell? ⟨b, off + j * 5 + 1, none⟩ = some (.string y.m_) ∧ W.cell? ⟨b, off + j * 5 + 2, none⟩ = some (.slice y.p_.A y.p_.l.length y.p_.c) ∧ W.cell? ⟨b, off + j * 5 + 3, none⟩ = some (.slice y.n_.A y.n_.l.length y.n_.c) ∧ W.cell? ⟨b, off + j * 5 + 4, none⟩ = some (.slice y.j_.A y.j_.l.length y.j_.c)) (by kernel_rfl) ⟨x0, x1, x2, x3, x4, y0, y1, y2, y3, y4⟩ (fun hHeld => ?_)
      refine tkA 16 (i := 0) (oi := ⟨some 12, _, _, _, _, _⟩) rfl hHeld ?_
      try simp only [zP]
      refine tkA 16 (i := 1) (oi := ⟨some 13, _, _, _, _, _⟩) rfl hHeld ?_
      try simp only [zP]
      refine tkA 16 (i := 2) (oi := ⟨some 14, _, _, _, _, _⟩) rfl hHeld ?_
      try simp only [zP]
      refine tkA 16 (i := 3) (oi := ⟨some 15, _, _, _, _, _⟩) rfl hHeld ?_
      try simp only [zP]
      refine tkA 16 (i := 4) (oi := ⟨some 16, _, _, _, _, _⟩) rfl hHeld ?_
      try simp only [zP]
      refine tkA 16 (i := 6) (oi := ⟨some 18, _, _, _, _, _⟩) rfl hHeld ?_
      try simp only [zP]
      refine tkA 16 (i := 7) (oi := ⟨some 19, _, _, _, _, _⟩) rfl hHeld ?_
      try simp only [zP]
      refine tkA 16 (i := 8) (oi := ⟨some 20, _, _, _, _, _⟩) rfl hHeld ?_
      try simp only [zP]
      refine tkA 16 (i := 9) (oi := ⟨some 21, _, _, _, _, _⟩) rfl hHeld ?_
      try simp only [zP]
      refine tkA 16 (i := 10) (oi := ⟨some 22, _, _, _, _, _⟩) rfl hHeld ?_
      try simp only [zP]
      refine tkA 16 (i := 11) (oi := ⟨some 23, _, _, _, _, _⟩) rfl hHeld ?_
      try simp only [zP]
      clear hHeld
      refine zdZ 16 2 1 [(5, 17), (12, 24)] (fun s v w => match s with
       | 17 => v = .string (kx)
       | 24 => v = .string (ky)
       | _ => True) (fun w w' => Below w.heap.size w w') (by kernel_rfl) (by kernel_rfl) bZh ⟨?_, ?_, trivial⟩ (fun w' hB' => ⟨(hB'.cell (p := ⟨b, off + k * 5, none⟩) hb).trans x0, (hB'.cell (p := ⟨b, off + k * 5 + 1, none⟩) hb).trans x1, (hB'.cell (p := ⟨b, off + k * 5 + 2, none⟩) hb).trans x2, (hB'.cell (p := ⟨b, off + k * 5 + 3, none⟩) hb).trans x3, (hB'.cell (p := ⟨b, off + k * 5 + 4, none⟩) hb).trans x4, (hB'.cell (p := ⟨b, off + j * 5, none⟩) hb).trans y0, (hB'.cell (p := ⟨b, off + j * 5 + 1, none⟩) hb).trans y1, (hB'.cell (p := ⟨b, off + j * 5 + 2, none⟩) hb).trans y2, (hB'.cell (p := ⟨b, off + j * 5 + 3, none⟩) hb).trans y3, (hB'.cell (p := ⟨b, off + j * 5 + 4, none⟩) hb).trans y4⟩) ⟨?_, ?_, trivial⟩ ?_
      focus
       intro v w w' h hB
       exact h
      focus
       intro v w w' h hB
       exact h
      focus
       intro vs w2 hBf hFf o ho K hK
       obtain rfl : (⟨some 17, _, _, _, _, _⟩ : Oper) = o := Option.some.inj ho
       clear ho
       (try simp only [fillL, zQ, zP] at hK ⊢)
       go_simp
       refine (HPX.out w2 (hB.trans (((Below.refl _ wr).drew.trans hBf).mono hB.size))).mono ?_
       rintro e w3 ⟨rfl, hB3⟩
       refine hK.out _ _ ⟨rfl, hB3⟩
      focus
       intro vs w2 hBf hFf o ho K hK
       obtain rfl : (⟨some 24, _, _, _, _, _⟩ : Oper) = o := Option.some.inj ho
       clear ho
       (try simp only [fillL, zQ, zP] at hK ⊢)
       go_simp
       refine (HPY.out w2 (hB.trans (((Below.refl _ wr).drew.trans hBf).mono hB.size))).mono ?_
       rintro e w3 ⟨rfl, hB3⟩
       refine hK.out _ _ ⟨rfl, hB3⟩
      intro vs w2 hBf hFf
      (try simp only [fillL, zQ, zP])
      have e1 : vs 17 = .string (kx) := (hFf (5, 17) (by simp))
      have e2 : vs 24 = .string (ky) := (hFf (12, 24) (by simp))
      simp only [e1, e2]
      have hB2 : Below w.heap.size w w2 := hB.trans (((Below.refl _ wr).drew.trans hBf).mono hB.size)
      refine zcZ (i := 13) (o := ⟨some 25, _, _, _, _, _⟩) (by kernel_rfl) rfl (by kernel_rfl) (fun K hK => ?_)
      go_simp
      refine hK.out _ _ ?_
      clear hK K
      try simp only [zP]
      refine zdQ (by kernel_rfl) ?_ _
      refine NoPanic.normal ?_
      go_wp2
      go_ret
      exact ⟨rfl, hB2⟩
    · have hd : (Op.bytesLess kx.toList ky.toList || kx.toList == ky.toList) = false := ltK_iff.1 hl
      have HU' : Hid (∀ j y x, j + 1 < k + 1 → l[j]? = some y → l[j + 1]? = some x → (fun a b => ltTx (key a) (key b)) y x = true) := zI fun j' y' x' h1 h2 h3 => by
       by_cases e : j' + 1 = k
       · obtain rfl : j' = j := by have := HJ.out; omega
         rw [HY.out] at h2
         injection h2 with h2
         rw [e, HX.out] at h3
         injection h3 with h3
         subst h2 h3
         show ltTx (key y) (key x) = true
         rw [hkx, hky]
         exact hl
       · exact HU.out j' y' x' (by omega) h2 h3
      clear HU HX HY hl HR
      go_wp2_with fail
      refine wp_region_noPanic ?_
      refine zcX 13 (fun W => W.cell? ⟨b, off + k * 5, none⟩ = some (.string x.l_) ∧ W.cell? ⟨b, off + k * 5 + 1, none⟩ = some (.string x.m_) ∧ W.cell? ⟨b, off + k * 5 + 2, none⟩ = some (.slice x.p_.A x.p_.l.length x.p_.c) ∧ W.cell? ⟨b, off + k * 5 + 3, none⟩ = some (.slice x.n_.A x.n_.l.length x.n_.c) ∧ W.cell? ⟨b, off + k * 5 + 4, none⟩ = some (.slice x.j_.A x.j_.l.length x.j_.c) ∧ W.cell? ⟨b, off + j * 5, none⟩ = some (.string y.l_) ∧ W.cell? ⟨b, off + j * 5 + 1, none⟩ = some (.string y.m_) ∧ W.cell? ⟨b, off + j * 5 + 2, none⟩ = some (.slice y.p_.A y.p_.l.length y.p_.c) ∧ W.cell? ⟨b, off + j * 5 + 3, none⟩ = some (.slice y.n_.A y.n_.l.length y.n_.c) ∧ W.cell? ⟨b, off + j * 5 + 4, none⟩ = some (.slice y.j_.A y.j_.l.length y.j_.c)) (by kernel_rfl) ⟨x0, x1, x2, x3, x4, y0, y1, y2, y3, y4⟩ (fun hHeld => ?_)
      refine tkA 16 (i := 0) (oi := ⟨some 12, _, _, _, _, _⟩) rfl hHeld ?_
      try simp only [zP]
      refine tkA 16 (i := 1) (oi := ⟨some 13, _, _, _, _, _⟩) rfl hHeld ?_
      try simp only [zP]
      refine tkA 16 (i := 2) (oi := ⟨some 14, _, _, _, _, _⟩) rfl hHeld ?_
      try simp only [zP]
      refine tkA 16 (i := 3) (oi := ⟨some 15, _, _, _, _, _⟩) rfl hHeld ?_
      try simp only [zP]
      refine tkA 16 (i := 4) (oi := ⟨some 16, _, _, _, _, _⟩) rfl hHeld ?_
      try simp only [zP]
      refine tkA 16 (i := 6) (oi := ⟨some 18, _, _, _, _, _⟩) rfl hHeld ?_
      try simp only [zP]
      refine tkA 16 (i := 7) (oi := ⟨some 19, _, _, _, _, _⟩) rfl hHeld ?_
      try simp only [zP]
      refine tkA 16 (i := 8) (oi := ⟨some 20, _, _, _, _, _⟩) rfl hHeld ?_
      try simp only [zP]
      refine tkA 16 (i := 9) (oi := ⟨some 21, _, _, _, _, _⟩) rfl hHeld ?_
      try simp only [zP]
      refine tkA 16 (i := 10) (oi := ⟨some 22, _, _, _, _, _⟩) rfl hHeld ?_
      try simp only [zP]
      refine tkA 16 (i := 11) (oi := ⟨some 23, _, _, _, _, _⟩) rfl hHeld ?_
      try simp only [zP]
      clear hHeld
      refine zdZ 16 2 1 [(5, 17), (12, 24)] (fun s v w => match s with
       | 17 => v = .string (kx)
       | 24 => v = .string (ky)
       | _ => True) (fun w w' => Below w.heap.size w w') (by kernel_rfl) (by kernel_rfl) bZh ⟨?_, ?_, trivial⟩ (fun w' hB' => ⟨(hB'.cell (p := ⟨b, off + k * 5, none⟩) hb).trans x0, (hB'.cell (p := ⟨b, off + k * 5 + 1, none⟩) hb).trans x1, (hB'.cell (p := ⟨b, off + k * 5 + 2, none⟩) hb).trans x2, (hB'.cell (p := ⟨b, off + k * 5 + 3, none⟩) hb).trans x3, (hB'.cell (p := ⟨b, off + k * 5 + 4, none⟩) hb).trans x4, (hB'.cell (p := ⟨b, off + j * 5, none⟩) hb).trans y0, (hB'.cell (p := ⟨b, off + j * 5 + 1, none⟩) hb).trans y1, (hB'.cell (p := ⟨b, off + j * 5 + 2, none⟩) hb).trans y2, (hB'.cell (p := ⟨b, off + j * 5 + 3, none⟩) hb).trans y3, (hB'.cell (p := ⟨b, off + j * 5 + 4, none⟩) hb).trans y4⟩) ⟨?_, ?_, trivial⟩ ?_
      focus
       intro v w w' h hB
       exact h
      focus
       intro v w w' h hB
       exact h
      focus
       intro vs w2 hBf hFf o ho K hK
       obtain rfl : (⟨some 17, _, _, _, _, _⟩ : Oper) = o := Option.some.inj ho
       clear ho
       (try simp only [fillL, zQ, zP] at hK ⊢)
       go_simp
       refine (HPX.out w2 (hB.trans (((Below.refl _ wr).drew.trans hBf).mono hB.size))).mono ?_
       rintro e w3 ⟨rfl, hB3⟩
       refine hK.out _ _ ⟨rfl, hB3⟩
      focus
       intro vs w2 hBf hFf o ho K hK
       obtain rfl : (⟨some 24, _, _, _, _, _⟩ : Oper) = o := Option.some.inj ho
       clear ho
       (try simp only [fillL, zQ, zP] at hK ⊢)
       go_simp
       refine (HPY.out w2 (hB.trans (((Below.refl _ wr).drew.trans hBf).mono hB.size))).mono ?_
       rintro e w3 ⟨rfl, hB3⟩
       refine hK.out _ _ ⟨rfl, hB3⟩
      intro vs w2 hBf hFf
      (try simp only [fillL, zQ, zP])
      have e1 : vs 17 = .string (kx) := (hFf (5, 17) (by simp))
      have e2 : vs 24 = .string (ky) := (hFf (12, 24) (by simp))
      simp only [e1, e2]
      have hB2 : Below w.heap.size w w2 := hB.trans (((Below.refl _ wr).drew.trans hBf).mono hB.size)
      refine zcZ (i := 13) (o := ⟨some 25, _, _, _, _, _⟩) (by kernel_rfl) rfl (by kernel_rfl) (fun K hK => ?_)
      go_simp
      refine hK.out _ _ ?_
      clear hK K
      try simp only [zP]
      refine zdQ (by kernel_rfl) ?_ _
      refine NoPanic.normal ?_
      go_wp2
      go_roundw
      case rel => exact ⟨k + 1, by omega, by omega, by go_num, HU', hB2⟩
      case measure => simp [intOf]; omega
  · obtain rfl : R = true := by
     rw [← HR.out, riseB_iff]
     intro j y x h1 h2
     have h3 := (List.getElem?_eq_some_iff.1 h2).1
     exact HU.out j y x (by omega) h1 h2
    clear HU HR
    go_wp2
    go_ret
    exact ⟨rfl, hB⟩
end Go.Proofs.YtimmcmjipmkebaaGreat
