/-
 Tags: every of them a name, rising. Conditions: the texts are as they come in.
-/
import Derived.Test.YtimmcmjipmkebaaGreatVTCA
import Derived.Test.YtimmcmjipmkebaaGreatVSX
import Derived.Test.YtimmcmjipmkebaaGreatVRPA
import Derived.Test.YtimmcmjipmkebaaGreatVRL
import Derived.BigQuiet
import Derived.Shelf.SlicesE.IndexFunc
namespace Go.Proofs.YtimmcmjipmkebaaGreat
open Go.ChangeShapes Go.WideShapes Go.ChangeAt Go.RowKit
set_option maxRecDepth 100000
theorem everyStr1 (B0 : Nat) (s : ByteArray) (w : World) (h0 : w.cell? ⟨B0, 0, none⟩ = some (.func (.func 45) #[] #[])) :
 Calls Tryz.prog 205 #[.string s, .pointer (some ⟨B0, 0, none⟩)] w fun e w' => e = .returned (.bool (!(zaQ (bs s)))) ∧ ∃ q, w' = w.drewN q := by
 have HP := zI (name_any s)
 obtain ⟨R, hR⟩ : ∃ R, zaQ (bs s) = R := ⟨_, rfl⟩
 rw [hR] at HP ⊢
 clear hR
 go_enter Tryz.func205, Tryz.ntmps205
 go_wp2_with fail
 refine (HP.out _).mono ?_
 rintro e w2 ⟨rfl, rfl⟩
 cases R
 all_goals
  go_wp2
  go_ret
  exact ⟨rfl, 0, rfl⟩
theorem containsStr (lb : Array Value) (p : ByteArray → Bool) (A : Option Addr) (c n : Nat) (l : List ByteArray) (hn : l.length = n) (hl : n ≤ 8796093022208) (w : World)
 (hp : ∀ W s, Below w.heap.size w W → Calls Tryz.prog 205 (#[.string s] ++ lb) W fun e w' => e = .returned (.bool (p s)) ∧ ∃ q, w' = W.drewN q) (hr : Rd w A (l.map Value.string)) :
 Calls Tryz.prog 204 #[.slice A n c, .func (.func 205) #[] lb] w fun e w' => e = .returned (.bool (l.any p)) ∧ Below w.heap.size w w' := by
 subst hn
 have eg : ∀ args w, (callFunc 205 args).run Tryz.prog w = .ok (.enter 205 args) w := enters_of Tryz.func205 (by kernel_rfl) rfl
 have HI : Calls Tryz.prog 214 #[.slice A l.length c, .func (.func 205) #[] lb] w fun e w' => e = .returned (.int .i64 (findI p l)) ∧ ∃ q, w' = w.drewN q := by
  rcases l with _ | ⟨x0, l0⟩
  · have := AnyE.slices_IndexFunc_empty Tryz.indexStr A c (.func (.func 205) #[] lb) w
    refine Calls.mono this ?_
    rintro e w' ⟨rfl, rfl⟩
    exact ⟨rfl, 0, rfl⟩
  · obtain ⟨b, off, rfl, hb, _⟩ := rdT_at hr (k := 0) (x := x0) rfl
    generalize hl0 : x0 :: l0 = l at *
    have := AnyE.slices_IndexFunc Tryz.indexStr Value.string p 205 lb eg b off l.length c l w (fun W s hB => hp W s hB) (Nat.le_refl _) (by omega) (fun j hj => by
     have hx : l[j]? = some l[j]! := by rw [getElem!_pos l j hj]; exact qZa hj
     obtain ⟨b', off', e', _, hc⟩ := rdT_at hr hx
     injection e' with e'
     injection e' with e1 e2 _
     subst e1 e2
     exact hc)
    refine Calls.mono this ?_
    rintro e w' ⟨rfl, hq⟩
    refine ⟨?_, hq⟩
    rw [List.take_of_length_le (Nat.le_refl _)]
    rcases idx_cases p l with ⟨j, x, h1, h2, h3, h4⟩ | ⟨h1, h2⟩
    · rw [h4, findI_some h1 h2 h3]
    · rw [h2, findI_none h1]
 have HI' := zI HI
 rw [← findI_any]
 obtain ⟨F, hF⟩ : ∃ F, findI p l = F := ⟨_, rfl⟩
 rw [hF] at HI' ⊢
 clear HI hF hp hr
 go_enter Tryz.func204, Tryz.ntmps204
 go_wp2_with fail
 refine HI'.out.mono ?_
 rintro e w2 ⟨rfl, q, rfl⟩
 go_wp2
 go_ret
 exact ⟨rfl, zaX _ _ _⟩
theorem everyName (A : Option Addr) (c n : Nat) (l : List ByteArray) (hn : l.length = n) (hl : n ≤ 8796093022208) (w : World) (hr : Rd w A (l.map Value.string)) :
 Calls Tryz.prog 195 #[.slice A n c, .func (.func 45) #[] #[]] w fun e w' => e = .returned (.bool (l.all fun s => zaQ (bs s))) ∧ Below w.heap.size w w' := by
 obtain ⟨w1, hw1⟩ : ∃ w1, w.alloc (.cells #[.func (.func 45) #[] #[]] 73) = w1 := ⟨_, rfl⟩
 have hB1 : Below w.heap.size w w1 := hw1 ▸ (Below.refl _ w).alloc (Nat.le_refl _) _
 have k1 : Blk w1 w.heap.size 73 [.func (.func 45) #[] #[]] := hw1 ▸ Blk.new w _ _
 have HC := zI (containsStr #[.pointer (some ⟨w.heap.size, 0, none⟩)] (fun s => !(zaQ (bs s))) A c n l hn hl w1 (fun W s hB => everyStr1 w.heap.size s W ((k1.below hB k1.lt).cell 0)) (hr.below hB1))
 have e : l.any (fun s => !(zaQ (bs s))) = !(l.all fun s => zaQ (bs s)) := by rw [List.not_all_eq_any_not]
 rw [e] at HC
 obtain ⟨R, hR⟩ : ∃ R, (l.all fun s => zaQ (bs s)) = R := ⟨_, rfl⟩
 rw [hR] at HC ⊢
 have HW1 := zI hw1
 clear hR e hr k1 hw1
 go_enter Tryz.func195, Tryz.ntmps195
 go_wp2_with fail
 rw [HW1.out]
 go_wp2_with fail
 refine HC.out.mono ?_
 rintro e w2 ⟨rfl, hB2⟩
 cases R
 all_goals
  go_wp2
  go_ret
  exact ⟨rfl, hB1.trans (hB2.mono hB1.size)⟩
theorem tag1 (s : ByteArray) (w : World) :
 Calls Tryz.prog 197 #[.string s] w fun e w' => e = .returned (.string s) ∧ w = w' := by
 go_enter Tryz.func197, Tryz.ntmps197
 go_wp2
 go_ret
 exact ⟨rfl, rfl⟩
theorem le_of {x y : ByteArray} {v : Bool} (h : ltTx y x = v) : (Op.bytesLess x.toList y.toList || x.toList == y.toList) = !v := by
 cases v
 · rw [Bool.not_false, ← Bool.not_eq_false]
   intro e
   have := ltK_iff.2 e
   unfold ltK at this
   unfold ltTx at h
   rw [this] at h
   cases h
 · exact ltK_iff.1 h
set_option maxHeartbeats 1000000 in
theorem risingStr (A : Option Addr) (c n : Nat) (l : List ByteArray) (hn : l.length = n) (hl : n ≤ 8796093022208) (w : World) (hr : Rd w A (l.map Value.string)) :
 Calls Tryz.prog 196 #[.slice A n c, .func (.func 197) #[] #[]] w fun e w' => e = .returned (.bool (riseB ltTx l)) ∧ Below w.heap.size w w' := by
 subst hn
 obtain ⟨R, hR⟩ : ∃ R, riseB ltTx l = R := ⟨_, rfl⟩
 have HR := zI hR
 rw [hR]
 clear hR
 go_enter Tryz.func196, Tryz.ntmps196
 go_wp2
 go_loopw [5] (fun i W => ∃ k : Nat, 1 ≤ k ∧ k ≤ l.length + 1 ∧ i = .int .i64 k ∧ Hid (∀ j y x, j + 1 < k → l[j]? = some y → l[j + 1]? = some x → ltTx y x = true) ∧ Below w.heap.size w W) (fun i _ => l.length - (intOf i).toNat)
 case atStart => exact ⟨1, by omega, by omega, rfl, zI fun _ _ _ h => absurd h (by omega), Below.refl _ _⟩
 case round =>
  obtain ⟨k, hk1, hk, rfl, HU, hB⟩ := hrel
  by_cases hlt : k < l.length
  · obtain ⟨x, hx⟩ : ∃ x, l[k]? = some x := ⟨l[k], qZa hlt⟩
    obtain ⟨j, hj⟩ : ∃ j : Nat, k = j + 1 := ⟨k - 1, by omega⟩
    have hw : IntKind.i64.wrap ((k : Int) - 1) = (j : Int) := by
     rw [show ((k : Int) - 1) = (j : Int) by omega]
     exact IntWalk.i64_in _ (by omega)
    have hjl : j < l.length := by omega
    obtain ⟨y, hy⟩ : ∃ y, l[j]? = some y := ⟨l[j], qZa hjl⟩
    obtain ⟨b, off, rfl, hb, hc⟩ := rdT_at (hr.below hB) hx
    obtain ⟨b', off', e', _, hd⟩ := rdT_at (hr.below hB) hy
    injection e' with e'
    injection e' with e1 e2 _
    subst e1 e2
    have HX := zI hx
    have HY := zI hy
    have HJ := zI hj
    have HQX := zI (tag1 x)
    have HQY := zI (tag1 y)
    clear hx hy hr hj
    rcases hlv : ltTx y x with _ | _
    · have hle : (Op.bytesLess x.toList y.toList || x.toList == y.toList) = true := le_of hlv
      obtain rfl : R = false := by
       rw [← HR.out, ← Bool.not_eq_true]
       intro h
       have := riseB_iff.1 h j y x HY.out (by rw [← HJ.out]; exact HX.out)
       rw [hlv] at this
       cases this
      clear HU HX HY hlv HR
      go_wp2_with fail
      refine wp_region_noPanic ?_
      refine zcX 13 (fun W => W.cell? ⟨b, off + k, none⟩ = some (.string x) ∧ W.cell? ⟨b, off + j, none⟩ = some (.string y)) (by kernel_rfl) ⟨hc, hd⟩ (fun hHeld => ?_)
      refine tkA 16 (i := 0) (oi := ⟨some 12, _, _, _, _, _⟩) rfl hHeld ?_
      try simp only [zP]
      refine tkA 16 (i := 1) (oi := ⟨some 13, _, _, _, _, _⟩) rfl hHeld ?_
      try simp only [zP]
      refine tkA 16 (i := 2) (oi := ⟨some 14, _, _, _, _, _⟩) rfl hHeld ?_
      try simp only [zP]
      refine tkA 16 (i := 3) (oi := ⟨some 15, _, _, _, _, _⟩) rfl hHeld ?_
      try simp only [zP]
      refine tkA 16 (i := 4) (oi := ⟨some 16, _, _, _, _, _⟩) rfl hHeld ?_
      try simp only [zP]
      refine tkA 16 (i := 6) (oi := ⟨some 18, _, _, _, _, _⟩) rfl hHeld ?_
      try simp only [zP]
      refine tkA 16 (i := 7) (oi := ⟨some 19, _, _, _, _, _⟩) rfl hHeld ?_
      try simp only [zP]
      refine tkA 16 (i := 8) (oi := ⟨some 20, _, _, _, _, _⟩) rfl hHeld ?_
      try simp only [zP]
      refine tkA 16 (i := 9) (oi := ⟨some 21, _, _, _, _, _⟩) rfl hHeld ?_
      try simp only [zP]
      refine tkA 16 (i := 10) (oi := ⟨some 22, _, _, _, _, _⟩) rfl hHeld ?_
      try simp only [zP]
      refine tkA 16 (i := 11) (oi := ⟨some 23, _, _, _, _, _⟩) rfl hHeld ?_
      try simp only [zP]
      clear hHeld
      refine zdZ 16 2 1 [(5, 17), (12, 24)] (fun s v w => match s with
       | 17 => v = .string x
       | 24 => v = .string y
       | _ => True) (fun w w' => Below w.heap.size w w') (by kernel_rfl) (by kernel_rfl) bZh ⟨?_, ?_, trivial⟩ (fun w' hB' => ⟨(hB'.cell (p := ⟨b, off + k, none⟩) hb).trans hc, (hB'.cell (p := ⟨b, off + j, none⟩) hb).trans hd⟩) ⟨?_, ?_, trivial⟩ ?_
      focus
       intro v w w' h hB
       exact h
      focus
       intro v w w' h hB
       exact h
      focus
       intro vs w2 hBf hFf o ho K hK
       obtain rfl : (⟨some 17, _, _, _, _, _⟩ : Oper) = o := Option.some.inj ho
       clear ho
       (try simp only [fillL, zQ, zP] at hK ⊢)
       go_simp
       refine (HQX.out w2).mono ?_
       rintro e w3 ⟨rfl, rfl⟩
       refine hK.out _ _ ⟨rfl, Below.refl _ _⟩
      focus
       intro vs w2 hBf hFf o ho K hK
       obtain rfl : (⟨some 24, _, _, _, _, _⟩ : Oper) = o := Option.some.inj ho
       clear ho
       (try simp only [fillL, zQ, zP] at hK ⊢)
       go_simp
       refine (HQY.out w2).mono ?_
       rintro e w3 ⟨rfl, rfl⟩
       refine hK.out _ _ ⟨rfl, Below.refl _ _⟩
      intro vs w2 hBf hFf
      (try simp only [fillL, zQ, zP])
      have e1 : vs 17 = .string x := (hFf (5, 17) (by simp))
      have e2 : vs 24 = .string y := (hFf (12, 24) (by simp))
      simp only [e1, e2]
      have hB2 : Below w.heap.size w w2 := hB.trans (((Below.refl _ wr).drew.trans hBf).mono hB.size)
      refine zcZ (i := 13) (o := ⟨some 25, _, _, _, _, _⟩) (by kernel_rfl) rfl (by kernel_rfl) (fun K hK => ?_)
      go_simp
      refine hK.out _ _ ?_
      clear hK K
      try simp only [zP]
      refine zdQ (by kernel_rfl) ?_ _
      refine NoPanic.normal ?_
      go_wp2
      focus
       go_ret
       exact ⟨rfl, hB2⟩
      all_goals (exfalso; rename_i h; rw [h.1, h.2] at hle; cases hle)
    · have hle : (Op.bytesLess x.toList y.toList || x.toList == y.toList) = false := le_of hlv
      have HU' : Hid (∀ j y x, j + 1 < k + 1 → l[j]? = some y → l[j + 1]? = some x → ltTx y x = true) := zI fun j' y' x' h1 h2 h3 => by
       by_cases e : j' + 1 = k
       · obtain rfl : j' = j := by have := HJ.out; omega
         rw [HY.out] at h2
         injection h2 with h2
         rw [e, HX.out] at h3
         injection h3 with h3
         subst h2 h3
         exact hlv
       · exact HU.out j' y' x' (by omega) h2 h3
      clear HU HX HY hlv HR
      go_wp2_with fail
      refine wp_region_noPanic ?_
      refine zcX 13 (fun W => W.cell? ⟨b, off + k, none⟩ = some (.string x) ∧ W.cell? ⟨b, off + j, none⟩ = some (.string y)) (by kernel_rfl) ⟨hc, hd⟩ (fun hHeld => ?_)
      refine tkA 16 (i := 0) (oi := ⟨some 12, _, _, _, _, _⟩) rfl hHeld ?_
      try simp only [zP]
      refine tkA 16 (i := 1) (oi := ⟨some 13, _, _, _, _, _⟩) rfl hHeld ?_
      try simp only [zP]
      refine tkA 16 (i := 2) (oi := ⟨some 14, _, _, _, _, _⟩) rfl hHeld ?_
      try simp only [zP]
      refine tkA 16 (i := 3) (oi := ⟨some 15, _, _, _, _, _⟩) rfl hHeld ?_
      try simp only [zP]
      refine tkA 16 (i := 4) (oi := ⟨some 16, _, _, _, _, _⟩) rfl hHeld ?_
      try simp only [zP]
      refine tkA 16 (i := 6) (oi := ⟨some 18, _, _, _, _, _⟩) rfl hHeld ?_
      try simp only [zP]
      refine tkA 16 (i := 7) (oi := ⟨some 19, _, _, _, _, _⟩) rfl hHeld ?_
      try simp only [zP]
      refine tkA 16 (i := 8) (oi := ⟨some 20, _, _, _, _, _⟩) rfl hHeld ?_
      try simp only [zP]
      refine tkA 16 (i := 9) (oi := ⟨some 21, _, _, _, _, _⟩) rfl hHeld ?_
      try simp only [zP]
      refine tkA 16 (i := 10) (oi := ⟨some 22, _, _, _, _, _⟩) rfl hHeld ?_
      try simp only [zP]
      refine tkA 16 (i := 11) (oi := ⟨some 23, _, _, _, _, _⟩) rfl hHeld ?_
      try simp only [zP]
      clear hHeld
      refine zdZ 16 2 1 [(5, 17), (12, 24)] (fun s v w => match s with
       | 17 => v = .string x
       | 24 => v = .string y
       | _ => True) (fun w w' => Below w.heap.size w w') (by kernel_rfl) (by kernel_rfl) bZh ⟨?_, ?_, trivial⟩ (fun w' hB' => ⟨(hB'.cell (p := ⟨b, off + k, none⟩) hb).trans hc, (hB'.cell (p := ⟨b, off + j, none⟩) hb).trans hd⟩) ⟨?_, ?_, trivial⟩ ?_
      focus
       intro v w w' h hB
       exact h
      focus
       intro v w w' h hB
       exact h
      focus
       intro vs w2 hBf hFf o ho K hK
       obtain rfl : (⟨some 17, _, _, _, _, _⟩ : Oper) = o := Option.some.inj ho
       clear ho
       (try simp only [fillL, zQ, zP] at hK ⊢)
       go_simp
       refine (HQX.out w2).mono ?_
       rintro e w3 ⟨rfl, rfl⟩
       refine hK.out _ _ ⟨rfl, Below.refl _ _⟩
      focus
       intro vs w2 hBf hFf o ho K hK
       obtain rfl : (⟨some 24, _, _, _, _, _⟩ : Oper) = o := Option.some.inj ho
       clear ho
       (try simp only [fillL, zQ, zP] at hK ⊢)
       go_simp
       refine (HQY.out w2).mono ?_
       rintro e w3 ⟨rfl, rfl⟩
       refine hK.out _ _ ⟨rfl, Below.refl _ _⟩
      intro vs w2 hBf hFf
      (try simp only [fillL, zQ, zP])
      have e1 : vs 17 = .string x := (hFf (5, 17) (by simp))
      have e2 : vs 24 = .string y := (hFf (12, 24) (by simp))
      simp only [e1, e2]
      have hB2 : Below w.heap.size w w2 := hB.trans (((Below.refl _ wr).drew.trans hBf).mono hB.size)
      refine zcZ (i := 13) (o := ⟨some 25, _, _, _, _, _⟩) (by kernel_rfl) rfl (by kernel_rfl) (fun K hK => ?_)
      go_simp
      refine hK.out _ _ ?_
      clear hK K
      try simp only [zP]
      refine zdQ (by kernel_rfl) ?_ _
      refine NoPanic.normal ?_
      rw [Bool.or_eq_false_iff] at hle
      go_wp2
      try any_goals (exfalso; rename_i h; rw [hle.1, hle.2] at h; rcases h with h | h <;> cases h; done)
      go_roundw
      case rel => exact ⟨k + 1, by omega, by omega, by go_num, HU', hB2⟩
      case measure => simp [intOf]; omega
  · obtain rfl : R = true := by
     rw [← HR.out, riseB_iff]
     intro j y x h1 h2
     have h3 := (List.getElem?_eq_some_iff.1 h2).1
     exact HU.out j y x (by omega) h1 h2
    clear HU HR
    go_wp2
    go_ret
    exact ⟨rfl, hB⟩
end Go.Proofs.YtimmcmjipmkebaaGreat
