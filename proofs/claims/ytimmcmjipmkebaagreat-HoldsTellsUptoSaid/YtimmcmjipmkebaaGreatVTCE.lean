/-
 each, over the kinds of element. Conditions: the lists are as they come in.
-/
import Derived.Test.YtimmcmjipmkebaaGreatVTCL
import Derived.Test.YtimmcmjipmkebaaGreatVEVStage
namespace Go.Proofs.YtimmcmjipmkebaaGreat
set_option maxHeartbeats 2000000
open Go.ChangeShapes Go.WideShapes Go.ChangeAt Go.RowKit
set_option maxRecDepth 100000
set_option linter.unusedSimpArgs false
theorem infoEBk : (Tryz.prog.info? 106).map (fun i => (i.zero, i.size, i.bytes)) = some (some (.agg #[.int .i64 0, .string ByteArray.empty]), 2, 24) := by kernel_rfl
theorem each_Bk (g : Nat) (lb : Array Value) (eg : Enters Tryz.prog g) (X : Sl Bk) (w : World) (hlen : X.l.length * 24 ≤ 140737488351232) (hr : Rd w X.A (X.l.flatMap bkC))
 (hp : ∀ W y, y ∈ X.l → Below w.heap.size w W → Calls Tryz.prog g (#[.agg (bkC y).toArray] ++ lb) W fun e W' => ∃ y', e = .returned (.agg (bkC y').toArray) ∧ True ∧ id y' = id y ∧ Below W.heap.size W W') :
 Calls Tryz.prog 154 #[.slice X.A X.l.length X.c, .func (.func g) #[] lb] w fun e w' => ∃ Y : Sl Bk, e = .returned Y.val ∧ Y.l.map id = X.l.map id ∧ w'.ownsRow w.heap.size 106 2 Y.val Y.l.length (Y.l.flatMap bkC) ∧ (∀ y ∈ Y.l, True) ∧ Below w.heap.size w w' := by
 obtain ⟨A, l, c⟩ := X
 dsimp only at hlen hr hp ⊢
 have eg' : ∀ args w, (callFunc g args).run Tryz.prog w = .ok (.enter g args) w := eg
 have HPP := zI hp
 clear hp
 go_enter Tryz.func154, Tryz.ntmps154
 go_wp2
 go_loopw [5, 10] (fun v i W => ∃ (k : Nat) (o : List Bk), k ≤ l.length ∧ i = .int .i64 k ∧ o.length ≤ k ∧ Hid (o.map id = (l.take k).map id) ∧ Hid (∀ y ∈ o, True) ∧ Hid (W.ownsRow w.heap.size 106 2 v o.length (o.flatMap bkC)) ∧ Below w.heap.size w W) (fun _ i _ => l.length - (intOf i).toNat)
 case atStart => exact ⟨0, [], Nat.zero_le _, rfl, Nat.le_refl _, zI (by simp), zI (by simp), zI (ownNone _ _ _ _), Below.refl _ _⟩
 case round =>
  obtain ⟨k, o, hk, rfl, hol, HM, HGD, HO, hB⟩ := hrel
  obtain ⟨Av, cv, hv, _, _, _, _⟩ := ownAny HO.out
  subst hv
  by_cases hlt : k < l.length
  · obtain ⟨y, hy⟩ : ∃ y, l[k]? = some y := ⟨l[k], qZa hlt⟩
    obtain ⟨b, off, rfl, hb, hc⟩ := Rd.elem (n := 2) (fun _ => rfl) (by omega) (hr.below hB) hy
    have c0 : wr.cell? ⟨b, off + k * 2, none⟩ = some (.int .i64 y.1) := hc 0 _ rfl
    have c1 : wr.cell? ⟨b, off + k * 2 + 1, none⟩ = some (.string y.2) := hc 1 _ rfl
    obtain ⟨w2, hw2⟩ : ∃ w2, wr.alloc (.cells #[.int .i64 y.1, .string y.2] 106) = w2 := ⟨_, rfl⟩
    have hB2 : Below wr.heap.size wr w2 := hw2 ▸ (Below.refl _ wr).alloc (Nat.le_refl _) _
    have HP := zI (HPP.out w2 y (mG hy) (hB.trans (hB2.mono hB.size)))
    have hs2 := hB2.size
    have hs1 := hB.size
    have HW := zI hw2
    have HY := zI hy
    clear hc hy hw2
    go_wp2_with fail
    rw [HW.out]
    first
     | refine HP.out.mono ?_
     | (go_wp2_with fail; refine HP.out.mono ?_)
    rintro e w3 ⟨y2, rfl, hl2, hf2, hB3⟩
    have hB13 : Below wr.heap.size wr w3 := hB2.trans (hB3.mono hB2.size)
    have hX3 := hB.trans (hB13.mono hB.size)
    have hs3 := hX3.size
    have HO3 := zI (zgQ HO.out hB13 (Nat.le_refl _))
    have HM' : Hid ((o ++ [y2]).map id = (l.take (k + 1)).map id) := zI (by
     rw [List.map_append, HM.out, List.take_add_one, HY.out, List.map_append]
     show _ ++ [id y2] = _ ++ [id y]
     rw [hf2])
    have HL2 := zI hl2
    clear HP HW HO HM hf2 hl2 HY
    go_wp2_with (at_builtin; refine wpAppendK rfl rfl Tryz.underlying45 bkC (fun _ => rfl) (by decide) (fun y u hu => by simp only [List.mem_cons, List.not_mem_nil, or_false] at hu; rcases hu with rfl | rfl <;> rfl) infoEBk rfl hX3 hs3 HO3.out y2 rfl rfl (by unfold maxLen; omega) (by omega) ?_; intro g6 c6 x6 HO6 HB6 HK6)
    have HG' : Hid (∀ y ∈ o ++ [y2], True) := zI fun y hy => by
     have h : True := by
      rcases List.mem_append.1 hy with h | h
      · have h := HGD.out y h
        exact trivial
      · simp at h
        subst h
        have h := HL2.out
        exact h
     exact trivial
    go_roundw
    case rel => exact ⟨k + 1, o ++ [y2], by omega, by go_num, by simp; omega, HM', HG', zI (by simpa using HO6.out), HB6.out⟩
    case measure => simp [intOf]; omega
  · have hke : l.take k = l := List.take_of_length_le (by omega)
    rw [hke] at HM
    clear hke
    go_wp2
    go_ret
    exact ⟨⟨Av, o, cv⟩, rfl, HM.out, HO.out, HGD.out, hB⟩
theorem infoEPr : (Tryz.prog.info? 109).map (fun i => (i.zero, i.size, i.bytes)) = some (some (.agg #[.string ByteArray.empty, .string ByteArray.empty]), 2, 32) := by kernel_rfl
theorem each_Pr (g : Nat) (lb : Array Value) (eg : Enters Tryz.prog g) (X : Sl Pr) (w : World) (hlen : X.l.length * 32 ≤ 140737488351232) (hr : Rd w X.A (X.l.flatMap prC))
 (hp : ∀ W y, y ∈ X.l → Below w.heap.size w W → Calls Tryz.prog g (#[.agg (prC y).toArray] ++ lb) W fun e W' => ∃ y', e = .returned (.agg (prC y').toArray) ∧ True ∧ id y' = id y ∧ Below W.heap.size W W') :
 Calls Tryz.prog 158 #[.slice X.A X.l.length X.c, .func (.func g) #[] lb] w fun e w' => ∃ Y : Sl Pr, e = .returned Y.val ∧ Y.l.map id = X.l.map id ∧ w'.ownsRow w.heap.size 109 2 Y.val Y.l.length (Y.l.flatMap prC) ∧ (∀ y ∈ Y.l, True) ∧ Below w.heap.size w w' := by
 obtain ⟨A, l, c⟩ := X
 dsimp only at hlen hr hp ⊢
 have eg' : ∀ args w, (callFunc g args).run Tryz.prog w = .ok (.enter g args) w := eg
 have HPP := zI hp
 clear hp
 go_enter Tryz.func158, Tryz.ntmps158
 go_wp2
 go_loopw [5, 10] (fun v i W => ∃ (k : Nat) (o : List Pr), k ≤ l.length ∧ i = .int .i64 k ∧ o.length ≤ k ∧ Hid (o.map id = (l.take k).map id) ∧ Hid (∀ y ∈ o, True) ∧ Hid (W.ownsRow w.heap.size 109 2 v o.length (o.flatMap prC)) ∧ Below w.heap.size w W) (fun _ i _ => l.length - (intOf i).toNat)
 case atStart => exact ⟨0, [], Nat.zero_le _, rfl, Nat.le_refl _, zI (by simp), zI (by simp), zI (ownNone _ _ _ _), Below.refl _ _⟩
 case round =>
  obtain ⟨k, o, hk, rfl, hol, HM, HGD, HO, hB⟩ := hrel
  obtain ⟨Av, cv, hv, _, _, _, _⟩ := ownAny HO.out
  subst hv
  by_cases hlt : k < l.length
  · obtain ⟨y, hy⟩ : ∃ y, l[k]? = some y := ⟨l[k], qZa hlt⟩
    obtain ⟨b, off, rfl, hb, hc⟩ := Rd.elem (n := 2) (fun _ => rfl) (by omega) (hr.below hB) hy
    have c0 : wr.cell? ⟨b, off + k * 2, none⟩ = some (.string y.1) := hc 0 _ rfl
    have c1 : wr.cell? ⟨b, off + k * 2 + 1, none⟩ = some (.string y.2) := hc 1 _ rfl
    obtain ⟨w2, hw2⟩ : ∃ w2, wr.alloc (.cells #[.string y.1, .string y.2] 109) = w2 := ⟨_, rfl⟩
    have hB2 : Below wr.heap.size wr w2 := hw2 ▸ (Below.refl _ wr).alloc (Nat.le_refl _) _
    have HP := zI (HPP.out w2 y (mG hy) (hB.trans (hB2.mono hB.size)))
    have hs2 := hB2.size
    have hs1 := hB.size
    have HW := zI hw2
    have HY := zI hy
    clear hc hy hw2
    go_wp2_with fail
    rw [HW.out]
    first
     | refine HP.out.mono ?_
     | (go_wp2_with fail; refine HP.out.mono ?_)
    rintro e w3 ⟨y2, rfl, hl2, hf2, hB3⟩
    have hB13 : Below wr.heap.size wr w3 := hB2.trans (hB3.mono hB2.size)
    have hX3 := hB.trans (hB13.mono hB.size)
    have hs3 := hX3.size
    have HO3 := zI (zgQ HO.out hB13 (Nat.le_refl _))
    have HM' : Hid ((o ++ [y2]).map id = (l.take (k + 1)).map id) := zI (by
     rw [List.map_append, HM.out, List.take_add_one, HY.out, List.map_append]
     show _ ++ [id y2] = _ ++ [id y]
     rw [hf2])
    have HL2 := zI hl2
    clear HP HW HO HM hf2 hl2 HY
    go_wp2_with (at_builtin; refine wpAppendK rfl rfl Tryz.underlying47 prC (fun _ => rfl) (by decide) (fun y u hu => by simp only [List.mem_cons, List.not_mem_nil, or_false] at hu; rcases hu with rfl | rfl <;> rfl) infoEPr rfl hX3 hs3 HO3.out y2 rfl rfl (by unfold maxLen; omega) (by omega) ?_; intro g6 c6 x6 HO6 HB6 HK6)
    have HG' : Hid (∀ y ∈ o ++ [y2], True) := zI fun y hy => by
     have h : True := by
      rcases List.mem_append.1 hy with h | h
      · have h := HGD.out y h
        exact trivial
      · simp at h
        subst h
        have h := HL2.out
        exact h
     exact trivial
    go_roundw
    case rel => exact ⟨k + 1, o ++ [y2], by omega, by go_num, by simp; omega, HM', HG', zI (by simpa using HO6.out), HB6.out⟩
    case measure => simp [intOf]; omega
  · have hke : l.take k = l := List.take_of_length_le (by omega)
    rw [hke] at HM
    clear hke
    go_wp2
    go_ret
    exact ⟨⟨Av, o, cv⟩, rfl, HM.out, HO.out, HGD.out, hB⟩
theorem infoEGr : (Tryz.prog.info? 111).map (fun i => (i.zero, i.size, i.bytes)) = some (some (.agg #[.string ByteArray.empty, .string ByteArray.empty, .int .i64 0]), 3, 40) := by kernel_rfl
theorem each_Gr (g : Nat) (lb : Array Value) (eg : Enters Tryz.prog g) (X : Sl Gr) (w : World) (hlen : X.l.length * 40 ≤ 140737488351232) (hr : Rd w X.A (X.l.flatMap grC))
 (hp : ∀ W y, y ∈ X.l → Below w.heap.size w W → Calls Tryz.prog g (#[.agg (grC y).toArray] ++ lb) W fun e W' => ∃ y', e = .returned (.agg (grC y').toArray) ∧ True ∧ id y' = id y ∧ Below W.heap.size W W') :
 Calls Tryz.prog 99 #[.slice X.A X.l.length X.c, .func (.func g) #[] lb] w fun e w' => ∃ Y : Sl Gr, e = .returned Y.val ∧ Y.l.map id = X.l.map id ∧ w'.ownsRow w.heap.size 111 3 Y.val Y.l.length (Y.l.flatMap grC) ∧ (∀ y ∈ Y.l, True) ∧ Below w.heap.size w w' := by
 obtain ⟨A, l, c⟩ := X
 dsimp only at hlen hr hp ⊢
 have eg' : ∀ args w, (callFunc g args).run Tryz.prog w = .ok (.enter g args) w := eg
 have HPP := zI hp
 clear hp
 go_enter Tryz.func99, Tryz.ntmps99
 go_wp2
 go_loopw [5, 10] (fun v i W => ∃ (k : Nat) (o : List Gr), k ≤ l.length ∧ i = .int .i64 k ∧ o.length ≤ k ∧ Hid (o.map id = (l.take k).map id) ∧ Hid (∀ y ∈ o, True) ∧ Hid (W.ownsRow w.heap.size 111 3 v o.length (o.flatMap grC)) ∧ Below w.heap.size w W) (fun _ i _ => l.length - (intOf i).toNat)
 case atStart => exact ⟨0, [], Nat.zero_le _, rfl, Nat.le_refl _, zI (by simp), zI (by simp), zI (ownNone _ _ _ _), Below.refl _ _⟩
 case round =>
  obtain ⟨k, o, hk, rfl, hol, HM, HGD, HO, hB⟩ := hrel
  obtain ⟨Av, cv, hv, _, _, _, _⟩ := ownAny HO.out
  subst hv
  by_cases hlt : k < l.length
  · obtain ⟨y, hy⟩ : ∃ y, l[k]? = some y := ⟨l[k], qZa hlt⟩
    obtain ⟨b, off, rfl, hb, hc⟩ := Rd.elem (n := 3) (fun _ => rfl) (by omega) (hr.below hB) hy
    have c0 : wr.cell? ⟨b, off + k * 3, none⟩ = some (.string y.1) := hc 0 _ rfl
    have c1 : wr.cell? ⟨b, off + k * 3 + 1, none⟩ = some (.string y.2.1) := hc 1 _ rfl
    have c2 : wr.cell? ⟨b, off + k * 3 + 2, none⟩ = some (.int .i64 y.2.2) := hc 2 _ rfl
    obtain ⟨w2, hw2⟩ : ∃ w2, wr.alloc (.cells #[.string y.1, .string y.2.1, .int .i64 y.2.2] 111) = w2 := ⟨_, rfl⟩
    have hB2 : Below wr.heap.size wr w2 := hw2 ▸ (Below.refl _ wr).alloc (Nat.le_refl _) _
    have HP := zI (HPP.out w2 y (mG hy) (hB.trans (hB2.mono hB.size)))
    have hs2 := hB2.size
    have hs1 := hB.size
    have HW := zI hw2
    have HY := zI hy
    clear hc hy hw2
    go_wp2_with fail
    rw [HW.out]
    first
     | refine HP.out.mono ?_
     | (go_wp2_with fail; refine HP.out.mono ?_)
    rintro e w3 ⟨y2, rfl, hl2, hf2, hB3⟩
    have hB13 : Below wr.heap.size wr w3 := hB2.trans (hB3.mono hB2.size)
    have hX3 := hB.trans (hB13.mono hB.size)
    have hs3 := hX3.size
    have HO3 := zI (zgQ HO.out hB13 (Nat.le_refl _))
    have HM' : Hid ((o ++ [y2]).map id = (l.take (k + 1)).map id) := zI (by
     rw [List.map_append, HM.out, List.take_add_one, HY.out, List.map_append]
     show _ ++ [id y2] = _ ++ [id y]
     rw [hf2])
    have HL2 := zI hl2
    clear HP HW HO HM hf2 hl2 HY
    go_wp2_with (at_builtin; refine wpAppendK rfl rfl Tryz.underlying23 grC (fun _ => rfl) (by decide) (fun y u hu => by simp only [List.mem_cons, List.not_mem_nil, or_false] at hu; rcases hu with rfl | rfl | rfl <;> rfl) infoEGr rfl hX3 hs3 HO3.out y2 rfl rfl (by unfold maxLen; omega) (by omega) ?_; intro g6 c6 x6 HO6 HB6 HK6)
    have HG' : Hid (∀ y ∈ o ++ [y2], True) := zI fun y hy => by
     have h : True := by
      rcases List.mem_append.1 hy with h | h
      · have h := HGD.out y h
        exact trivial
      · simp at h
        subst h
        have h := HL2.out
        exact h
     exact trivial
    go_roundw
    case rel => exact ⟨k + 1, o ++ [y2], by omega, by go_num, by simp; omega, HM', HG', zI (by simpa using HO6.out), HB6.out⟩
    case measure => simp [intOf]; omega
  · have hke : l.take k = l := List.take_of_length_le (by omega)
    rw [hke] at HM
    clear hke
    go_wp2
    go_ret
    exact ⟨⟨Av, o, cv⟩, rfl, HM.out, HO.out, HGD.out, hB⟩
theorem infoEEn : (Tryz.prog.info? 104).map (fun i => (i.zero, i.size, i.bytes)) = some (some (.agg #[.string ByteArray.empty, .int .i64 0, .string ByteArray.empty, .int .i64 0]), 4, 48) := by kernel_rfl
theorem each_En (g : Nat) (lb : Array Value) (eg : Enters Tryz.prog g) (X : Sl ME_) (w : World) (hlen : X.l.length * 48 ≤ 140737488351232) (hr : Rd w X.A (X.l.flatMap ME_.cells))
 (hp : ∀ W y, y ∈ X.l → Below w.heap.size w W → Calls Tryz.prog g (#[.agg (ME_.cells y).toArray] ++ lb) W fun e W' => ∃ y', e = .returned (.agg (ME_.cells y').toArray) ∧ True ∧ ME_.plain y' = ME_.plain y ∧ Below W.heap.size W W') :
 Calls Tryz.prog 103 #[.slice X.A X.l.length X.c, .func (.func g) #[] lb] w fun e w' => ∃ Y : Sl ME_, e = .returned Y.val ∧ Y.l.map ME_.plain = X.l.map ME_.plain ∧ w'.ownsRow w.heap.size 104 4 Y.val Y.l.length (Y.l.flatMap ME_.cells) ∧ (∀ y ∈ Y.l, True) ∧ Below w.heap.size w w' := by
 obtain ⟨A, l, c⟩ := X
 dsimp only at hlen hr hp ⊢
 have eg' : ∀ args w, (callFunc g args).run Tryz.prog w = .ok (.enter g args) w := eg
 have HPP := zI hp
 clear hp
 go_enter Tryz.func103, Tryz.ntmps103
 go_wp2
 go_loopw [5, 10] (fun v i W => ∃ (k : Nat) (o : List ME_), k ≤ l.length ∧ i = .int .i64 k ∧ o.length ≤ k ∧ Hid (o.map ME_.plain = (l.take k).map ME_.plain) ∧ Hid (∀ y ∈ o, True) ∧ Hid (W.ownsRow w.heap.size 104 4 v o.length (o.flatMap ME_.cells)) ∧ Below w.heap.size w W) (fun _ i _ => l.length - (intOf i).toNat)
 case atStart => exact ⟨0, [], Nat.zero_le _, rfl, Nat.le_refl _, zI (by simp), zI (by simp), zI (ownNone _ _ _ _), Below.refl _ _⟩
 case round =>
  obtain ⟨k, o, hk, rfl, hol, HM, HGD, HO, hB⟩ := hrel
  obtain ⟨Av, cv, hv, _, _, _, _⟩ := ownAny HO.out
  subst hv
  by_cases hlt : k < l.length
  · obtain ⟨y, hy⟩ : ∃ y, l[k]? = some y := ⟨l[k], qZa hlt⟩
    obtain ⟨b, off, rfl, hb, hc⟩ := Rd.elem (n := 4) (fun _ => rfl) (by omega) (hr.below hB) hy
    have c0 : wr.cell? ⟨b, off + k * 4, none⟩ = some (.string y.O_) := hc 0 _ rfl
    have c1 : wr.cell? ⟨b, off + k * 4 + 1, none⟩ = some (.int .i64 y.N_) := hc 1 _ rfl
    have c2 : wr.cell? ⟨b, off + k * 4 + 2, none⟩ = some (.string y.l_) := hc 2 _ rfl
    have c3 : wr.cell? ⟨b, off + k * 4 + 3, none⟩ = some (.int .i64 y.err_) := hc 3 _ rfl
    obtain ⟨w2, hw2⟩ : ∃ w2, wr.alloc (.cells #[.string y.O_, .int .i64 y.N_, .string y.l_, .int .i64 y.err_] 104) = w2 := ⟨_, rfl⟩
    have hB2 : Below wr.heap.size wr w2 := hw2 ▸ (Below.refl _ wr).alloc (Nat.le_refl _) _
    have HP := zI (HPP.out w2 y (mG hy) (hB.trans (hB2.mono hB.size)))
    have hs2 := hB2.size
    have hs1 := hB.size
    have HW := zI hw2
    have HY := zI hy
    clear hc hy hw2
    go_wp2_with fail
    rw [HW.out]
    first
     | refine HP.out.mono ?_
     | (go_wp2_with fail; refine HP.out.mono ?_)
    rintro e w3 ⟨y2, rfl, hl2, hf2, hB3⟩
    have hB13 : Below wr.heap.size wr w3 := hB2.trans (hB3.mono hB2.size)
    have hX3 := hB.trans (hB13.mono hB.size)
    have hs3 := hX3.size
    have HO3 := zI (zgQ HO.out hB13 (Nat.le_refl _))
    have HM' : Hid ((o ++ [y2]).map ME_.plain = (l.take (k + 1)).map ME_.plain) := zI (by
     rw [List.map_append, HM.out, List.take_add_one, HY.out, List.map_append]
     show _ ++ [ME_.plain y2] = _ ++ [ME_.plain y]
     rw [hf2])
    have HL2 := zI hl2
    clear HP HW HO HM hf2 hl2 HY
    go_wp2_with (at_builtin; refine wpAppendK rfl rfl Tryz.underlying25 ME_.cells (fun _ => rfl) (by decide) (fun y u hu => by simp only [List.mem_cons, List.not_mem_nil, or_false] at hu; rcases hu with rfl | rfl | rfl | rfl <;> rfl) infoEEn rfl hX3 hs3 HO3.out y2 rfl rfl (by unfold maxLen; omega) (by omega) ?_; intro g6 c6 x6 HO6 HB6 HK6)
    have HG' : Hid (∀ y ∈ o ++ [y2], True) := zI fun y hy => by
     have h : True := by
      rcases List.mem_append.1 hy with h | h
      · have h := HGD.out y h
        exact trivial
      · simp at h
        subst h
        have h := HL2.out
        exact h
     exact trivial
    go_roundw
    case rel => exact ⟨k + 1, o ++ [y2], by omega, by go_num, by simp; omega, HM', HG', zI (by simpa using HO6.out), HB6.out⟩
    case measure => simp [intOf]; omega
  · have hke : l.take k = l := List.take_of_length_le (by omega)
    rw [hke] at HM
    clear hke
    go_wp2
    go_ret
    exact ⟨⟨Av, o, cv⟩, rfl, HM.out, HO.out, HGD.out, hB⟩
theorem infoESn : (Tryz.prog.info? 49).map (fun i => (i.zero, i.size, i.bytes)) = some (some (.agg #[.string ByteArray.empty, .int .i64 0, .slice none 0 0, .slice none 0 0, .slice none 0 0]), 5, 96) := by kernel_rfl
theorem each_Sn (g : Nat) (lb : Array Value) (eg : Enters Tryz.prog g) (X : Sl Mna) (w : World) (hlen : X.l.length * 96 ≤ 140737488351232) (hr : Rd w X.A (X.l.flatMap Mna.cells))
 (hp : ∀ W y, y ∈ X.l → Below w.heap.size w W → Calls Tryz.prog g (#[.agg (Mna.cells y).toArray] ++ lb) W fun e W' => ∃ y', e = .returned (.agg (Mna.cells y').toArray) ∧ OwnSn W.heap.size W' y' ∧ Mna.plain y' = Mna.plain y ∧ Below W.heap.size W W') :
 Calls Tryz.prog 156 #[.slice X.A X.l.length X.c, .func (.func g) #[] lb] w fun e w' => ∃ Y : Sl Mna, e = .returned Y.val ∧ Y.l.map Mna.plain = X.l.map Mna.plain ∧ w'.ownsRow w.heap.size 49 5 Y.val Y.l.length (Y.l.flatMap Mna.cells) ∧ (∀ y ∈ Y.l, OwnSn w.heap.size w' y) ∧ Y.l.Pairwise SepG ∧ Below w.heap.size w w' := by
 obtain ⟨A, l, c⟩ := X
 dsimp only at hlen hr hp ⊢
 have eg' : ∀ args w, (callFunc g args).run Tryz.prog w = .ok (.enter g args) w := eg
 have HPP := zI hp
 clear hp
 go_enter Tryz.func156, Tryz.ntmps156
 go_wp2
 go_loopw [5, 10] (fun v i W => ∃ (k : Nat) (o : List Mna), k ≤ l.length ∧ i = .int .i64 k ∧ o.length ≤ k ∧ Hid (o.map Mna.plain = (l.take k).map Mna.plain) ∧ Hid (∀ y ∈ o, OwnSn w.heap.size W y) ∧ Hid (o.Pairwise SepG) ∧ Hid (W.ownsRow w.heap.size 49 5 v o.length (o.flatMap Mna.cells)) ∧ Below w.heap.size w W) (fun _ i _ => l.length - (intOf i).toNat)
 case atStart => exact ⟨0, [], Nat.zero_le _, rfl, Nat.le_refl _, zI (by simp), zI (by simp), zI List.Pairwise.nil, zI (ownNone _ _ _ _), Below.refl _ _⟩
 case round =>
  obtain ⟨k, o, hk, rfl, hol, HM, HGD, HSP, HO, hB⟩ := hrel
  obtain ⟨Av, cv, hv, _, _, _, _⟩ := ownAny HO.out
  subst hv
  by_cases hlt : k < l.length
  · obtain ⟨y, hy⟩ : ∃ y, l[k]? = some y := ⟨l[k], qZa hlt⟩
    obtain ⟨b, off, rfl, hb, hc⟩ := Rd.elem (n := 5) (fun _ => rfl) (by omega) (hr.below hB) hy
    have c0 : wr.cell? ⟨b, off + k * 5, none⟩ = some (.string y.x_) := hc 0 _ rfl
    have c1 : wr.cell? ⟨b, off + k * 5 + 1, none⟩ = some (.int .i64 y.z_) := hc 1 _ rfl
    have c2 : wr.cell? ⟨b, off + k * 5 + 2, none⟩ = some (.slice y.p_.A y.p_.l.length y.p_.c) := hc 2 _ rfl
    have c3 : wr.cell? ⟨b, off + k * 5 + 3, none⟩ = some (.slice y.u_.A y.u_.l.length y.u_.c) := hc 3 _ rfl
    have c4 : wr.cell? ⟨b, off + k * 5 + 4, none⟩ = some (.slice y.j_.A y.j_.l.length y.j_.c) := hc 4 _ rfl
    obtain ⟨w2, hw2⟩ : ∃ w2, wr.alloc (.cells #[.string y.x_, .int .i64 y.z_, .slice y.p_.A y.p_.l.length y.p_.c, .slice y.u_.A y.u_.l.length y.u_.c, .slice y.j_.A y.j_.l.length y.j_.c] 49) = w2 := ⟨_, rfl⟩
    have hB2 : Below wr.heap.size wr w2 := hw2 ▸ (Below.refl _ wr).alloc (Nat.le_refl _) _
    have HP := zI (HPP.out w2 y (mG hy) (hB.trans (hB2.mono hB.size)))
    have hs2 := hB2.size
    have hs1 := hB.size
    have HW := zI hw2
    have HY := zI hy
    clear hc hy hw2
    go_wp2_with fail
    rw [HW.out]
    first
     | refine HP.out.mono ?_
     | (go_wp2_with fail; refine HP.out.mono ?_)
    rintro e w3 ⟨y2, rfl, hl2, hf2, hB3⟩
    have hB13 : Below wr.heap.size wr w3 := hB2.trans (hB3.mono hB2.size)
    have hX3 := hB.trans (hB13.mono hB.size)
    have hs3 := hX3.size
    have HO3 := zI (zgQ HO.out hB13 (Nat.le_refl _))
    have HM' : Hid ((o ++ [y2]).map Mna.plain = (l.take (k + 1)).map Mna.plain) := zI (by
     rw [List.map_append, HM.out, List.take_add_one, HY.out, List.map_append]
     show _ ++ [Mna.plain y2] = _ ++ [Mna.plain y]
     rw [hf2])
    have HL2 := zI hl2
    have HSP' : Hid ((o ++ [y2]).Pairwise SepG) := zI (List.pairwise_append.2 ⟨HSP.out, List.pairwise_singleton _ _, fun a ha b hb g h hg hh => by
     rw [List.mem_singleton] at hb
     subst hb
     have h1 := (row_blk (HGD.out a ha).tags hg).2.1
     have h2 := (row_blk hl2.tags hh).1
     omega⟩)
    clear HP HW HO HM hf2 hl2 HY
    go_wp2_with (at_builtin; refine wpAppendK rfl rfl Tryz.underlying50 Mna.cells (fun _ => rfl) (by decide) (fun y u hu => by simp only [List.mem_cons, List.not_mem_nil, or_false] at hu; rcases hu with rfl | rfl | rfl | rfl | rfl <;> rfl) infoESn rfl hX3 hs3 HO3.out y2 rfl rfl (by unfold maxLen; omega) (by omega) ?_; intro g6 c6 x6 HO6 HB6 HK6)
    have HG' : Hid (∀ y ∈ o ++ [y2], OwnSn w.heap.size x6 y) := zI fun y hy => by
     have h : OwnSn w.heap.size w3 y := by
      rcases List.mem_append.1 hy with h | h
      · have h := HGD.out y h
        exact h.below hB13
      · simp at h
        subst h
        have h := HL2.out
        exact h.base (by omega)
     exact h.keep HK6.out (by decide) (by decide) (by decide)
    go_roundw
    case rel => exact ⟨k + 1, o ++ [y2], by omega, by go_num, by simp; omega, HM', HG', HSP', zI (by simpa using HO6.out), HB6.out⟩
    case measure => simp [intOf]; omega
  · have hke : l.take k = l := List.take_of_length_le (by omega)
    rw [hke] at HM
    clear hke
    go_wp2
    go_ret
    exact ⟨⟨Av, o, cv⟩, rfl, HM.out, HO.out, HGD.out, HSP.out, hB⟩
theorem infoESe : (Tryz.prog.info? 52).map (fun i => (i.zero, i.size, i.bytes)) = some (some (.agg #[.string ByteArray.empty, .string ByteArray.empty, .slice none 0 0, .slice none 0 0, .slice none 0 0]), 5, 104) := by kernel_rfl
theorem each_Se (g : Nat) (lb : Array Value) (eg : Enters Tryz.prog g) (X : Sl MSet) (w : World) (hlen : X.l.length * 104 ≤ 140737488351232) (hr : Rd w X.A (X.l.flatMap MSet.cells))
 (hp : ∀ W y, y ∈ X.l → Below w.heap.size w W → Calls Tryz.prog g (#[.agg (MSet.cells y).toArray] ++ lb) W fun e W' => ∃ y', e = .returned (.agg (MSet.cells y').toArray) ∧ OwnSe W.heap.size W' y' ∧ MSet.plain y' = MSet.plain y ∧ y'.n_.l.Pairwise SepG ∧ Below W.heap.size W W') :
 Calls Tryz.prog 97 #[.slice X.A X.l.length X.c, .func (.func g) #[] lb] w fun e w' => ∃ Y : Sl MSet, e = .returned Y.val ∧ Y.l.map MSet.plain = X.l.map MSet.plain ∧ w'.ownsRow w.heap.size 52 5 Y.val Y.l.length (Y.l.flatMap MSet.cells) ∧ (∀ y ∈ Y.l, OwnSe w.heap.size w' y) ∧ Y.l.Pairwise SepS ∧ Y.l.Pairwise SepT ∧ (∀ y ∈ Y.l, y.n_.l.Pairwise SepG) ∧ Below w.heap.size w w' := by
 obtain ⟨A, l, c⟩ := X
 dsimp only at hlen hr hp ⊢
 have eg' : ∀ args w, (callFunc g args).run Tryz.prog w = .ok (.enter g args) w := eg
 have HPP := zI hp
 clear hp
 go_enter Tryz.func97, Tryz.ntmps97
 go_wp2
 go_loopw [5, 10] (fun v i W => ∃ (k : Nat) (o : List MSet), k ≤ l.length ∧ i = .int .i64 k ∧ o.length ≤ k ∧ Hid (o.map MSet.plain = (l.take k).map MSet.plain) ∧ Hid (∀ y ∈ o, OwnSe w.heap.size W y) ∧ Hid (o.Pairwise SepS) ∧ Hid (o.Pairwise SepT ∧ ∀ y ∈ o, y.n_.l.Pairwise SepG) ∧ Hid (W.ownsRow w.heap.size 52 5 v o.length (o.flatMap MSet.cells)) ∧ Below w.heap.size w W) (fun _ i _ => l.length - (intOf i).toNat)
 case atStart => exact ⟨0, [], Nat.zero_le _, rfl, Nat.le_refl _, zI (by simp), zI (by simp), zI List.Pairwise.nil, zI ⟨List.Pairwise.nil, by simp⟩, zI (ownNone _ _ _ _), Below.refl _ _⟩
 case round =>
  obtain ⟨k, o, hk, rfl, hol, HM, HGD, HSP, HST, HO, hB⟩ := hrel
  obtain ⟨Av, cv, hv, _, _, _, _⟩ := ownAny HO.out
  subst hv
  by_cases hlt : k < l.length
  · obtain ⟨y, hy⟩ : ∃ y, l[k]? = some y := ⟨l[k], qZa hlt⟩
    obtain ⟨b, off, rfl, hb, hc⟩ := Rd.elem (n := 5) (fun _ => rfl) (by omega) (hr.below hB) hy
    have c0 : wr.cell? ⟨b, off + k * 5, none⟩ = some (.string y.l_) := hc 0 _ rfl
    have c1 : wr.cell? ⟨b, off + k * 5 + 1, none⟩ = some (.string y.m_) := hc 1 _ rfl
    have c2 : wr.cell? ⟨b, off + k * 5 + 2, none⟩ = some (.slice y.p_.A y.p_.l.length y.p_.c) := hc 2 _ rfl
    have c3 : wr.cell? ⟨b, off + k * 5 + 3, none⟩ = some (.slice y.n_.A y.n_.l.length y.n_.c) := hc 3 _ rfl
    have c4 : wr.cell? ⟨b, off + k * 5 + 4, none⟩ = some (.slice y.j_.A y.j_.l.length y.j_.c) := hc 4 _ rfl
    obtain ⟨w2, hw2⟩ : ∃ w2, wr.alloc (.cells #[.string y.l_, .string y.m_, .slice y.p_.A y.p_.l.length y.p_.c, .slice y.n_.A y.n_.l.length y.n_.c, .slice y.j_.A y.j_.l.length y.j_.c] 52) = w2 := ⟨_, rfl⟩
    have hB2 : Below wr.heap.size wr w2 := hw2 ▸ (Below.refl _ wr).alloc (Nat.le_refl _) _
    have HP := zI (HPP.out w2 y (mG hy) (hB.trans (hB2.mono hB.size)))
    have hs2 := hB2.size
    have hs1 := hB.size
    have HW := zI hw2
    have HY := zI hy
    clear hc hy hw2
    go_wp2_with fail
    rw [HW.out]
    first
     | refine HP.out.mono ?_
     | (go_wp2_with fail; refine HP.out.mono ?_)
    rintro e w3 ⟨y2, rfl, hl2, hf2, hg2, hB3⟩
    have hB13 : Below wr.heap.size wr w3 := hB2.trans (hB3.mono hB2.size)
    have hX3 := hB.trans (hB13.mono hB.size)
    have hs3 := hX3.size
    have HO3 := zI (zgQ HO.out hB13 (Nat.le_refl _))
    have HM' : Hid ((o ++ [y2]).map MSet.plain = (l.take (k + 1)).map MSet.plain) := zI (by
     rw [List.map_append, HM.out, List.take_add_one, HY.out, List.map_append]
     show _ ++ [MSet.plain y2] = _ ++ [MSet.plain y]
     rw [hf2])
    have HL2 := zI hl2
    have HSP' : Hid ((o ++ [y2]).Pairwise SepS) := zI (List.pairwise_append.2 ⟨HSP.out, List.pairwise_singleton _ _, fun a ha b hb g h hg hh => by
     rw [List.mem_singleton] at hb
     subst hb
     have h1 := ((HGD.out a ha).blk hg).2
     have h2 := (hl2.blk hh).1
     omega⟩)
    have HST' : Hid ((o ++ [y2]).Pairwise SepT ∧ ∀ y ∈ o ++ [y2], y.n_.l.Pairwise SepG) := zI ⟨List.pairwise_append.2 ⟨HST.out.1, List.pairwise_singleton _ _, fun a ha b hb x hx z hz g h hg hh => by
     rw [List.mem_singleton] at hb
     subst hb
     have h1 := (row_blk ((HGD.out a ha).each x hx).tags hg).2.1
     have h2 := (row_blk (hl2.each z hz).tags hh).1
     omega⟩, fun z hz => by
     rcases List.mem_append.1 hz with h | h
     · exact HST.out.2 z h
     · rw [List.mem_singleton] at h
       subst h
       exact hg2⟩
    clear HP HW HO HM hf2 hl2 HY hg2
    go_wp2_with (at_builtin; refine wpAppendK rfl rfl Tryz.underlying22 MSet.cells (fun _ => rfl) (by decide) (fun y u hu => by simp only [List.mem_cons, List.not_mem_nil, or_false] at hu; rcases hu with rfl | rfl | rfl | rfl | rfl <;> rfl) infoESe rfl hX3 hs3 HO3.out y2 rfl rfl (by unfold maxLen; omega) (by omega) ?_; intro g6 c6 x6 HO6 HB6 HK6)
    have HG' : Hid (∀ y ∈ o ++ [y2], OwnSe w.heap.size x6 y) := zI fun y hy => by
     have h : OwnSe w.heap.size w3 y := by
      rcases List.mem_append.1 hy with h | h
      · have h := HGD.out y h
        exact h.below hB13
      · simp at h
        subst h
        have h := HL2.out
        exact h.base (by omega)
     exact h.keep HK6.out (by decide) (by decide) (by decide) (by decide)
    go_roundw
    case rel => exact ⟨k + 1, o ++ [y2], by omega, by go_num, by simp; omega, HM', HG', HSP', HST', zI (by simpa using HO6.out), HB6.out⟩
    case measure => simp [intOf]; omega
  · have hke : l.take k = l := List.take_of_length_le (by omega)
    rw [hke] at HM
    clear hke
    go_wp2
    go_ret
    exact ⟨⟨Av, o, cv⟩, rfl, HM.out, HO.out, HGD.out, HSP.out, HST.out.1, HST.out.2, hB⟩
end Go.Proofs.YtimmcmjipmkebaaGreat
