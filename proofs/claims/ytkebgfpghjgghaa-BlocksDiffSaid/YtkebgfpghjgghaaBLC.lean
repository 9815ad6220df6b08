/-
  blocks: Get, Same, and their references. Conditions: the lists are as they come in.
-/
import Derived.Test.YtkebgfpghjgghaaBLA
import Derived.BigQuiet
namespace Go.Proofs.Ytkebgfpghjgghaa
open Go.ChangeShapes Go.WideShapes Go.ChangeAt Go.RowKit
set_option maxRecDepth 100000

/-- A text, is it there? -/
abbrev ansG (o : Option ByteArray) : Value := .tuple #[.string (o.getD ByteArray.empty), .bool o.isSome]
/-- Where one is. -/
def atK (l : List Bk) (i : Int) : Option Nat := l.findIdx? (fun x => decide (x.1 = i))
theorem findIdx_drop {α : Type} (p : α → Bool) : ∀ (l : List α) (k : Nat), (∀ x ∈ l.take k, p x = false) → ∀ x, l[k]? = some x → p x = true → l.findIdx? p = some k
  | y :: l, 0, _, x, h, hp => by
    simp at h
    subst h
    simp [List.findIdx?_cons, hp]
  | y :: l, k + 1, h, x, hx, hp => by
    have hy := h y (by simp)
    have ih := findIdx_drop p l k (fun z hz => h z (by simp [hz])) x (by simpa using hx) hp
    simp [List.findIdx?_cons, hy, ih]
theorem find_none {α : Type} (p : α → Bool) (l : List α) (h : ∀ x ∈ l, p x = false) : l.find? p = none := by
  rw [List.find?_eq_none]
  intro x hx
  simp [h x hx]
theorem find_at {α : Type} (p : α → Bool) : ∀ (l : List α) (k : Nat), (∀ x ∈ l.take k, p x = false) → ∀ x, l[k]? = some x → p x = true → l.find? p = some x
  | y :: l, 0, _, x, h, hp => by
    simp at h
    subst h
    simp [hp]
  | y :: l, k + 1, h, x, hx, hp => by
    have hy := h y (by simp)
    have ih := find_at p l k (fun z hz => h z (by simp [hz])) x (by simpa using hx) hp
    simp [hy, ih]

theorem get1_any (Bk0 : Nat) (i : Int) (x : Bk) (w : World) (h0 : w.cell? ⟨Bk0, 0, none⟩ = some (.int .i64 i)) :
    Calls Try.prog 34 #[bkV x, .pointer (some ⟨Bk0, 0, none⟩)] w fun e w' => e = .returned (.bool (decide (x.1 = i))) ∧ Below w.heap.size w w' := by
  have hB0 : Below w.heap.size w (w.alloc (.cells #[.int .i64 x.1, .string x.2] 58)) := (Below.refl _ w).alloc (Nat.le_refl _) _
  have hl := World.block_lt_of_cell? w ⟨Bk0, 0, none⟩ h0
  have hd : (x.1 == i) = decide (x.1 = i) := rfl
  go_enter Try.func34, Try.ntmps34
  go_wp2
  go_ret
  exact ⟨rfl, hB0⟩

set_option maxHeartbeats 1000000 in
theorem indexFunc_any (Bk0 : Nat) (i : Int) (A : Option Addr) (c : Nat) (l : List Bk) (hl : l.length ≤ 8796093022208) (w : World) (h0 : w.cell? ⟨Bk0, 0, none⟩ = some (.int .i64 i)) (hr : Rd w A (bks l)) :
    Calls Try.prog 33 #[.slice A l.length c, .func (.func 34) #[] #[.pointer (some ⟨Bk0, 0, none⟩)]] w fun e w' => Below w.heap.size w w' ∧
      ((∃ (k : Nat) (x : Bk), l[k]? = some x ∧ x.1 = i ∧ getK l i = some x.2 ∧ e = .returned (.int .i64 k)) ∨ (getK l i = none ∧ e = .returned (.int .i64 (-1)))) := by
  have eg' : ∀ args w, (callFunc 34 args).run Try.prog w = .ok (.enter 34 args) w := enters_of Try.func34 (by kernel_rfl) rfl
  have hbl := World.block_lt_of_cell? w ⟨Bk0, 0, none⟩ h0
  go_enter Try.func33, Try.ntmps33
  go_wp2
  go_loopw [8] (fun j W => ∃ k : Nat, k ≤ l.length ∧ j = .int .i64 k ∧ Hid (∀ x ∈ l.take k, decide (x.1 = i) = false) ∧ Below w.heap.size w W) (fun j _ => l.length - (intOf j).toNat)
  case atStart => exact ⟨0, Nat.zero_le _, rfl, Lib.hid (by simp), Below.refl _ _⟩
  case round =>
    obtain ⟨k, hk, rfl, HD, hB⟩ := hrel
    by_cases hlt : k < l.length
    · obtain ⟨x, hx⟩ : ∃ x, l[k]? = some x := ⟨l[k], List.getElem?_eq_getElem hlt⟩
      obtain ⟨b, off, rfl, hb, hc0, hc1⟩ := (Rd.below hr hB).bk hx
      have h0' := (hB.cell (p := ⟨Bk0, 0, none⟩) hbl).trans h0
      have HG := Lib.hid (get1_any Bk0 i x wr h0')
      have HX := Lib.hid hx
      clear hx
      go_wp2_with fail
      refine HG.out.mono ?_
      rintro e w1 ⟨rfl, hB1⟩
      have hB01 := hB.trans (hB1.mono hB.size)
      by_cases he : x.1 = i
      · rw [decide_eq_true he]
        have HK : Hid (getK l i = some x.2) := Lib.hid (by rw [getK, find_at _ l k HD.out x HX.out (decide_eq_true he)]; rfl)
        have HE := Lib.hid he
        clear HD HG he
        go_wp2
        go_ret
        exact ⟨hB01, .inl ⟨k, x, HX.out, HE.out, HK.out, rfl⟩⟩
      · rw [decide_eq_false he]
        have HD' : Hid (∀ y ∈ l.take (k + 1), decide (y.1 = i) = false) := Lib.hid fun y hy => by
          rw [List.take_add_one, HX.out] at hy
          rcases List.mem_append.1 hy with hy | hy
          · exact HD.out y hy
          · simp at hy; subst hy; exact decide_eq_false he
        clear HD HG he
        go_wp2
        go_round
        case rel => exact ⟨k + 1, by omega, by go_num, HD', hB01⟩
        case measure => simp [intOf]; omega
    · have HK : Hid (getK l i = none) := Lib.hid (by
        have := HD.out
        rw [List.take_of_length_le (by omega)] at this
        rw [getK, find_none _ l this]; rfl)
      clear HD
      go_wp2
      go_ret
      exact ⟨hB, .inr ⟨HK.out, rfl⟩⟩

set_option maxHeartbeats 1000000 in
theorem blkGet_any (A : Option Addr) (c n : Nat) (l : List Bk) (hn : l.length = n) (hl : n ≤ 8796093022208) (hf : ∀ x ∈ l, x.2.size ≤ 140737488351232) (i : Int) (w : World) (hr : Rd w A (bks l)) :
    Calls Try.prog 12 #[.slice A n c, .int .i64 i] w fun e w' => e = .returned (ansG (getK l i)) ∧ Below w.heap.size w w' := by
  subst hn
  obtain ⟨w1, hw1⟩ : ∃ w1, w.alloc (.cells #[.int .i64 i] 3) = w1 := ⟨_, rfl⟩
  have hB1 : Below w.heap.size w w1 := hw1 ▸ (Below.refl _ w).alloc (Nat.le_refl _) _
  have k1 : Blk w1 w.heap.size 3 [.int .i64 i] := hw1 ▸ Blk.new w _ _
  have HI := Lib.hid (indexFunc_any w.heap.size i A c l hl w1 (k1.cell 0) (hr.below hB1))
  have HW := Lib.hid hw1
  obtain ⟨R, hR⟩ : ∃ R, getK l i = R := ⟨_, rfl⟩
  rw [hR]
  have HR := Lib.hid hR
  clear hw1 hR
  go_enter Try.func12, Try.ntmps12
  go_wp2_with fail
  rw [HW.out]
  refine HI.out.mono ?_
  rintro e w2 ⟨hB2, ⟨k, x, hx, _, hg, rfl⟩ | ⟨hg, rfl⟩⟩
  · rw [HR.out] at hg
    subst hg
    have hB12 := hB1.trans (hB2.mono hB1.size)
    obtain ⟨b, off, rfl, hb, hc0, hc1⟩ := (Rd.below hr hB12).bk hx
    have hks : x.2.size ≤ 140737488351232 := hf x (List.mem_of_getElem? hx)
    have hkl : k < l.length := (List.getElem?_eq_some_iff.1 hx).1
    have hk0 : ¬ (k : Int) < 0 := by omega
    clear HI HR hx k1
    go_wp2_with fail
    refine (cloneT_any x.2 (by omega) w2).mono ?_
    rintro e w3 ⟨rfl, hB3⟩
    go_wp2
    go_ret2
    exact ⟨rfl, hB12.trans (hB3.mono hB12.size)⟩
  · rw [HR.out] at hg
    subst hg
    clear HI HR k1
    go_wp2
    go_ret2
    exact ⟨rfl, hB1.trans (hB2.mono hB1.size)⟩

/-- The reference's. -/
theorem refGet_any (A : Option Addr) (c n : Nat) (l : List Bk) (hn : l.length = n) (hl : n ≤ 8796093022208) (i : Int) (w : World) (hr : Rd w A (bks l)) :
    Calls Try.prog 13 #[.slice A n c, .int .i64 i] w fun e w' => e = .returned (ansG (getK l i)) ∧ w' = w := by
  subst hn
  obtain ⟨R, hR⟩ : ∃ R, getK l i = R := ⟨_, rfl⟩
  rw [hR]
  go_enter Try.func13, Try.ntmps13
  go_wp2
  go_loop [6] (fun j => ∃ k : Nat, k ≤ l.length ∧ j = .int .i64 k ∧ Hid (∀ x ∈ l.take k, decide (x.1 = i) = false)) (fun j => l.length - (intOf j).toNat)
  case atStart => exact ⟨0, Nat.zero_le _, rfl, Lib.hid (by simp)⟩
  case round =>
    obtain ⟨k, hk, rfl, HD⟩ := hrel
    by_cases hlt : k < l.length
    · obtain ⟨x, hx⟩ : ∃ x, l[k]? = some x := ⟨l[k], List.getElem?_eq_getElem hlt⟩
      obtain ⟨b, off, rfl, hb, hc0, hc1⟩ := hr.bk hx
      have HX := Lib.hid hx
      clear hx
      by_cases he : x.1 = i
      · have HK : Hid (R = some x.2) := Lib.hid (by rw [← hR, getK, find_at _ l k HD.out x HX.out (decide_eq_true he)]; rfl)
        have hbe : (x.1 == i) = true := beq_iff_eq.2 he
        clear HD hR he
        go_wp2
        go_ret2
        rw [HK.out]
        exact ⟨rfl, rfl⟩
      · have HD' : Hid (∀ y ∈ l.take (k + 1), decide (y.1 = i) = false) := Lib.hid fun y hy => by
          rw [List.take_add_one, HX.out] at hy
          rcases List.mem_append.1 hy with hy | hy
          · exact HD.out y hy
          · simp at hy; subst hy; exact decide_eq_false he
        have hbe : (x.1 == i) = false := beq_eq_false_iff_ne.2 he
        clear HD he
        go_wp2
        go_round
        case rel => exact ⟨k + 1, by omega, by go_num, HD'⟩
        case measure => simp [intOf]; omega
    · have HK : Hid (R = none) := Lib.hid (by
        have := HD.out
        rw [List.take_of_length_le (by omega)] at this
        rw [← hR, getK, find_none _ l this]; rfl)
      clear HD hR
      go_wp2
      go_ret2
      rw [HK.out]
      exact ⟨rfl, rfl⟩

end Go.Proofs.Ytkebgfpghjgghaa
