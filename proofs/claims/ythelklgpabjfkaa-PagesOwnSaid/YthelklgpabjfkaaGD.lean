/-
  bytes.Equal; octets in the middle of octets. No conditions.
-/
import Derived.Test.YthelklgpabjfkaaGB
import Derived.Lib.AppendStr
namespace Go.Proofs.Ythelklgpabjfkaa
open Go.ChangeShapes Go.WideShapes Go.ChangeAt Go.RowKit

theorem str_inj {a b : List Int} (ha : Octs a) (hb : Octs b) (h : strOfNums a = strOfNums b) : a = b := by
  have h1 : (strOfNums a).data.toList = (strOfNums b).data.toList := by rw [h]
  simp only [strOfNums] at h1
  have h2 : ∀ l : List Int, Octs l → (l.map fun z => UInt8.ofNat z.toNat).map (fun x => (x.toNat : Int)) = l := fun l hl => by
    rw [List.map_map]
    conv => rhs; rw [← List.map_id l]
    refine List.map_congr_left fun z hz => ?_
    obtain ⟨h0, h1⟩ := hl z hz
    have : z.toNat % 256 = z.toNat := by omega
    simp only [Function.comp, UInt8.toNat_ofNat', id]
    rw [this]
    omega
  rw [← h2 a ha, ← h2 b hb]
  simpa using congrArg (List.map fun x : UInt8 => (x.toNat : Int)) h1
theorem str_beq {a b : List Int} (ha : Octs a) (hb : Octs b) : ((strOfNums a).toList == (strOfNums b).toList) = decide (a = b) := by
  rw [ByteArray.toList_eq, ByteArray.toList_eq, Bool.eq_iff_iff]
  simp only [beq_iff_eq, decide_eq_true_eq]
  exact ⟨fun h => str_inj ha hb (by
    have : (strOfNums a).data = (strOfNums b).data := Array.ext' h
    generalize strOfNums a = x at *
    generalize strOfNums b = y at *
    obtain ⟨x⟩ := x
    obtain ⟨y⟩ := y
    exact congrArg _ this), fun h => by rw [h]⟩

set_option maxHeartbeats 400000 in
theorem equal_any (A : Option Addr) (n c : Nat) (xs : List Int) (hn : xs.length = n) (ho : Octs xs) (B : Option Addr) (m d : Nat) (ys : List Int) (hm : ys.length = m) (hp : Octs ys) (w : World) (hr : RdB w A xs) (hs : RdB w B ys) :
    Calls Try.prog 26 #[.slice A n c, .slice B m d] w fun e w' => e = .returned (.bool (decide (xs = ys))) ∧ w = w' := by
  have hb := str_beq ho hp
  have HB := Lib.hid hb
  have hcv := run_string_rd (P := Try.prog) w 22 5 9 Try.underlying22 Try.underlying5 Try.underlying9 A xs c hr
  have hcw := run_string_rd (P := Try.prog) w 22 5 9 Try.underlying22 Try.underlying5 Try.underlying9 B ys d hs
  rw [hn] at hcv
  rw [hm] at hcw
  clear hb hn hm ho hp hr hs
  generalize decide (xs = ys) = bb at *
  generalize strOfNums xs = s1 at *
  generalize strOfNums ys = s2 at *
  go_enter Try.func26, Try.ntmps26
  go_wp2
  go_ret
  exact ⟨by rw [← HB.out]; rfl, rfl⟩

theorem numO_four {zs : List Int} (h : Octs zs) (hl : zs.length ≤ 4) : (numO zs).1 = val zs := by
  have h1 := (val_bound zs h).2
  have h2 : (256 : Nat) ^ zs.length ≤ 256 ^ 4 := Nat.pow_le_pow_right (by decide) hl
  have h3 : val zs < 4294967296 := by
    have : ((256 ^ zs.length : Nat) : Int) ≤ ((256 ^ 4 : Nat) : Int) := Int.ofNat_le.2 h2
    have e : ((256 ^ 4 : Nat) : Int) = 4294967296 := by decide
    omega
  unfold numO
  rw [if_neg (by omega)]
theorem rd_mid {w : World} {b off : Nat} {zs : List Int} (h : RdB w (some ⟨b, off, none⟩) zs) (k m : Nat) : RdB w (some ⟨b, off + k, none⟩) ((zs.drop k).take m) := fun hne => by
  obtain ⟨b', o', e, hb, hc⟩ := h (by rintro h0; apply hne; simp at h0; simp [h0])
  injection e with e
  injection e with e1 e2
  subst e1 e2
  refine ⟨b, off + k, rfl, hb, fun j u hu => ?_⟩
  rw [Nat.add_assoc]
  refine hc (k + j) u ?_
  rw [List.getElem?_map] at hu ⊢
  rcases hx : ((zs.drop k).take m)[j]? with _ | z
  · rw [hx] at hu; cases hu
  · rw [hx] at hu
    have h2 : (zs.drop k)[j]? = some z := by
      rw [List.getElem?_take] at hx
      split at hx
      · exact hx
      · cases hx
    rw [List.getElem?_drop] at h2
    rw [h2]
    exact hu

theorem RdB.take {w : World} {A : Option Addr} {zs : List Int} (h : RdB w A zs) (k : Nat) : RdB w A (zs.take k) := fun hne => by
  obtain ⟨b, off, e, hb, hc⟩ := h (by rintro h0; apply hne; simp at h0; simp [h0])
  refine ⟨b, off, e, hb, fun j u hu => hc j u ?_⟩
  rw [List.getElem?_map] at hu ⊢
  rcases hx : (zs.take k)[j]? with _ | z
  · rw [hx] at hu; cases hu
  · rw [hx] at hu
    rw [List.getElem?_take] at hx
    split at hx
    · rw [hx]; exact hu
    · cases hx

end Go.Proofs.Ythelklgpabjfkaa
