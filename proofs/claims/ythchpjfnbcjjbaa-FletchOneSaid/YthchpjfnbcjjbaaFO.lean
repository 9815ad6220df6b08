/-
  FletchOne returns true. Conditions: at most 2^47 - 4096 octets.
-/
import Derived.Test.YthchpjfnbcjjbaaFP
import Derived.BigRegion
import Derived.Deep.DeepCutAuto
namespace Go.Proofs.Ythchpjfnbcjjbaa
open Go.ChangeShapes Go.WideShapes Go.ChangeAt Go.RowKit

/-- An octet of by. -/
def obOf (y : Int) (k : Nat) : Int := y / 2 ^ (8 * (3 - k)) % 256
/-- The octets behind k rounds. -/
def flips (zs : List Int) (p : Nat) (y : Int) : Nat → List Int
  | 0 => zs
  | k + 1 => (flips zs p y k).set (p + k) (bits BinOp.xor IntKind.u8 (oct zs (p + k)) (obOf y k))
theorem flips_length (zs : List Int) (p : Nat) (y : Int) : ∀ k, (flips zs p y k).length = zs.length
  | 0 => rfl
  | k + 1 => by rw [flips, List.length_set, flips_length zs p y k]
theorem flips_out (zs : List Int) (p : Nat) (y : Int) (j : Nat) : ∀ k, (j < p ∨ p + k ≤ j) → (flips zs p y k)[j]? = zs[j]?
  | 0, _ => rfl
  | k + 1, h => by
    rw [flips, List.getElem?_set_ne (by omega), flips_out zs p y j k (by omega)]
theorem flips_at (zs : List Int) (p : Nat) (y : Int) (j : Nat) (hj : p + j < zs.length) : ∀ k, j < k → (flips zs p y k)[p + j]? = some (bits BinOp.xor IntKind.u8 (oct zs (p + j)) (obOf y j))
  | 0, h => by omega
  | k + 1, h => by
    rw [flips]
    by_cases e : j = k
    · subst e
      rw [List.getElem?_set_self (by rw [flips_length]; exact hj)]
    · rw [List.getElem?_set_ne (by omega), flips_at zs p y j hj k (by omega)]

theorem flips_row (zs : List Int) (p : Nat) (y : Int) (k : Nat) : (octCells (flips zs p y k)).set (p + k) (.int .u8 (bits BinOp.xor IntKind.u8 (oct zs (p + k)) (obOf y k))) = octCells (flips zs p y (k + 1)) := by
  simp only [octCells, flips, List.map_set]

theorem place (a : Int) (n : Nat) (h0 : 0 < n) (h1 : (n : Int) ≤ 35184372087808) : ∃ q : Nat, q < n ∧ (wrap64 (a.tmod n + n)).tmod n = q := by
  have t1 : a.tmod n < n := Int.tmod_lt_of_pos a (by omega)
  have t2 : -(n : Int) < a.tmod n := by
    have := Int.tmod_lt_of_pos (-a) (b := n) (by omega)
    rw [Int.neg_tmod] at this
    omega
  have e : wrap64 (a.tmod n + n) = a.tmod n + n := IntWalk.wrap64_in _ (by omega)
  rw [e]
  have t3 : (a.tmod n + n).tmod n < n := Int.tmod_lt_of_pos _ (by omega)
  have t4 : 0 ≤ (a.tmod n + n).tmod n := Int.tmod_nonneg _ (by omega)
  exact ⟨((a.tmod n + n).tmod n).toNat, by omega, by omega⟩

theorem bcell {W w1 : World} (hb : Below W.heap.size W w1) : (∀ b o, b < W.heap.size → w1.cell? ⟨b, o, none⟩ = W.cell? ⟨b, o, none⟩) ∧ (∀ b o, b < W.heap.size → w1.frozen? ⟨b, o, none⟩ = W.frozen? ⟨b, o, none⟩) :=
  ⟨fun b o h => hb.cell (p := ⟨b, o, none⟩) h, fun b o h => hb.frozen (p := ⟨b, o, none⟩) h⟩

theorem obOf_bd (y : Int) (k : Nat) : 0 ≤ obOf y k ∧ obOf y k < 256 := by unfold obOf; omega
theorem xor8_bd (z o : Int) (h0 : 0 ≤ z ∧ z ≤ 255) (h1 : 0 ≤ o ∧ o < 256) : 0 ≤ bits BinOp.xor IntKind.u8 z o ∧ bits BinOp.xor IntKind.u8 z o ≤ 255 := by
  obtain ⟨a, rfl⟩ := Int.eq_ofNat_of_zero_le h0.1
  obtain ⟨b, rfl⟩ := Int.eq_ofNat_of_zero_le h1.1
  rw [u8_xor_nat a b (by omega) (by omega)]
  have : a ^^^ b < 2 ^ 8 := Nat.xor_lt_two_pow (by omega) (by omega)
  omega
theorem xor8_same (z o : Int) (h0 : 0 ≤ z ∧ z ≤ 255) (h1 : 0 ≤ o ∧ o < 256) (h : bits BinOp.xor IntKind.u8 z o = z) : o = 0 := by
  obtain ⟨a, rfl⟩ := Int.eq_ofNat_of_zero_le h0.1
  obtain ⟨b, rfl⟩ := Int.eq_ofNat_of_zero_le h1.1
  rw [u8_xor_nat a b (by omega) (by omega)] at h
  have h2 : a ^^^ b = a := by omega
  have h3 : a ^^^ (a ^^^ b) = b := by rw [← Nat.xor_assoc, Nat.xor_self, Nat.zero_xor]
  rw [h2, Nat.xor_self] at h3
  omega
theorem flips_octs (zs : List Int) (ho : Octs zs) (p : Nat) (y : Int) : ∀ k, Octs (flips zs p y k)
  | 0 => ho
  | k + 1 => fun z hz => by
    rw [flips] at hz
    rcases List.mem_or_eq_of_mem_set hz with h | rfl
    · exact flips_octs zs ho p y k z h
    · exact xor8_bd _ _ (oct_bd ho _) (obOf_bd y k)
theorem flips_oct (zs : List Int) (p : Nat) (y : Int) (j : Nat) (hj : j < 4) (hp : p + 4 ≤ zs.length) : oct (flips zs p y 4) (p + j) = bits BinOp.xor IntKind.u8 (oct zs (p + j)) (obOf y j) := by
  rw [oct, flips_at zs p y j (by omega) 4 hj]
  rfl
theorem flips_oct_out (zs : List Int) (p : Nat) (y : Int) (j : Nat) (hj : j < p ∨ p + 4 ≤ j) : oct (flips zs p y 4) j = oct zs j := by
  rw [oct, flips_out zs p y j 4 hj]
  rfl

/-- One word alone is another one. -/
theorem flips_feed (s : S4) (zs : List Int) (ho : Octs zs) (q : Nat) (hq : 4 * q + 4 ≤ zs.length) (y : Int) (h0 : 0 < y) (h1 : y < 4294967296) : (feedS s (words zs)).A ≠ (feedS s (words (flips zs (4 * q) y 4))).A := by
  have hlen : (flips zs (4 * q) y 4).length = zs.length := flips_length _ _ _ _
  refine feedS_one s _ _ q (by rw [words_length, words_length, hlen]) (by rw [words_length]; omega) ?_ (fun j h => words_bd ho j h) (fun j h => words_bd (flips_octs zs ho _ y 4) j h) ?_
  · intro j hj
    by_cases hb : j < (zs.length + 3) / 4
    · rw [words_at _ _ hb, words_at _ _ (by rw [hlen]; exact hb)]
      congr 1
      unfold word
      rw [oct_drop, oct_drop, oct_drop, oct_drop, oct_drop, oct_drop, oct_drop, oct_drop, flips_oct_out _ _ _ _ (by omega), flips_oct_out _ _ _ _ (by omega), flips_oct_out _ _ _ _ (by omega), flips_oct_out _ _ _ _ (by omega)]
    · rw [List.getElem?_eq_none (by rw [words_length]; omega), List.getElem?_eq_none (by rw [words_length, hlen]; omega)]
  · rw [words_at _ _ (by omega), words_at _ _ (by rw [hlen]; omega)]
    intro he
    injection he with he
    unfold word at he
    rw [oct_drop, oct_drop, oct_drop, oct_drop, oct_drop, oct_drop, oct_drop, oct_drop, flips_oct _ _ _ _ (by omega) hq, flips_oct _ _ _ _ (by omega) hq, flips_oct _ _ _ _ (by omega) hq, flips_oct _ _ _ _ (by omega) hq] at he
    have b0 := oct_bd ho (4 * q + 0)
    have b1 := oct_bd ho (4 * q + 1)
    have b2 := oct_bd ho (4 * q + 2)
    have b3 := oct_bd ho (4 * q + 3)
    have c0 := xor8_bd _ _ b0 (obOf_bd y 0)
    have c1 := xor8_bd _ _ b1 (obOf_bd y 1)
    have c2 := xor8_bd _ _ b2 (obOf_bd y 2)
    have c3 := xor8_bd _ _ b3 (obOf_bd y 3)
    have e0 := xor8_same _ _ b0 (obOf_bd y 0) (by omega)
    have e1 := xor8_same _ _ b1 (obOf_bd y 1) (by omega)
    have e2 := xor8_same _ _ b2 (obOf_bd y 2) (by omega)
    have e3 := xor8_same _ _ b3 (obOf_bd y 3) (by omega)
    simp only [obOf] at e0 e1 e2 e3
    omega

/-- Two sums lie in blocks of the call's own. -/
structure Met (wr : World) (gx gy : Nat) (t1 t2 : S4) (wx : World) : Prop where
  x : Blk wx gx 24 (scells t1)
  y : Blk wx gy 24 (scells t2)
  b : Below wr.heap.size wr wx
theorem blk_zero (w : World) (g : Nat) (hg : w.heap.size = g) : Blk (w.alloc (.cells #[.int .u64 0, .int .u64 0, .int .u64 0, .int .u64 0] 24)) g 24 (scells zeroS) := by
  subst hg
  exact Blk.new w (scells zeroS) 24
theorem blk_new (w : World) (t : S4) (g : Nat) (hg : w.heap.size = g) : Blk (w.alloc (.cells #[.int .u64 t.A, .int .u64 t.B, .int .u64 t.C, .int .u64 t.D] 24)) g 24 (scells t) := by
  subst hg
  exact Blk.new w (scells t) 24
theorem blk_put4 {W0 : World} {g : Nat} {t : S4} (h : Blk W0 g 24 (scells zeroS)) :
    Blk ((((W0.setCell ⟨g, 0, none⟩ (.int .u64 t.A)).setCell ⟨g, 1, none⟩ (.int .u64 t.B)).setCell ⟨g, 2, none⟩ (.int .u64 t.C)).setCell ⟨g, 3, none⟩ (.int .u64 t.D)) g 24 (scells t) :=
  (((h.set 0 _).set 1 _).set 2 _).set 3 _
theorem blk_other4 {W0 : World} {g g' : Nat} {a b c d : Value} {vs : List Value} (h : Blk W0 g 24 vs) (hne : g ≠ g') :
    Blk ((((W0.setCell ⟨g', 0, none⟩ a).setCell ⟨g', 1, none⟩ b).setCell ⟨g', 2, none⟩ c).setCell ⟨g', 3, none⟩ d) g 24 vs :=
  (((h.other hne 0 _).other hne 1 _).other hne 2 _).other hne 3 _

set_option maxHeartbeats 2000000 in
theorem one_walk (s : S4) (A : Option Addr) (ca : Nat) (za : List Int) (oa : Octs za) (la : za.length ≤ 140737488351232) (pa : za.length ≤ ca) (na : A = none → ca = 0) (at_ : Int) (y : Int) (h0 : 0 < y) (h1 : y ≤ 4294967295) (h4 : 4 ≤ za.length) (w : World) (ra : RdB w A za) :
    Calls Try.prog 6 #[s.val, .slice A za.length ca, .int .i64 at_, .int .u32 y] w fun e w' => e = .returned (.bool true) ∧ Below w.heap.size w w' := by
  obtain ⟨i0, hi, hz0, hz1, hz2⟩ := info_parts info5
  have HRA := Lib.hid ra
  have HNA := Lib.hid na
  obtain ⟨n, hn⟩ : ∃ n, za.length / 4 = n := ⟨_, rfl⟩
  have hn1 : 4 * n ≤ za.length := by omega
  have hn2 : za.length < 4 * n + 4 := by omega
  have hnI : (za.length : Int) / 4 = n := by omega
  have hn0 : ((n : Int) == 0) = false := beq_eq_false_iff_ne.2 (by omega)
  have hy0 : (y == 0) = false := beq_eq_false_iff_ne.2 (by omega)
  obtain ⟨q, hq, hqe⟩ := place at_ n (by omega) (by omega)
  clear ra na hn
  go_enter Try.func6, Try.ntmps6
  go_wp2_with fail
  refine (alive_any _).mono ?_
  rintro e w1 ⟨rfl, hB1⟩
  have hB0 : Below w.heap.size w w1 := ((Below.refl _ w).alloc (Nat.le_refl _) _).trans (hB1.mono (by simp))
  have kb : Blk w1 w.heap.size 24 (scells s) := (Blk.new w (scells s) 24).below hB1 (by simp)
  have HRA1 := Lib.hid (HRA.out.below hB0)
  have hno : w1.ownsRow w1.heap.size 5 1 (.slice none 0 0) 0 [] := ⟨rfl, .inl ⟨rfl, rfl⟩⟩
  have HNO := Lib.hid hno
  have HKB := Lib.hid kb
  have h1a : ∀ u ∈ octCells za, u.oneCell' = true := octCells_one _
  have H1A := Lib.hid h1a
  have hnp : (0 : Int) < n := by omega
  clear hno kb h1a hB1
  go_wp2_with (first
    | (at_builtin; refine wpList_append_rd (o := ⟨some 34, _, _, _, _, _⟩) rfl _ _ 25 rfl w1.heap.size 5 i0 (.int .u8 0) 1 Try.underlying25 hi hz0 hz1 hz2 rfl (.slice none 0 0) 0 [] rfl HNO.out A za.length ca (octCells za) rfl (octCells_length _) HRA1.out HNA.out H1A.out (by unfold maxLen; omega) (by omega) (Nat.le_refl _) ?_; intro v2 w2 hown2 hgrow2))
  obtain ⟨g, cap, hv, hg, hlt⟩ := (own_plain hown2).form (by omega)
  subst hv
  have hown := own_plain hown2
  have hB2 : Below w1.heap.size w1 w2 := (Below.refl _ _).grown hgrow2 (Nat.le_refl _) (fun j e => by cases e)
  clear hqe hgrow2 hown2 HNO H1A hnI
  go_loopw [11] (fun i wr => ∃ k : Nat, k ≤ 4 ∧ i = .int .i64 k ∧ wr.ownsRow w1.heap.size 5 1 (.slice (some ⟨g, 0, none⟩) za.length cap) za.length (octCells (flips za (4 * q) y k)) ∧ Below w1.heap.size w1 wr) (fun i _ => 4 - (intOf i).toNat)
  case atStart => exact ⟨0, by omega, rfl, hown, hB2⟩
  case round =>
    clear hown hB2 hlt
    obtain ⟨k, hk, rfl, hown, hB2⟩ := hrel
    by_cases hlt : k < 4
    · have hp : 4 * q + k < za.length := by omega
      have hz : wr.cell? ⟨g, 4 * q + k, none⟩ = some (.int .u8 (oct za (4 * q + k))) := by
        have := hown.cellAt (4 * q + k) (by omega)
        rw [this, octCells, List.getElem?_map, flips_out za (4 * q) y (4 * q + k) k (by omega)]
        simp [oct, List.getElem?_eq_getElem hp]
      have hf := hown.frozenAt (4 * q + k)
      have hzb := oct_bd oa (4 * q + k)
      have hst := (hown.stored (4 * q + k) (.int .u8 (bits BinOp.xor IntKind.u8 (oct za (4 * q + k)) (obOf y k)))).1
      rw [flips_row za (4 * q) y k] at hst
      have HST := Lib.hid hst
      clear hst hown
      generalize oct za (4 * q + k) = z at *
      have hw1 : IntKind.i64.wrap (4 * (q : Int)) = 4 * (q : Int) := IntWalk.i64_in _ (by omega)
      have hw2 : IntKind.i64.wrap (4 * (q : Int) + k) = 4 * (q : Int) + k := IntWalk.i64_in _ (by omega)
      have hw3 : IntKind.i64.wrap (3 - (k : Int)) = 3 - (k : Int) := IntWalk.i64_in _ (by omega)
      have hw4 : IntKind.i64.wrap (8 * (3 - (k : Int))) = 8 * (3 - (k : Int)) := IntWalk.i64_in _ (by omega)
      have hp0 : 0 ≤ 4 * (q : Int) + k := by omega
      have hp1 : 4 * (q : Int) + k < za.length := by omega
      have hp2 : (4 * (q : Int) + k).toNat = 4 * q + k := by omega
      have hs0 : 0 ≤ 8 * (3 - (k : Int)) := by omega
      generalize hW : wr = W at *
      clear hW
      go_wp2
      go_region
      go_wp2
      go_roundw
      case rel => exact ⟨k + 1, by omega, by go_num, HST.out.drew, (hB2.setCell (p := ⟨g, 4 * q + k, none⟩) hg _).drew⟩
      case measure => simp [intOf]; omega
    · obtain rfl : k = 4 := by omega
      have hrc : RdB wr (some ⟨g, 0, none⟩) (flips za (4 * q) y 4) := Rd.of_own hown
      have hra : RdB wr A za := HRA1.out.below hB2
      have kb := HKB.out.below hB2 HKB.out.lt
      have hc0 := kb.cell 0
      have hc1 := kb.cell 1
      have hc2 := kb.cell 2
      have hc3 := kb.cell 3
      have hbl := kb.lt
      simp only [scells, List.getElem?_cons_zero, List.getElem?_cons_succ] at hc0 hc1 hc2 hc3
      obtain ⟨t1, ht1⟩ : ∃ t1, feedS s (words za) = t1 := ⟨_, rfl⟩
      obtain ⟨t2, ht2⟩ : ∃ t2, feedS s (words (flips za (4 * q) y 4)) = t2 := ⟨_, rfl⟩
      have hne : t1.A ≠ t2.A := by
        rw [← ht1, ← ht2]
        exact flips_feed s za oa q (by omega) y (by omega) (by omega)
      have hf1 : ∀ W, Below wr.heap.size wr W → Calls Try.prog 12 #[s.val, .slice A za.length ca] W fun e w' => e = .returned t1.val ∧ Below W.heap.size W w' := fun W hW => by
        rw [← ht1]
        exact feed_at s A za.length ca _ rfl (by omega) (by omega) oa W (hra.below hW)
      have hcap : za.length ≤ cap := by
        obtain ⟨_, c', e, hc, _⟩ := own_slice hown
        injection e with _ _ e
        omega
      have hf2 : ∀ W, Below wr.heap.size wr W → Calls Try.prog 12 #[s.val, .slice (some ⟨g, 0, none⟩) za.length cap] W fun e w' => e = .returned t2.val ∧ Below W.heap.size W w' := fun W hW => by
        rw [← ht2]
        exact feed_at s _ za.length cap _ (flips_length _ _ _ _) (by omega) hcap (flips_octs za oa _ y _) W (hrc.below hW)
      have HF1 := Lib.hid hf1
      have HF2 := Lib.hid hf2
      have hBr : Below wr.heap.size wr wr := Below.refl _ _
      have n1 : (t1.A == t2.A) = false := beq_eq_false_iff_ne.2 hne
      have n2 : (t1.A != t2.A) = true := by simp [bne, n1]
      have HB2 := Lib.hid hB2
      have HB0 := Lib.hid hB0
      clear hf1 hf2 ht1 ht2 hrc hra kb hown HRA HRA1 HNA HKB hB2 hB0
      go_upto_region 13 with fail
      go_cut [12, 13] (fun p q wx => ∃ gx gy : Nat, p = .pointer (some ⟨gx, 0, none⟩) ∧ q = .pointer (some ⟨gy, 0, none⟩) ∧ Met wr gx gy t1 t2 wx)
      case first =>
        go_region_held3 (fun w' => w'.cell? ⟨w.heap.size, 0, none⟩ = some (.int .u64 s.A) ∧ w'.cell? ⟨w.heap.size, 1, none⟩ = some (.int .u64 s.B) ∧ w'.cell? ⟨w.heap.size, 2, none⟩ = some (.int .u64 s.C) ∧ w'.cell? ⟨w.heap.size, 3, none⟩ = some (.int .u64 s.D) ∧ Below wr.heap.size wr w')
          (first | exact held4 hbl hc0 hc1 hc2 hc3 (by (repeat (first | with_reducible exact Below.refl _ _ | with_reducible assumption | with_reducible refine Below.drew ?_ | with_reducible refine Below.alloc ?_ ?_ _ | with_reducible refine Below.setCell ?_ ?_ _ | (focus omega) | (focus (simp; done)) | (focus (simp; omega))))))
          (first
            | (go_at_call 12; ((with_reducible refine (HF1.out _ ?_).mono ?_); (focus ((repeat (first | with_reducible exact Below.refl _ _ | with_reducible assumption | with_reducible refine Below.drew ?_ | with_reducible refine Below.alloc ?_ ?_ _ | with_reducible refine Below.setCell ?_ ?_ _ | (focus omega) | (focus (simp; done)) | (focus (simp; omega)))); done)); rintro e w4 ⟨rfl, hB4⟩; have hBw4 : Below wr.heap.size wr w4 := (by refine Below.trans ?_ (hB4.mono ?_); (focus ((repeat (first | with_reducible exact Below.refl _ _ | with_reducible assumption | with_reducible refine Below.drew ?_ | with_reducible refine Below.alloc ?_ ?_ _ | with_reducible refine Below.setCell ?_ ?_ _ | (focus omega) | (focus (simp; done)) | (focus (simp; omega)))); done)); (focus (first | omega | (simp; done) | (simp; omega)))); have hs4 := hBw4.size; (try have zz : wr.heap.size < w4.heap.size := (by have := hB4.size; (try simp at this); omega)); (try have zz : wr.heap.size + 1 < w4.heap.size := (by have := hB4.size; (try simp at this); omega)); obtain ⟨hcc4, hff4⟩ := bcell hB4; have HB4 := Lib.hid hB4; clear hB4))
            | (go_at_call 12; ((with_reducible refine (HF2.out _ ?_).mono ?_); (focus ((repeat (first | with_reducible exact Below.refl _ _ | with_reducible assumption | with_reducible refine Below.drew ?_ | with_reducible refine Below.alloc ?_ ?_ _ | with_reducible refine Below.setCell ?_ ?_ _ | (focus omega) | (focus (simp; done)) | (focus (simp; omega)))); done)); rintro e w5 ⟨rfl, hB5⟩; have hBw5 : Below wr.heap.size wr w5 := (by refine Below.trans ?_ (hB5.mono ?_); (focus ((repeat (first | with_reducible exact Below.refl _ _ | with_reducible assumption | with_reducible refine Below.drew ?_ | with_reducible refine Below.alloc ?_ ?_ _ | with_reducible refine Below.setCell ?_ ?_ _ | (focus omega) | (focus (simp; done)) | (focus (simp; omega)))); done)); (focus (first | omega | (simp; done) | (simp; omega)))); have hs5 := hBw5.size; (try have zz : w4.heap.size < w5.heap.size := (by have := hB5.size; (try simp at this); omega)); (try have zz : w4.heap.size + 1 < w5.heap.size := (by have := hB5.size; (try simp at this); omega)); (try have zz : wr.heap.size < w5.heap.size := (by have := hB5.size; (try simp at this); omega)); (try have zz : wr.heap.size + 1 < w5.heap.size := (by have := hB5.size; (try simp at this); omega)); obtain ⟨hcc5, hff5⟩ := bcell hB5; have HB5 := Lib.hid hB5; clear hB5)))
        all_goals (go_wp2_with fail; go_meet)
        all_goals refine ⟨_, _, rfl, rfl, ?_, ?_, ?_⟩
        all_goals first
          | (focus ((repeat (first | (with_reducible refine blk_new _ _ _ ?_; (first | omega | (simp; done) | (simp; omega)); done) | (with_reducible refine blk_zero _ _ ?_; (first | omega | (simp; done) | (simp; omega)); done) | with_reducible refine blk_put4 ?_ | (with_reducible refine blk_other4 ?_ ?_; rotate_left; (focus (first | omega | (simp; done) | (simp; omega)))) | with_reducible refine Blk.alloc ?_ _ | with_reducible refine Blk.drew ?_ | (with_reducible refine Blk.below ?_ HB5.out ?_; rotate_left; (focus (first | omega | (simp; done) | (simp; omega)))) | (with_reducible refine Blk.below ?_ HB4.out ?_; rotate_left; (focus (first | omega | (simp; done) | (simp; omega)))))); done))
          | (focus ((repeat (first | with_reducible exact Below.refl _ _ | with_reducible assumption | with_reducible refine Below.drew ?_ | with_reducible refine Below.alloc ?_ ?_ _ | with_reducible refine Below.setCell ?_ ?_ _ | (focus omega) | (focus (simp; done)) | (focus (simp; omega)))); done))
      case rest =>
        obtain ⟨gx, gy, rfl, rfl, kx, ky, hBx⟩ := hcut
        have x0 := kx.cell 0
        have x1 := kx.cell 1
        have x2 := kx.cell 2
        have x3 := kx.cell 3
        have y0 := ky.cell 0
        have y1 := ky.cell 1
        have y2 := ky.cell 2
        have y3 := ky.cell 3
        simp only [scells, List.getElem?_cons_zero, List.getElem?_cons_succ] at x0 x1 x2 x3 y0 y1 y2 y3
        clear HF1 HF2 hc0 hc1 hc2 hc3 kx ky
        go_wp2
        go_ret
        exact ⟨rfl, HB0.out.trans ((HB2.out.trans (hBx.mono HB2.out.size)).mono HB0.out.size)⟩

end Go.Proofs.Ythchpjfnbcjjbaa
