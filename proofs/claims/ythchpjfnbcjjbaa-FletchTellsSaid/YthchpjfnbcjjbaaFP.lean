/-
  FletchParts returns true. Conditions: at most 1048576 octets in each text.
-/
import Derived.Test.YthchpjfnbcjjbaaFD
import Derived.Test.YthchpjfnbcjjbaaB
import Derived.Deep.RegionHeld3
namespace Go.Proofs.Ythchpjfnbcjjbaa
open Go.ChangeShapes Go.WideShapes Go.ChangeAt Go.RowKit

/-- Octets, as cells. -/
def octCells (zs : List Int) : List Value := zs.map (Value.int .u8)
theorem octCells_length (zs : List Int) : (octCells zs).length = zs.length := by simp [octCells]
theorem octCells_one (zs : List Int) : ∀ u ∈ octCells zs, u.oneCell' = true := fun u hu => by
  obtain ⟨z, _, rfl⟩ := List.mem_map.1 hu
  rfl

theorem own_plain {w : World} {base : Nat} {e : TypeId} {v : Value} {n : Nat} {xs : List Value} (h : w.ownsRow base e 1 v (0 + n) ([] ++ xs)) : w.ownsRow base e 1 v n xs := by
  rw [Nat.zero_add, List.nil_append] at h
  exact h

/-- The cells of a sum, and what lay, stay. -/
theorem held4 {W W' : World} {g : Nat} {a b c d : Value} (hg : g < W.heap.size) (h0 : W.cell? ⟨g, 0, none⟩ = some a) (h1 : W.cell? ⟨g, 1, none⟩ = some b) (h2 : W.cell? ⟨g, 2, none⟩ = some c) (h3 : W.cell? ⟨g, 3, none⟩ = some d) (hB : Below W.heap.size W W') :
    W'.cell? ⟨g, 0, none⟩ = some a ∧ W'.cell? ⟨g, 1, none⟩ = some b ∧ W'.cell? ⟨g, 2, none⟩ = some c ∧ W'.cell? ⟨g, 3, none⟩ = some d ∧ Below W.heap.size W W' :=
  ⟨(hB.cell (p := ⟨g, 0, none⟩) hg).trans h0, (hB.cell (p := ⟨g, 1, none⟩) hg).trans h1, (hB.cell (p := ⟨g, 2, none⟩) hg).trans h2, (hB.cell (p := ⟨g, 3, none⟩) hg).trans h3, hB⟩

set_option maxHeartbeats 1000000 in
theorem parts_walk (s : S4) (A : Option Addr) (ca : Nat) (za : List Int) (oa : Octs za) (la : za.length ≤ 1048576) (pa : za.length ≤ ca) (na : A = none → ca = 0)
    (B : Option Addr) (cb : Nat) (zb : List Int) (ob : Octs zb) (lb : zb.length ≤ 1048576) (pb : zb.length ≤ cb) (nb : B = none → cb = 0) (w : World) (ra : RdB w A za) (rb : RdB w B zb) :
    Calls Try.prog 5 #[s.val, .slice A za.length ca, .slice B zb.length cb] w fun e w' => e = .returned (.bool true) ∧ Below w.heap.size w w' := by
  obtain ⟨i0, hi, hz0, hz1, hz2⟩ := info_parts info5
  have HRA := Lib.hid ra
  have HRB := Lib.hid rb
  have HNA := Lib.hid na
  have HNB := Lib.hid nb
  clear ra rb na nb
  go_enter Try.func5, Try.ntmps5
  go_wp2_with fail
  refine (alive_any _).mono ?_
  rintro e w1 ⟨rfl, hB1⟩
  have hB0 : Below w.heap.size w w1 := ((Below.refl _ w).alloc (Nat.le_refl _) _).trans (hB1.mono (by simp))
  have kb : Blk w1 w.heap.size 24 (scells s) := (Blk.new w (scells s) 24).below hB1 (by simp)
  have hd : decide (ca < za.length / 4 * 4) = false := by simp; omega
  have ra1 := (rd_take HRA.out (za.length / 4 * 4)).below hB0
  have rb1 := HRB.out.below hB0
  have HRA1 := Lib.hid ra1
  have HRB1 := Lib.hid rb1
  have hla : (za.take (za.length / 4 * 4)).length = za.length / 4 * 4 := by simp; omega
  have HLA := Lib.hid hla
  have ht : za.length / 4 * 4 ≤ 1048576 := by omega
  have hno : w1.ownsRow w1.heap.size 5 1 (.slice none 0 0) 0 [] := ⟨rfl, .inl ⟨rfl, rfl⟩⟩
  have HNO := Lib.hid hno
  have HKB := Lib.hid kb
  obtain ⟨n, hn⟩ : ∃ n, za.length / 4 = n := ⟨_, rfl⟩
  rw [hn] at HRA1 HLA hd ht
  have hnI : (za.length : Int) / 4 = n := by omega
  clear ra1 rb1 hla hno kb
  have h1a : ∀ u ∈ octCells (za.take (n * 4)), u.oneCell' = true := octCells_one _
  have h1b : ∀ u ∈ octCells zb, u.oneCell' = true := octCells_one _
  have H1A := Lib.hid h1a
  have H1B := Lib.hid h1b
  clear h1a h1b
  go_wp2_with (first
    | (at_builtin; refine wpList_append_rd (o := ⟨some 18, _, _, _, _, _⟩) rfl _ _ 25 rfl w1.heap.size 5 i0 (.int .u8 0) 1 Try.underlying25 hi hz0 hz1 hz2 rfl (.slice none 0 0) 0 [] rfl HNO.out A (n * 4) ca (octCells (za.take (n * 4))) rfl (by rw [octCells_length]; exact HLA.out) HRA1.out HNA.out H1A.out (by unfold maxLen; omega) (by omega) (Nat.le_refl _) ?_; intro v2 w2 hown2 hgrow2; have hB2 : Below w.heap.size w w2 := hB0.grown hgrow2 hB0.size (fun j e => by cases e); have HO2 := Lib.hid (own_plain hown2); have HRB2 := Lib.hid (HRB.out.below hB2); have hs2 := hgrow2.size; have HG2 := Lib.hid hgrow2; clear hown2 hgrow2)
    | (at_builtin; refine wpList_append_rd (o := ⟨some 20, _, _, _, _, _⟩) rfl _ _ 25 rfl w1.heap.size 5 i0 (.int .u8 0) 1 Try.underlying25 hi hz0 hz1 hz2 rfl v2 (n * 4) (octCells (za.take (n * 4))) rfl HO2.out B zb.length cb (octCells zb) rfl (octCells_length _) HRB2.out HNB.out H1B.out (by unfold maxLen; omega) (by omega) hs2 ?_; intro v3 w3 hown3 hgrow3; have hB3 : Below w.heap.size w w3 := hB2.grown hgrow3 hB2.size (fun j e => by have := (HO2.out.lt j e).1; have := hB0.size; omega); have HO3 := Lib.hid hown3; have HG3 := Lib.hid hgrow3; clear hown3 hgrow3))
  have hB13 : Below w1.heap.size w1 w3 := ((Below.refl _ _).grown HG2.out (Nat.le_refl _) (fun j e => by cases e)).grown HG3.out hs2 (fun j e => (HO2.out.lt j e).1)
  have kb := HKB.out.below hB13 HKB.out.lt
  obtain ⟨A3, c3, hv3, hc3, hr3⟩ := own_slice HO3.out
  subst hv3
  have hc0 := kb.cell 0
  have hc1 := kb.cell 1
  have hc2 := kb.cell 2
  have hc3' := kb.cell 3
  have hlt := kb.lt
  simp only [scells, List.getElem?_cons_zero, List.getElem?_cons_succ] at hc0 hc1 hc2 hc3'
  obtain ⟨t1, ht1⟩ : ∃ t1, feedS s (words (za.take (n * 4))) = t1 := ⟨_, rfl⟩
  obtain ⟨t2, ht2⟩ : ∃ t2, feedS t1 (words zb) = t2 := ⟨_, rfl⟩
  have ht3 : feedS s (words (za.take (n * 4) ++ zb)) = t2 := by
    rw [words_append _ _ n (by rw [HLA.out]; omega), feedS_append, ht1, ht2]
  have hf1 : ∀ W, Below w3.heap.size w3 W → Calls Try.prog 12 #[s.val, .slice A (n * 4) ca] W fun e w' => e = .returned t1.val ∧ Below W.heap.size W w' := fun W hW => by
    rw [← ht1]
    exact feed_at s A (n * 4) ca _ HLA.out (by omega) (by omega) (oa.take _) W ((rd_take HRA.out (n * 4)).below (hB3.trans (hW.mono hB3.size)))
  have hf2 : ∀ W, Below w3.heap.size w3 W → Calls Try.prog 12 #[t1.val, .slice B zb.length cb] W fun e w' => e = .returned t2.val ∧ Below W.heap.size W w' := fun W hW => by
    rw [← ht2]
    exact feed_at t1 B zb.length cb _ rfl (by omega) (by omega) ob W (HRB.out.below (hB3.trans (hW.mono hB3.size)))
  have hf3 : ∀ W, Below w3.heap.size w3 W → Calls Try.prog 12 #[s.val, .slice A3 (n * 4 + zb.length) c3] W fun e w' => e = .returned t2.val ∧ Below W.heap.size W w' := fun W hW => by
    rw [← ht3]
    refine feed_at s A3 _ c3 _ ?_ (by omega) hc3 ((oa.take _).append ob) W (Rd.below ?_ hW)
    · rw [List.length_append, HLA.out]
    · have := hr3
      unfold octCells at this
      rw [← List.map_append] at this
      exact this
  have HF1 := Lib.hid hf1
  have HF2 := Lib.hid hf2
  have HF3 := Lib.hid hf3
  have hB33 : Below w3.heap.size w3 w3 := Below.refl _ _
  clear hf1 hf2 hf3 ht1 ht2 ht3 hr3 kb HO2 HO3 HG2 HG3 HRA1 HRB1 HRB2 HNO HKB H1A H1B HRA HRB HNA HNB HLA hnI hn hd
  go_region_held3 (fun w' => w'.cell? ⟨w.heap.size, 0, none⟩ = some (.int .u64 s.A) ∧ w'.cell? ⟨w.heap.size, 1, none⟩ = some (.int .u64 s.B) ∧ w'.cell? ⟨w.heap.size, 2, none⟩ = some (.int .u64 s.C) ∧ w'.cell? ⟨w.heap.size, 3, none⟩ = some (.int .u64 s.D) ∧ Below w3.heap.size w3 w')
    (first
      | exact held4 hlt hc0 hc1 hc2 hc3' hB36
      | exact held4 hlt hc0 hc1 hc2 hc3' hB35
      | exact held4 hlt hc0 hc1 hc2 hc3' hB34
      | exact held4 hlt hc0 hc1 hc2 hc3' hB33.drew
      | exact held4 hlt hc0 hc1 hc2 hc3' hB33)
    (first
      | (go_at_call 12; ((with_reducible refine (HF1.out _ hB33.drew).mono ?_); rintro e w4 ⟨rfl, hB4⟩; have hB34 : Below w3.heap.size w3 w4 := hB33.drew.trans hB4))
      | (go_at_call 12; ((with_reducible refine (HF2.out _ hB34).mono ?_); rintro e w5 ⟨rfl, hB5⟩; have hB35 : Below w3.heap.size w3 w5 := hB34.trans (hB5.mono hB34.size)))
      | (go_at_call 12; ((with_reducible refine (HF3.out _ hB35).mono ?_); rintro e w6 ⟨rfl, hB6⟩; have hB36 : Below w3.heap.size w3 w6 := hB35.trans (hB6.mono hB35.size))))
  go_wp2
  go_ret
  exact ⟨rfl, hB3.trans (hB36.mono hB3.size)⟩

end Go.Proofs.Ythchpjfnbcjjbaa
