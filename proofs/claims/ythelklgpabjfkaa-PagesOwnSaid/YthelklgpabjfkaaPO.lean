/-
  PagesOwn's walk. Conditions: the slice is one that may be.
-/
import Derived.Test.YthelklgpabjfkaaPJ
import Derived.Test.YthelklgpabjfkaaGP
namespace Go.Proofs.Ythelklgpabjfkaa
open Go.ChangeShapes Go.WideShapes Go.ChangeAt Go.RowKit

theorem octv_of {zs : List Int} (h : Octs zs) : Octv (octCells zs) := fun j u hu => by
  unfold octCells at hu
  rw [List.getElem?_map] at hu
  rcases hz : zs[j]? with _ | z
  · rw [hz] at hu; cases hu
  · rw [hz] at hu
    injection hu with hu
    obtain ⟨h0, h1⟩ := h z (List.mem_of_getElem? hz)
    exact ⟨z, hu.symm, h0, h1⟩
theorem Pages.grown {W W' : World} {base : Nat} {qs : List (Nat × Nat)} {cs : List (List Int)} {row : Option Nat} (h : Pages W base qs cs) (hg : W.grownBy W' row) (hr : ∀ r, row = some r → r < base) : Pages W' base qs cs :=
  h.map fun q z ho => ho.kept hg (.inr fun e => by
    have h1 : base ≤ q.1 := (ho.lt _ rfl).1
    have h2 : q.1 < base := hr _ e.symm
    omega)
/-- Pages that are yet to be turned. -/
def Left (W : World) (base k : Nat) (qs : List (Nat × Nat)) : Prop := ∀ (j : Nat) q, k ≤ j → qs[j]? = some q → ∃ xs, W.ownsRow base 5 1 (pval q) 64 xs ∧ Octv xs
theorem Pages.left {W : World} {base : Nat} {qs : List (Nat × Nat)} {cs : List (List Int)} (h : Pages W base qs cs) (h64 : ∀ c ∈ cs, c.length = 64 ∧ Octs c) : Left W base 0 qs := fun j q _ hq => by
  have hj : j < cs.length := by rw [← h.len]; exact (List.getElem?_eq_some_iff.1 hq).1
  exact ⟨_, h.own j q _ hq (List.getElem?_eq_getElem hj), octv_of (h64 _ (List.getElem_mem hj)).2⟩

set_option maxHeartbeats 2000000 in
set_option maxRecDepth 100000 in
theorem own_walk (s : Slc) (w : World) (hs : s.ok w) (hl : s.zs.length ≤ 140737488351232) (hnil : s.A = none → s.c = 0) :
    Calls Try.prog 6 #[s.val] w fun e w' => e = .returned (.bool true) ∧ Below w.heap.size w w' := by
  obtain ⟨i0, hi, hz0, hz1, hz2⟩ := info_parts info5
  have HC := Lib.hid (fun A c w h => cut_any ⟨A, s.zs, c⟩ w h hl)
  have HG : Hid (∀ (W : World) base c A qs, Rd W A (qs.map pval) → Pages W base qs ((pieces s.zs).map fun z => pgO z 0) → Calls Try.prog 16 #[.slice A (cntN s.zs.length) c] W fun e w' => ∃ v, e = .returned (.tuple #[v, .int .i64 0]) ∧ w'.ownsRow W.heap.size 5 1 v s.zs.length (octCells s.zs) ∧ Below W.heap.size W w') := fun W base c A qs h1 h2 => glue_cut hs.2.2.1 hl h1 h2
  have HPL : Hid (∀ (W : World) base qs, Pages W base qs ((pieces s.zs).map fun z => pgO z 0) → qs.length = cntN s.zs.length) := fun W base qs h => by rw [h.len, List.length_map, pieces_length]
  have HLE : Hid (∀ (W : World) base qs, Pages W base qs ((pieces s.zs).map fun z => pgO z 0) → Left W base 0 qs) := fun W base qs h => h.left (pieces_64 hs.2.2.1)
  have HS := Lib.hid hs
  have HO := Lib.hid hs.2.2.1
  have hm : cntN s.zs.length ≤ 2706490160603 := by unfold cntN; omega
  obtain ⟨A0, zs, c0⟩ := s
  unfold Slc.val at HC
  dsimp only at HC HG HPL HLE HO hm hl hnil
  unfold Slc.val
  dsimp only
  obtain ⟨_, hlm, _, hr0⟩ := hs
  have HR0 := Lib.hid hr0
  have H1 := Lib.hid (octCells_one zs)
  have HLN := Lib.hid (octCells_length zs)
  clear hr0
  go_enter Try.func6, Try.ntmps6
  go_wp2_with fail
  refine (alive_any w).mono ?_
  rintro e wa ⟨rfl, hBa⟩
  have hsa := hBa.size
  go_wp2_with (at_builtin; refine wpList_append_rd_wide (by rfl) _ _ 22 (by rfl) w.heap.size 5 i0 (.int .u8 0) 1 Try.underlying22 hi hz0 hz1 hz2 rfl (.slice none 0 0) 0 [] (by rfl) (own_none _ _ _) A0 zs.length c0 (octCells zs) (by rfl) HLN.out (RdB.below HR0.out hBa) hnil H1.out (by unfold maxLen; omega) (by omega) hsa ?_; intro v1 w1 hown1 hgrow1; have hB1 : Below w.heap.size w w1 := hBa.grown hgrow1 hsa (fun j e => by simp [Value.ownBlock] at e); have hown1' := own_bare' hown1; clear hown1 hgrow1)
  obtain ⟨A1, c1, rfl, hc1, hr1⟩ := own_slice hown1'
  have hok1 : (Slc.mk A1 zs c1).ok w1 := ⟨hc1, hlm, HO.out, hr1⟩
  have HO1 := Lib.hid hown1'
  clear hown1' hr1 hnil HR0 hBa
  go_wp2_with fail
  refine (HC.out A1 c1 w1 hok1).mono ?_
  rintro e w2 ⟨v2, qs, rfl, hown2, hp2, hB2⟩
  obtain ⟨A2, c2, rfl, hc2, _⟩ := own_slice hown2
  have HO12 := Lib.hid (own_below HO1.out hB2 (Nat.le_refl _))
  have hlt1 := HO1.out.lt
  have hB02 : Below w.heap.size w w2 := hB1.trans (hB2.mono hB1.size)
  have HO2 := Lib.hid hown2
  have HP2 := Lib.hid hp2
  clear hown2 hp2 hB2 HO1 HC hok1
  go_wp2_with fail
  refine (spoil_any _ zs.length (.slice A1 zs.length c1) (octCells zs) w2 HO12.out (octv_of HO.out) (by omega)).mono ?_
  rintro e w3 ⟨⟨r, rfl⟩, hg3⟩
  have HO3 := Lib.hid (HO2.out.kept hg3 (own_far HO2.out HO12.out (by decide)))
  have HP3 := Lib.hid (HP2.out.grown hg3 (fun r e => (hlt1 r e).2))
  have hB03 : Below w.heap.size w w3 := hB02.grown hg3 hB02.size (fun r e => (hlt1 r e).1)
  have hql : ∀ q ∈ qs, q.1 < w3.heap.size := fun q hq => (HP3.out.lt hq).2
  have HQL := Lib.hid hql
  have HLF := Lib.hid (HLE.out _ _ _ HP3.out)
  have HQM := Lib.hid (HPL.out _ _ _ HP3.out)
  have HIN := Lib.hid HP3.out.inj
  have hBB : w.heap.size ≤ w1.heap.size := hB1.size
  clear HO2 HP2 hg3 hB02 HO12 hlt1 hql HLE HPL
  go_wp2_with fail
  refine (HG.out w3 _ c2 A2 qs (Rd.of_own HO3.out) HP3.out).mono ?_
  rintro e w4 ⟨v4, rfl, hown4, hB4⟩
  obtain ⟨A4, c4, rfl, _, _⟩ := own_slice hown4
  have HO4 := Lib.hid hown4
  have HO34 := Lib.hid (own_below HO3.out hB4 (Nat.le_refl _))
  have HLF4 : Hid (Left w4 w1.heap.size 0 qs) := fun j q hj hq => by
    obtain ⟨xs, h1, h2⟩ := HLF.out j q hj hq
    exact ⟨xs, own_below h1 hB4 (Nat.le_refl _), h2⟩
  have hB04 : Below w.heap.size w w4 := hB03.trans (hB4.mono hB03.size)
  have hs34 := hB4.size
  clear hown4 HO3 HLF HP3 HG hB4
  generalize cntN zs.length = m at *
  go_wp2_with fail
  go_loopw [7] (fun i wr => ∃ k : Nat, k ≤ m ∧ i = .int .i64 k ∧ Hid (wr.ownsRow w1.heap.size 22 1 (.slice A2 m c2) m (qs.map pval)) ∧ Hid (Left wr w1.heap.size k qs) ∧ Hid (wr.ownsRow w3.heap.size 5 1 (.slice A4 zs.length c4) zs.length (octCells zs)) ∧ Below w.heap.size w wr) (fun i _ => m - (intOf i).toNat)
  case atStart => exact ⟨0, Nat.zero_le _, rfl, HO34, HLF4, HO4, hB04⟩
  case round =>
    obtain ⟨k, hk, rfl, HL, HF, HR, hB⟩ := hrel
    clear HO34 HLF4 HO4
    by_cases hlt : k < m
    · obtain ⟨q, hq⟩ : ∃ q, qs[k]? = some q := ⟨_, List.getElem?_eq_getElem (by rw [HQM.out]; exact hlt)⟩
      obtain ⟨G, _, hG, _, _⟩ := HL.out.form (by omega)
      injection hG with hG _ hcc
      subst hG hcc
      have hck := HL.out.cellAt k (by omega)
      rw [List.getElem?_map, hq] at hck
      simp only [Option.map_some] at hck
      obtain ⟨xs, hx1, hx2⟩ := HF.out k q (Nat.le_refl _) hq
      have hqk := HQL.out q (List.mem_of_getElem? hq)
      have HQ := Lib.hid hq
      have HX1 := Lib.hid hx1
      clear hq hx1
      go_wp2_with (refine (spoil_any _ 64 (pval q) xs wr HX1.out hx2 (by omega)).mono ?_; rintro e w5 ⟨⟨r, rfl⟩, hg5⟩)
      have HL5 := Lib.hid (HL.out.kept hg5 (own_far HL.out HX1.out (by decide)))
      have HR5 := Lib.hid (HR.out.kept hg5 (by
        rcases hA4 : (Value.slice A4 zs.length c4).ownBlock with _ | g
        · exact .inl rfl
        · refine .inr fun e => ?_
          have h1 := (HR.out.lt g hA4).1
          have h2 : g = q.1 := by injection e
          omega))
      have hB5 : Below w.heap.size w w5 := hB.grown hg5 hB.size (fun r e => Nat.le_trans hBB (HX1.out.lt r e).1)
      have HF5 : Hid (Left w5 w1.heap.size (k + 1) qs) := fun j p hj hp => by
        obtain ⟨ys, h1, h2⟩ := HF.out j p (by omega) hp
        refine ⟨ys, h1.kept hg5 (.inr fun e => ?_), h2⟩
        have h3 : p.1 = q.1 := by injection e
        have := HIN.out j k p q hp HQ.out h3
        omega
      clear hg5 HX1 HF HL HR hB
      go_roundw
      case rel => exact ⟨k + 1, by omega, by go_num, HL5, HF5, HR5, hB5⟩
      case measure => simp [intOf]; omega
    · obtain rfl : k = m := by omega
      have hsk := HS.out.below hB
      have hq1 := run_string_rd (P := Try.prog) wr 22 5 9 Try.underlying22 Try.underlying5 Try.underlying9 A0 zs c0 hsk.2.2.2
      have hq2 := run_string_rd (P := Try.prog) wr 22 5 9 Try.underlying22 Try.underlying5 Try.underlying9 A4 zs c4 (Rd.of_own HR.out)
      clear hsk HL HF HR
      generalize strOfNums zs = ss at *
      go_wp2_with (refine (num_any _ _).mono ?_; rintro e w' ⟨rfl, rfl⟩)
      go_ret
      exact ⟨rfl, hB⟩

end Go.Proofs.Ythelklgpabjfkaa
