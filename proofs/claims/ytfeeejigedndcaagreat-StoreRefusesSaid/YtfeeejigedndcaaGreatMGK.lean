/-
  bytes.Clone answers a copy in new memory. Conditions: the slice is not nil; at most 2^47 octets.
-/
import Derived.Test.YtfeeejigedndcaaGreatMGB
import Derived.WalkSpells
namespace Go.Proofs.YtfeeejigedndcaaGreat
open Go.ChangeShapes Go.WideShapes Go.ChangeAt Go.RowKit
set_option maxRecDepth 100000

theorem own_none (w : World) (base : Nat) (t : TypeId) : w.ownsRow base t 1 (.slice none 0 0) 0 [] := ⟨rfl, .inl ⟨rfl, rfl⟩⟩
theorem own_bare' {w : World} {base : Nat} {e : TypeId} {size : Nat} {v : Value} {n : Nat} {xs : List Value} (h : w.ownsRow base e size v (0 + n) ([] ++ xs)) : w.ownsRow base e size v n xs := by
  rw [Nat.zero_add, List.nil_append] at h
  exact h

set_option maxHeartbeats 400000 in
set_option maxRecDepth 100000 in
theorem clone_own (b off n c : Nat) (zs : List Int) (hn : zs.length = n) (hl : n ≤ 140737488351232) (w : World) (hr : RdB w (some ⟨b, off, none⟩) zs) :
    Calls Tryz.prog 69 #[.slice (some ⟨b, off, none⟩) n c] w fun e w' => ∃ v, e = .returned v ∧ w'.ownsRow w.heap.size 5 1 v n (octCells zs) ∧ Below w.heap.size w w' := by
  obtain ⟨i0, hi, hz0, hz1, hz2⟩ := info_parts info5
  have q22 : ∀ (w : World) (a : Option Addr) (n c n' c' : Nat), (binOp .eql 46 (.slice a n c) (.slice none n' c')).run Tryz.prog w = .ok (.bool a.isNone) w := fun w a n c n' c' => Lib.run_eql_slice_nil w _ _ a n c n' c' Tryz.underlying46
  have HR := Lib.hid hr
  have HN : Hid ((octCells zs).length = n) := by rw [octCells_length]; exact hn
  clear hr hn
  have hno : (w.alloc (.cells #[] 5)).ownsRow w.heap.size 5 1 (.slice (some ⟨w.heap.size, 0, none⟩) 0 0) 0 [] := ⟨rfl, .inr ⟨_, _, #[], rfl, Nat.le_refl _, heap_alloc_new w _, Nat.le_refl _, by simp, rfl, rfl⟩⟩
  have HNO := Lib.hid hno
  have hB0 : Below w.heap.size w (w.alloc (.cells #[] 5)) := (Below.refl _ w).alloc (Nat.le_refl _) _
  have H1 := Lib.hid (octCells_one zs)
  clear hno
  go_enter Tryz.func69, Tryz.ntmps69
  go_wp2_with (at_builtin; refine wpList_append_rd (o := ⟨some 7, _, _, _, _, _⟩) rfl _ _ 46 rfl w.heap.size 5 i0 (.int .u8 0) 1 Tryz.underlying46 hi hz0 hz1 hz2 rfl (.slice (some ⟨w.heap.size, 0, none⟩) 0 0) 0 [] rfl HNO.out (some ⟨b, off, none⟩) n c (octCells zs) rfl HN.out (Rd.below HR.out hB0) (fun e => by cases e) H1.out (by unfold maxLen; omega) (by omega) (by simp) ?_; intro v2 w2 hown2 hgrow2)
  obtain ⟨A2, c2, rfl, _, _⟩ := own_slice (own_bare' hown2)
  have HO := Lib.hid (own_bare' hown2)
  clear hown2
  go_wp2
  go_ret
  exact ⟨_, rfl, HO.out, hB0.grown hgrow2 hB0.size (fun j e => by simp [Value.ownBlock] at e; omega)⟩

end Go.Proofs.YtfeeejigedndcaaGreat

namespace Go.Proofs.YtfeeejigedndcaaGreat
open Go.ChangeShapes Go.WideShapes Go.ChangeAt Go.RowKit
set_option maxRecDepth 100000

/-- What a sector tells. -/
def pgAns (zs : List Int) : List Int × Int × Int := if pgIs zs = true then (pgCont zs, pgNext zs, 0) else ([], 0, 21)
theorem pgAns_ok {zs : List Int} (h : pgIs zs = true) : pgAns zs = (pgCont zs, pgNext zs, 0) := by unfold pgAns; rw [if_pos h]
theorem pgAns_no {zs : List Int} (h : pgIs zs = false) : pgAns zs = ([], 0, 21) := by unfold pgAns; rw [h]; rfl
theorem val_pos (zs : List Int) (h : Octs zs) : 0 ≤ val zs := (val_bound zs h).1
/-- The ways through the tests. -/
theorem pg_ways {zs : List Int} (hl : zs.length = 64) (ho : Octs zs) (R : List Int × Int × Int) (hR : pgAns zs = R) (N : Int) (hN : pgNext zs = N) :
    (∃ L : Int, pgLen zs = L ∧ 52 < L ∧ R = ([], 0, 21)) ∨
    (∃ n : Nat, pgLen zs = n ∧ n ≤ 52 ∧ ((zs.drop 4).take n).length = n ∧ ((pgE n N ≠ 0 ∧ R = ([], 0, 21)) ∨ (pgE n N = 0 ∧ ((pgO ((zs.drop 4).take n) N = zs ∧ R = ((zs.drop 4).take n, N, 0)) ∨ (pgO ((zs.drop 4).take n) N ≠ zs ∧ R = ([], 0, 21)))))) := by
  subst hR hN
  have h0 : 0 ≤ pgLen zs := val_pos _ (ho.tk 2)
  by_cases h1 : 52 < pgLen zs
  · refine .inl ⟨_, rfl, h1, pgAns_no ?_⟩
    rw [← Bool.not_eq_true]
    intro h
    have := (pg_is h).2.1
    omega
  · refine .inr ⟨(pgLen zs).toNat, by omega, by omega, by simp; omega, ?_⟩
    have hcl : (pgCont zs).length = (pgLen zs).toNat := by unfold pgCont; simp; omega
    by_cases h2 : pgE (pgLen zs).toNat (pgNext zs) = 0
    · refine .inr ⟨h2, ?_⟩
      by_cases h3 : pgO (pgCont zs) (pgNext zs) = zs
      · refine .inl ⟨h3, pgAns_ok ?_⟩
        unfold pgIs
        rw [hcl, h2, h3, hl]
        simp
        omega
      · refine .inr ⟨h3, pgAns_no ?_⟩
        rw [← Bool.not_eq_true]
        intro h
        exact h3 (pg_is h).2.2.2
    · refine .inl ⟨h2, pgAns_no ?_⟩
      rw [← Bool.not_eq_true]
      intro h
      have := (pg_is h).2.2.1
      rw [hcl] at this
      exact h2 this

set_option maxHeartbeats 2000000 in
set_option maxRecDepth 100000 in
theorem pageDecode_any (s : Slc) (w : World) (hs : s.ok w) :
    Calls Tryz.prog 109 #[s.val] w fun e w' => ∃ v, e = .returned (.tuple #[v, .int .i64 (pgAns s.zs).2.1, .int .i64 (pgAns s.zs).2.2]) ∧ w'.ownsRow w.heap.size 5 1 v (pgAns s.zs).1.length (octCells (pgAns s.zs).1) ∧ Below w.heap.size w w' := by
  obtain ⟨A, zs, c⟩ := s
  obtain ⟨hc, hl, ho, hr⟩ := hs
  unfold maxLen at hl
  unfold Slc.val
  dsimp only at hc hl ho hr ⊢
  by_cases h64 : zs.length = 64
  · obtain ⟨b, off, rfl, hb, _⟩ := RdB.cell hr (k := 0) (by omega)
    obtain ⟨R, hR⟩ : ∃ R, pgAns zs = R := ⟨_, rfl⟩
    obtain ⟨N, hN⟩ : ∃ N, pgNext zs = N := ⟨_, rfl⟩
    have hw := pg_ways h64 ho R hR N hN
    have N1 := Lib.hid (number2_any (some ⟨b, off, none⟩) 2 c (zs.take 2) (by simp; omega) (by omega) (by omega) (ho.tk 2))
    have N2 := Lib.hid (number2_any (some ⟨b, off + 2, none⟩) 2 (c - 2) ((zs.drop 2).take 2) (by simp; omega) (by omega) (by omega) ((ho.dp 2).tk 2))
    have R1 := Lib.hid fun (W : World) h => RdB.take (w := W) (A := some ⟨b, off, none⟩) (zs := zs) h 2
    have R2 := Lib.hid fun (W : World) h => rd_mid (w := W) (zs := zs) (b := b) (off := off) h 2 2
    rw [hR]
    have hN' : val ((zs.drop 2).take 2) = N := hN
    rw [hN'] at N2
    have c2 : (2 : Int) ≤ c := by omega
    have c3 : (4 : Int) ≤ c := by omega
    have c1 : ¬ c = 2 := by omega
    have c5 : ¬ c = 4 := by omega
    rw [h64] at hc ⊢
    rcases hw with ⟨L, hL, hL2, rfl⟩ | ⟨n, hL, hn, hln, hw⟩
    · have hL' : val (zs.take 2) = L := hL
      rw [hL'] at N1
      have HR := Lib.hid hr
      clear hR hN hL hL' hN' hr ho R2 N2
      go_enter Tryz.func109, Tryz.ntmps109
      go_wp2_with (refine (N1.out w (R1.out w HR.out)).mono ?_; rintro e w3 ⟨rfl, rfl⟩)
      refine bodyPost_ret (v := .tuple #[.slice none 0 0, .int .i64 0, .int .i64 21]) (by simp [results, Tryz.results109, go_sem]) rfl ⟨_, rfl, own_none _ _ _, Below.refl _ _⟩
    · have hL' : val (zs.take 2) = n := hL
      rw [hL'] at N1
      have R4 := Lib.hid fun (W : World) h => rd_mid (w := W) (zs := zs) (b := b) (off := off) h 4 n
      have HCL := Lib.hid (clone_own b (off + 4) n (c - 4) ((zs.drop 4).take n) hln (by omega))
      have EQ := Lib.hid fun B d (ys : List Int) (hm : ys.length = 64) (hp : Octs ys) => equal_any (some ⟨b, off, none⟩) 64 c zs h64 ho B 64 d ys hm hp
      have ho4 : Octs ((zs.drop 4).take n) := (ho.dp 4).tk n
      have HO4 := Lib.hid ho4
      have HLN := Lib.hid hln
      have HR := Lib.hid hr
      generalize (zs.drop 4).take n = cs at *
      clear hR hN hL hL' hN' hr ho h64 hl ho4 hln
      have hn' : (n : Int) ≤ 52 := by omega
      have c6 : (4 : Int) + n ≤ c := by omega
      have c7 : wrap64 (4 + (n : Int)) = 4 + n := IntWalk.wrap64_in _ (by omega)
      go_enter Tryz.func109, Tryz.ntmps109
      go_wp2_with fail
      refine (N1.out w (R1.out w HR.out)).mono ?_
      rintro e w3 ⟨rfl, rfl⟩
      clear N1 R1
      go_wp2_with fail
      refine (HCL.out w (R4.out w HR.out)).mono ?_
      rintro e w4 ⟨v4, rfl, hown4, hB4⟩
      obtain ⟨A4, c4, rfl, hc4, hr4⟩ := own_slice hown4
      have HO4r := Lib.hid hown4
      have HR4 := Lib.hid hr4
      have HRZ4 := Lib.hid (HR.out.below hB4)
      clear HCL R4 hown4 hr4
      go_wp2_with fail
      refine (N2.out w4 (R2.out w4 HRZ4.out)).mono ?_
      rintro e w5 ⟨rfl, rfl⟩
      clear N2 R2
      go_wp2_with fail
      have hlz : n ≤ maxLen := by unfold maxLen; omega
      have hsl : (Slc.mk A4 cs c4).ok w4 := ⟨by show cs.length ≤ c4; rw [HLN.out]; exact hc4, by show cs.length ≤ maxLen; rw [HLN.out]; exact hlz, HO4.out, HR4.out⟩
      rcases hw with ⟨hE, rfl⟩ | ⟨hE, hw⟩
      · have hen := pageEncode_no (Slc.mk A4 cs c4) N (by show pgE cs.length N ≠ 0; rw [HLN.out]; exact hE) w4 hsl
        unfold Slc.val at hen
        dsimp only at hen
        rw [HLN.out] at hen
        have hE' : (pgE n N != 0) = true := by simpa using hE
        refine hen.mono ?_
        rintro e w6 ⟨rfl, rfl⟩
        clear hen hsl
        go_wp2_with fail
        refine bodyPost_ret (v := .tuple #[.slice none 0 0, .int .i64 0, .int .i64 21]) (by simp [results, Tryz.results109, go_sem]) rfl ⟨_, rfl, own_none _ _ _, hB4⟩
      · have hen := pageEncode_ok (Slc.mk A4 cs c4) N (by show pgE cs.length N = 0; rw [HLN.out]; exact hE) w4 hsl
        have hpl : (pgO cs N).length = 64 := pgO_length N (by rw [HLN.out]; exact hn)
        have hpo : Octs (pgO cs N) := pgO_octs N HO4.out
        unfold Slc.val at hen
        dsimp only at hen hw
        rw [HLN.out] at hen
        generalize pgO cs N = pg at *
        refine hen.mono ?_
        rintro e w6 ⟨v6, rfl, hown6, hB6⟩
        obtain ⟨A6, c6', rfl, _, hr6⟩ := own_slice hown6
        have HEQ := Lib.hid (EQ.out A6 c6' pg hpl hpo w6 (HRZ4.out.below hB6) hr6)
        have HO6 := Lib.hid (own_below HO4r.out hB6 (Nat.le_refl _))
        clear hen hsl hown6 hr6 EQ HRZ4 HR4 HO4r
        rcases hw with ⟨he, rfl⟩ | ⟨he, rfl⟩
        · rw [decide_eq_true he.symm] at HEQ
          go_wp2_with (refine HEQ.out.mono ?_; rintro e w7 ⟨rfl, rfl⟩)
          refine bodyPost_ret (v := .tuple #[.slice A4 n c4, .int .i64 N, .int .i64 0]) (by simp [results, Tryz.results109, go_sem]) rfl ⟨_, rfl, ?_, hB4.trans (hB6.mono hB4.size)⟩

          rw [HLN.out]
          exact HO6.out
        · rw [decide_eq_false (fun h => he h.symm)] at HEQ
          go_wp2_with (refine HEQ.out.mono ?_; rintro e w7 ⟨rfl, rfl⟩)
          refine bodyPost_ret (v := .tuple #[.slice none 0 0, .int .i64 0, .int .i64 21]) (by simp [results, Tryz.results109, go_sem]) rfl ⟨_, rfl, own_none _ _ _, hB4.trans (hB6.mono hB4.size)⟩
  · have hr0 : pgAns zs = ([], 0, 21) := pgAns_no (by
      rw [← Bool.not_eq_true]
      intro h
      exact h64 (pg_is h).1)
    rw [hr0]
    generalize zs.length = n at *
    clear hr0 hr ho
    have hne : ((n : Int) == 64) = false := beq_eq_false_iff_ne.2 (by omega)
    go_enter Tryz.func109, Tryz.ntmps109
    go_wp2
    refine bodyPost_ret (v := .tuple #[.slice none 0 0, .int .i64 0, .int .i64 21]) (by simp [results, Tryz.results109, go_sem]) rfl ⟨_, rfl, own_none _ _ _, Below.refl _ _⟩

end Go.Proofs.YtfeeejigedndcaaGreat
