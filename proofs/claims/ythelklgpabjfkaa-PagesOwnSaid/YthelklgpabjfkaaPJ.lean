/-
  PagesBack's walk. Conditions: the slice is one that may be.
-/
import Derived.Test.YthelklgpabjfkaaPI
namespace Go.Proofs.Ythelklgpabjfkaa
open Go.ChangeShapes Go.WideShapes Go.ChangeAt Go.RowKit

theorem Pages.slcs {W : World} {base : Nat} {qs : List (Nat × Nat)} {cs : List (List Int)} (h : Pages W base qs cs) (h64 : ∀ c ∈ cs, c.length = 64 ∧ Octs c) : ∃ ls : List Slc, ls.map Slc.val = qs.map pval ∧ ls.map Slc.zs = cs ∧ ∀ s ∈ ls, s.ok W := by
  have hl := h.len
  refine ⟨List.zipWith (fun q c => ⟨some ⟨q.1, 0, none⟩, c, q.2⟩) qs cs, ?_, ?_, ?_⟩
  · refine List.ext_getElem (by simp [hl]) fun i h1 h2 => ?_
    have hi : i < cs.length := by simpa [hl] using h2
    simp [Slc.val, (h64 _ (List.getElem_mem hi)).1]
  · refine List.ext_getElem (by simp [hl]) fun i h1 h2 => ?_
    simp
  · intro s hs
    obtain ⟨k, hk, rfl⟩ := List.getElem_of_mem hs
    have hk' : k < qs.length ∧ k < cs.length := by simpa [hl] using hk
    have ho := h.own k _ _ (List.getElem?_eq_getElem hk'.1) (List.getElem?_eq_getElem hk'.2)
    obtain ⟨h6, h8⟩ := h64 _ (List.getElem_mem hk'.2)
    obtain ⟨A, c, e, hc, hr⟩ := own_slice ho
    injection e with e1 e2 e3
    subst e1 e3
    simp only [List.getElem_zipWith]
    exact ⟨by show cs[k].length ≤ _; rw [h6]; exact hc, by show cs[k].length ≤ maxLen; rw [h6]; unfold maxLen; omega, h8, hr⟩
theorem piece_free {zs : List Int} (i : Nat) : pgFree (pgO (piece zs i) 0) = true ∧ pgCont (pgO (piece zs i) 0) = piece zs i := by
  obtain ⟨h1, h2, h3⟩ := pg_back (piece_page zs i)
  refine ⟨?_, h2⟩
  unfold pgFree
  rw [h1, h3]
  rfl
theorem glue_pieces (zs : List Int) : glueAns ((pieces zs).map fun z => pgO z 0) = (zs, 0) := by
  unfold glueAns
  have h1 : ((pieces zs).map fun z => pgO z 0).all pgFree = true := by
    rw [List.all_eq_true]
    intro z hz
    obtain ⟨y, hy, rfl⟩ := List.mem_map.1 hz
    obtain ⟨i, _, rfl⟩ := List.mem_map.1 hy
    exact (piece_free i).1
  rw [if_pos h1]
  have h2 : ((pieces zs).map fun z => pgO z 0).map pgCont = pieces zs := by
    rw [List.map_map]
    refine (List.map_congr_left fun y hy => ?_).trans (List.map_id _)
    obtain ⟨i, _, rfl⟩ := List.mem_map.1 hy
    exact (piece_free i).2
  unfold gl
  rw [h2, pieces_flat]
theorem pieces_64 {zs : List Int} (ho : Octs zs) : ∀ c ∈ (pieces zs).map (fun z => pgO z 0), c.length = 64 ∧ Octs c := by
  intro c hc
  obtain ⟨y, hy, rfl⟩ := List.mem_map.1 hc
  obtain ⟨i, _, rfl⟩ := List.mem_map.1 hy
  exact ⟨pgO_length 0 (piece_le zs i), pgO_octs 0 (piece_octs ho i)⟩
theorem pgAns_enc {b : List Int} {next : Int} : (pgE b.length next = 0 ∧ pgAns (pgEnc b next) = (b, next, 0)) ∨ (pgE b.length next ≠ 0 ∧ pgAns (pgEnc b next) = ([], 0, 21)) := by
  by_cases h : pgE b.length next = 0
  · refine .inl ⟨h, ?_⟩
    obtain ⟨h1, h2, h3⟩ := pg_back h
    unfold pgEnc
    rw [if_pos h, pgAns_ok h1, h2, h3]
  · refine .inr ⟨h, ?_⟩
    unfold pgEnc
    rw [if_neg h]
    exact pgAns_no (by
      rw [← Bool.not_eq_true]
      intro h'
      have := (pg_is h').1
      simp at this)
/-- What Glue makes of what Cut made. -/
theorem glue_cut {W : World} {base c : Nat} {A : Option Addr} {qs : List (Nat × Nat)} {zs : List Int} (ho : Octs zs) (hl : zs.length ≤ 140737488351232) (hrow : Rd W A (qs.map pval)) (hp : Pages W base qs ((pieces zs).map fun z => pgO z 0)) :
    Calls Try.prog 16 #[.slice A (cntN zs.length) c] W fun e w' => ∃ v, e = .returned (.tuple #[v, .int .i64 0]) ∧ w'.ownsRow W.heap.size 5 1 v zs.length (octCells zs) ∧ Below W.heap.size W w' := by
  obtain ⟨ls, h1, h2, h3⟩ := hp.slcs (pieces_64 ho)
  have hll : ls.length = cntN zs.length := by
    have := congrArg List.length h2
    simpa [pieces_length] using this
  have := glue_any A c ls (by rw [hll]; unfold cntN; omega) W (by rw [h1]; exact hrow) h3
  rw [h2, glue_pieces, hll] at this
  exact this

set_option maxHeartbeats 2000000 in
set_option maxRecDepth 100000 in
theorem back_walk (s : Slc) (next : Int) (w : World) (hs : s.ok w) (hl : s.zs.length ≤ 140737488351232) :
    Calls Try.prog 4 #[s.val, .int .i64 next] w fun e w' => e = .returned (.bool true) ∧ Below w.heap.size w w' := by
  have HE := Lib.hid (fun w h => pageEncode_uni s next w h)
  have HD : Hid (∀ (A : Option Addr) (c : Nat) (w : World), (Slc.mk A (pgEnc s.zs next) c).ok w → Calls Try.prog 9 #[.slice A (pgEnc s.zs next).length c] w fun e w' => ∃ v, e = .returned (.tuple #[v, .int .i64 (pgAns (pgEnc s.zs next)).2.1, .int .i64 (pgAns (pgEnc s.zs next)).2.2]) ∧ w'.ownsRow w.heap.size 5 1 v (pgAns (pgEnc s.zs next)).1.length (octCells (pgAns (pgEnc s.zs next)).1) ∧ Below w.heap.size w w') := fun A c w h => pageDecode_any ⟨A, _, c⟩ w h
  have HL : Hid (Octs (pgEnc s.zs next) ∧ (pgEnc s.zs next).length ≤ maxLen) := ⟨pgEnc_octs next hs.2.2.1, Nat.le_trans (pgEnc_le _ _) (by unfold maxLen; omega)⟩
  have HC := Lib.hid (fun w h => cut_any s w h hl)
  have hco := count_any (s.zs.length : Int) (by omega)
  rw [cntI_nat] at hco
  have HCO := Lib.hid hco
  have HG : Hid (∀ (W : World) base c A qs, Rd W A (qs.map pval) → Pages W base qs ((pieces s.zs).map fun z => pgO z 0) → Calls Try.prog 16 #[.slice A (cntN s.zs.length) c] W fun e w' => ∃ v, e = .returned (.tuple #[v, .int .i64 0]) ∧ w'.ownsRow W.heap.size 5 1 v s.zs.length (octCells s.zs) ∧ Below W.heap.size W w') := fun W base c A qs h1 h2 => glue_cut hs.2.2.1 hl h1 h2
  have HS := Lib.hid hs
  have hx := pgAns_enc (b := s.zs) (next := next)
  clear hco
  obtain ⟨A0, zs, c0⟩ := s
  dsimp only at HD HL HC HCO HG hx hl
  unfold Slc.val at HE HC ⊢
  dsimp only at HE HC ⊢
  generalize pgEnc zs next = ze at *
  generalize pgE zs.length next = ee at *
  generalize pgAns ze = aa at *
  obtain ⟨zd, nd, ed⟩ := aa
  dsimp only at HD
  simp only [Prod.mk.injEq] at hx
  clear hs
  have HPL : Hid (∀ (W : World) base qs, Pages W base qs ((pieces zs).map fun z => pgO z 0) → qs.length = cntN zs.length) := fun W base qs h => by rw [h.len, List.length_map, pieces_length]
  have hm : cntN zs.length ≤ 2706490160603 := by unfold cntN; omega
  generalize cntN zs.length = m at *
  go_enter Try.func4, Try.ntmps4
  go_wp2_with fail
  refine (alive_any w).mono ?_
  rintro e wa ⟨rfl, hBa⟩
  go_wp2_with fail
  refine (HC.out wa (HS.out.below hBa)).mono ?_
  rintro e w1 ⟨v, qs, rfl, hown1, hp1, hB1⟩
  obtain ⟨A1, c1, rfl, hc1, hr1⟩ := own_slice hown1
  have hB01 : Below w.heap.size w w1 := hBa.trans (hB1.mono hBa.size)
  have HR1 := Lib.hid hr1
  have HP1 := Lib.hid hp1
  clear hown1 hB1 hBa hr1 hp1
  go_wp2_with fail
  refine (HG.out w1 _ c1 A1 qs HR1.out HP1.out).mono ?_
  rintro e w2 ⟨v2, rfl, hown2, hB2⟩
  obtain ⟨A2, c2, rfl, _, hr2⟩ := own_slice hown2
  have hB02 : Below w.heap.size w w2 := hB01.trans (hB2.mono hB01.size)
  have HR12 := Lib.hid (Rd.below HR1.out hB2)
  have HR2 := Lib.hid hr2
  have HQ := Lib.hid (HPL.out _ _ _ HP1.out)
  clear hown2 hB01 hB2 hr2 HR1 HG
  go_wp2_with fail
  refine (HE.out w2 (HS.out.below hB02)).mono ?_
  rintro e w3 ⟨v3, rfl, hown3, hB3⟩
  obtain ⟨A3, c3, rfl, hc3, hr3⟩ := own_slice hown3
  have hB03 : Below w.heap.size w w3 := hB02.trans (hB3.mono hB02.size)
  have HR13 := Lib.hid (Rd.below HR12.out hB3)
  have HR23 := Lib.hid (Rd.below HR2.out hB3)
  have HR3 := Lib.hid hr3
  clear hown3 hB02 hB3 hr3 HR12 HR2 HE HC HP1
  go_wp2_with fail
  refine (HD.out A3 c3 w3 ⟨hc3, HL.out.2, HL.out.1, HR3.out⟩).mono ?_
  rintro e w4 ⟨v4, rfl, hown4, hB4⟩
  obtain ⟨A4, c4, rfl, hc4, hr4⟩ := own_slice hown4
  have hB04 : Below w.heap.size w w4 := hB03.trans (hB4.mono hB03.size)
  have hs4 := HS.out.below hB04
  have HR14 := Lib.hid (Rd.below HR13.out hB4)
  have hq1 := run_string_rd (P := Try.prog) w4 22 5 9 Try.underlying22 Try.underlying5 Try.underlying9 A0 zs c0 hs4.2.2.2
  have hq2 := run_string_rd (P := Try.prog) w4 22 5 9 Try.underlying22 Try.underlying5 Try.underlying9 A2 zs c2 (RdB.below HR23.out hB4)
  have hq3 := run_string_rd (P := Try.prog) w4 22 5 9 Try.underlying22 Try.underlying5 Try.underlying9 A4 zd c4 hr4
  clear hown4 hB03 hB4 hr4 hs4 HR13 HR23 HR3 HD HS
  have hgo : (ee = 0 ∧ zd = zs ∧ nd = next ∧ ed = 0) ∨ (ee == 0) = false := by
    rcases hx with ⟨h1, h2, h3, h4⟩ | ⟨h1, _⟩
    · exact .inl ⟨h1, h2, h3, h4⟩
    · exact .inr (beq_eq_false_iff_ne.2 h1)
  clear hx
  rcases hgo with ⟨rfl, rfl, rfl, rfl⟩ | hgo
  all_goals
    go_wp2_with (refine (num_any _ _).mono ?_; rintro e w' ⟨rfl, rfl⟩)
    go_loopw [13] (fun i wr => ∃ k : Nat, k ≤ m ∧ i = .int .i64 k ∧ wr = w4) (fun i _ => m - (intOf i).toNat)
    case atStart => exact ⟨0, Nat.zero_le _, rfl, rfl⟩
    case round =>
      obtain ⟨k, hk, rfl, rfl⟩ := hrel
      by_cases hlt : k < m
      · obtain ⟨q, hq⟩ : ∃ q, qs[k]? = some q := ⟨_, List.getElem?_eq_getElem (by rw [HQ.out]; exact hlt)⟩
        obtain ⟨b, off, rfl, hb, hcc⟩ := HR14.out (by
          intro h
          have := congrArg List.length h
          simp [HQ.out] at this
          omega)
        have hck := hcc k (pval q) (by rw [List.getElem?_map, hq]; rfl)
        clear hcc hq
        go_wp2
        go_roundw
        case rel => exact ⟨k + 1, by omega, by go_num, by first | rfl | trivial⟩
        case measure => simp [intOf]; omega
      · obtain rfl : k = m := by omega
        go_wp2_with (first
          | (go_at_call 13; refine (num_any _ _).mono ?_; rintro e w' ⟨rfl, rfl⟩)
          | (go_at_call 11; refine (HCO.out _).mono ?_; rintro e w' ⟨rfl, rfl⟩))
        go_ret
        exact ⟨rfl, hB04⟩

end Go.Proofs.Ythelklgpabjfkaa
