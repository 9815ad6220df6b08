/-
  UberBack's and UberSpoilt's walks. Conditions: the slice is one that may be; the octet is one.
-/
import Derived.Test.YtlcjdhmgpbnnmaaUH
namespace Go.Proofs.Ytlcjdhmgpbnnmaa
open Go.ChangeShapes Go.WideShapes Go.ChangeAt Go.RowKit

set_option maxHeartbeats 2000000 in
set_option maxRecDepth 100000 in
theorem back_walk (u : Ub) (s : Slc) (w : World) (hs : s.ok w) :
    Calls Try.prog 4 #[u.val, s.val] w fun e w' => e = .returned (.bool true) ∧ Below w.heap.size w w' := by
  have HE := Lib.hid (encode_uni u)
  have hd0 : ∀ A c (w : World), u.enc.length ≤ c → RdB w A u.enc → Calls Try.prog 9 #[.slice A u.enc.length c] w fun e w' => e = .returned (ansU (ubOf u.enc)) ∧ Below w.heap.size w w' := fun A c (w : World) (hc : u.enc.length ≤ c) (hr : RdB w A u.enc) => Slc.decode (s := ⟨A, u.enc, c⟩) (w := w) ⟨hc, by have := u.enc_le; unfold maxLen; show u.enc.length ≤ _; omega, u.enc_octs, hr⟩
  have HD := Lib.hid hd0
  have HD' := Lib.hid fun w => Slc.decode (s := s) (w := w)
  clear hd0
  have HS := Lib.hid hs
  have hx : (u.err = 0 ∧ ubOf u.enc = (u, 0)) ∨ (u.err = 4 ∧ ubOf u.enc = (ub0, 21)) := by
    rcases h : u.ok with _ | _
    · exact .inr ⟨Ub.err_no h, by simp only [Ub.enc, h]; rfl⟩
    · exact .inl ⟨Ub.err_ok h, by simp only [Ub.enc, h]; exact ubOf_octs h⟩
  have hy : ((ubOf s.zs).2 = 21) ∨ ((ubOf s.zs).2 = 0 ∧ (ubOf s.zs).1.err = 0 ∧ (ubOf s.zs).1.enc = s.zs) := by
    rcases ubOf_ways s.zs with h | ⟨v, h, h1, h2, _⟩
    · exact .inl (by rw [h])
    · rw [h]
      exact .inr ⟨rfl, Ub.err_ok h1, by simp only [Ub.enc, h1]; exact h2⟩
  have HE' := Lib.hid (encode_uni (ubOf s.zs).1)
  generalize hen : u.enc = zu at *
  generalize u.err = ue at *
  generalize ubOf s.zs = yy at *
  generalize ubOf zu = xx at *
  obtain ⟨⟨t1, f1, o1⟩, e1⟩ := xx
  obtain ⟨⟨t2, f2, o2⟩, e2⟩ := yy
  dsimp only at HE' hy
  generalize (Ub.mk t2 f2 o2).enc = zy at *
  generalize (Ub.mk t2 f2 o2).err = ye at *
  obtain ⟨t, f, o⟩ := u
  simp only [Prod.mk.injEq, ub0, Ub.mk.injEq] at hx
  clear hs hen
  go_enter Try.func4, Try.ntmps4
  go_wp2_with fail
  obtain ⟨w0, hw0⟩ : ∃ w0, w.alloc (.cells #[.int .i64 t, .int .i64 f, .int .i64 o] 23) = w0 := ⟨_, rfl⟩
  have hB0 : Below w.heap.size w w0 := hw0 ▸ (Below.refl _ w).alloc (Nat.le_refl _) _
  have kb : Blk w0 w.heap.size 23 [.int .i64 t, .int .i64 f, .int .i64 o] := hw0 ▸ Blk.new w [.int .i64 t, .int .i64 f, .int .i64 o] 23
  rw [hw0]
  clear hw0
  refine (alive_any w0).mono ?_
  rintro e wa ⟨rfl, hBa⟩
  have kba := kb.below hBa kb.lt
  have hB0a : Below w.heap.size w wa := hB0.trans (hBa.mono hB0.size)
  have a0 := kba.cell 0
  have a1 := kba.cell 1
  have a2 := kba.cell 2
  simp only [List.getElem?_cons_zero, List.getElem?_cons_succ] at a0 a1 a2
  clear kb hB0 hBa
  go_wp2_with fail
  refine (HE.out wa).mono ?_
  rintro e w1 ⟨A1, c1, rfl, hr1, hc1, hB1⟩
  have kb1 := kba.below hB1 kba.lt
  have hB01 : Below w.heap.size w w1 := hB0a.trans (hB1.mono hB0a.size)
  clear kba hB0a hB1 a0 a1 a2
  go_wp2_with fail
  refine (HD.out A1 c1 w1 hc1 hr1).mono ?_
  rintro e w2 ⟨rfl, hB2⟩
  have kb2 := kb1.below hB2 kb1.lt
  have hB02 : Below w.heap.size w w2 := hB01.trans (hB2.mono hB01.size)
  clear kb1 hB01 hB2 hr1 HD
  go_wp2_with fail
  obtain ⟨w3, hw3⟩ : ∃ w3, w2.alloc (.cells #[.int .i64 t1, .int .i64 f1, .int .i64 o1] 23) = w3 := ⟨_, rfl⟩
  have hB23 : Below w2.heap.size w2 w3 := hw3 ▸ (Below.refl _ w2).alloc (Nat.le_refl _) _
  have kv : Blk w3 w2.heap.size 23 [.int .i64 t1, .int .i64 f1, .int .i64 o1] := hw3 ▸ Blk.new w2 [.int .i64 t1, .int .i64 f1, .int .i64 o1] 23
  have kb3 := kb2.below hB23 kb2.lt
  have hB03 : Below w.heap.size w w3 := hB02.trans (hB23.mono hB02.size)
  rw [hw3]
  clear hw3 kb2 hB23 hB02
  refine (HD'.out w3 (HS.out.below hB03)).mono ?_
  rintro e w4 ⟨rfl, hB4⟩
  have kb4 := kb3.below hB4 kb3.lt
  have kv4 := kv.below hB4 kv.lt
  have hB04 : Below w.heap.size w w4 := hB03.trans (hB4.mono hB03.size)
  clear kb3 kv hB03 hB4 HD'
  generalize w2.heap.size = V at *
  go_wp2_with fail
  have hB45 : Below w4.heap.size w4 (w4.alloc (.cells #[.int .i64 t2, .int .i64 f2, .int .i64 o2] 23)) := (Below.refl _ w4).alloc (Nat.le_refl _) _
  have kb5 := kb4.below hB45 kb4.lt
  have kv5 := kv4.below hB45 kv4.lt
  have hB05 := hB04.trans (hB45.mono hB04.size)
  refine (HE'.out _).mono ?_
  rintro e w6 ⟨A2, c2, rfl, hr2, hc2, hB6⟩
  have kb6 := kb5.below hB6 kb5.lt
  have kv6 := kv5.below hB6 kv5.lt
  have hB06 := hB05.trans (hB6.mono hB05.size)
  have hs6 := HS.out.below hB06
  have hcv := run_string_rd (P := Try.prog) w6 24 5 9 Try.underlying24 Try.underlying5 Try.underlying9 A2 zy c2 hr2
  have hcw := run_string_rd (P := Try.prog) w6 24 5 9 Try.underlying24 Try.underlying5 Try.underlying9 s.A s.zs s.c hs6.2.2.2
  have x0 := kb6.cell 0
  have x1 := kb6.cell 1
  have x2 := kb6.cell 2
  have y0 := kv6.cell 0
  have y1 := kv6.cell 1
  have y2 := kv6.cell 2
  simp only [List.getElem?_cons_zero, List.getElem?_cons_succ] at x0 x1 x2 y0 y1 y2
  clear kb4 kv4 kb5 kv5 kb6 kv6 hB45 hB05 hB04 hB6 HS hs6 hr2 HE HE'
  rcases hx with ⟨rfl, ⟨rfl, rfl, rfl⟩, rfl⟩ | ⟨rfl, ⟨rfl, rfl, rfl⟩, rfl⟩
  all_goals
    rcases hy with rfl | ⟨rfl, rfl, rfl⟩
  all_goals
    go_wp2_with (refine (num_any _ _).mono ?_; rintro e w' ⟨rfl, rfl⟩)
    go_ret
    exact ⟨rfl, hB06⟩

theorem octcell {zs : List Int} {k : Nat} (hk : k < zs.length) : (octCells zs)[k]? = some (.int .u8 (oct zs k)) := by
  unfold octCells
  rw [List.getElem?_map, oct_is hk]
  rfl

set_option maxHeartbeats 2000000 in
set_option maxRecDepth 100000 in
theorem spoilt_walk (u : Ub) (at_ by_ : Int) (hby : 0 ≤ by_ ∧ by_ ≤ 255) (w : World) :
    Calls Try.prog 6 #[u.val, .int .i64 at_, .int .u8 by_] w fun e w' => e = .returned (.bool true) ∧ Below w.heap.size w w' := by
  obtain ⟨q, hq, hqe⟩ := place at_ 64 (by omega) (by omega)
  have hqe' : (wrap64 (at_.tmod 64 + 64)).tmod 64 = (q : Int) := hqe
  clear hqe
  obtain ⟨w0, hw0⟩ : ∃ w0, w.alloc (.cells #[.int .i64 u.t, .int .i64 u.f, .int .i64 u.o] 23) = w0 := ⟨_, rfl⟩
  have hB0 : Below w.heap.size w w0 := hw0 ▸ (Below.refl _ w).alloc (Nat.le_refl _) _
  have kb : Blk w0 w.heap.size 23 [.int .i64 u.t, .int .i64 u.f, .int .i64 u.o] := hw0 ▸ Blk.new w [.int .i64 u.t, .int .i64 u.f, .int .i64 u.o] 23
  by_cases hok : u.ok = true
  · have HE := Lib.hid (encode_ok u hok)
    have hz := oct_bd u.octs_octs q
    have hx := xor8 (oct u.octs q) by_ ⟨hz.1, by omega⟩ hby
    have hcell := octcell (zs := u.octs) (k := q) (by rw [u.octs_length]; exact hq)
    have hsp := ubOf_spoilt (u := u) (zs := u.octs.set q (bits BinOp.xor IntKind.u8 (oct u.octs q) by_)) (by rw [List.length_set, u.octs_length]) q hq (fun j hj => by rw [List.getElem?_set_ne (Ne.symm hj)])
    have hsl : (u.octs.set q (bits BinOp.xor IntKind.u8 (oct u.octs q) by_)).length = 64 := by rw [List.length_set, u.octs_length]
    have hset : ∀ z, (octCells u.octs).set q (.int .u8 z) = octCells (u.octs.set q z) := fun z => by unfold octCells; rw [List.map_set]
    have hget : u.octs[q]? = some (oct u.octs q) := oct_is (by rw [u.octs_length]; exact hq)
    by_cases hb0 : by_ = 0
    · subst hb0
      clear hx hsp hsl hset hget hcell
      go_enter Try.func6, Try.ntmps6
      go_wp2_with fail
      refine (alive_any w0).mono ?_
      rintro e wa ⟨rfl, hBa⟩
      have kba := kb.below hBa kb.lt
      have a0 := kba.cell 0
      have a1 := kba.cell 1
      have a2 := kba.cell 2
      simp only [List.getElem?_cons_zero, List.getElem?_cons_succ] at a0 a1 a2
      clear hw0
      have hB0a : Below w.heap.size w wa := hB0.trans (hBa.mono hB0.size)
      go_wp2_with (first
        | (go_at_call 7; refine (HE.out wa).mono ?_; rintro e w1 ⟨v, rfl, hown, hB1⟩)
        | (go_at_call 11; refine (num_any _ _).mono ?_; rintro e w' ⟨rfl, rfl⟩))
      go_ret
      exact ⟨rfl, hB0a.trans (hB1.mono hB0a.size)⟩
    · obtain ⟨h1, h2, h3⟩ := hx hb0
      have hsp' := hsp (by rw [List.getElem?_set_self (by rw [u.octs_length]; exact hq), hget]; intro e; injection e with e; exact h3 e)
      have hoc := octs_set u.octs_octs q _ ⟨h1, h2⟩
      have hoE := hset (bits BinOp.xor IntKind.u8 (oct u.octs q) by_)
      have HSP := Lib.hid hsp'
      have HOC := Lib.hid hoc
      have HSL := Lib.hid hsl
      have HOE := Lib.hid hoE
      have HCE := Lib.hid hcell
      have hbb : (by_ == 0) = false := beq_eq_false_iff_ne.2 hb0
      clear hsp hsl hset hget hx hsp' hoc h3 h1 h2 hz hoE hcell hok
      generalize oct u.octs q = z at *
      obtain ⟨z', hz'⟩ : ∃ z', bits BinOp.xor IntKind.u8 z by_ = z' := ⟨_, rfl⟩
      rw [hz'] at HSP HOC HSL HOE
      generalize u.octs.set q z' = zs' at *
      generalize octCells u.octs = oc at *
      go_enter Try.func6, Try.ntmps6
      go_wp2_with fail
      refine (alive_any w0).mono ?_
      rintro e wa ⟨rfl, hBa⟩
      have kba := kb.below hBa kb.lt
      have a0 := kba.cell 0
      have a1 := kba.cell 1
      have a2 := kba.cell 2
      simp only [List.getElem?_cons_zero, List.getElem?_cons_succ] at a0 a1 a2
      clear hw0
      have hB0a : Below w.heap.size w wa := hB0.trans (hBa.mono hB0.size)
      go_wp2_with fail
      refine (HE.out wa).mono ?_
      rintro e w1 ⟨v, rfl, hown, hB1⟩
      obtain ⟨g, c, rfl, hg, hlt⟩ := hown.form (by omega)
      have hB01 : Below w.heap.size w w1 := hB0a.trans (hB1.mono hB0a.size)
      have hgw : w.heap.size ≤ g := Nat.le_trans hB0a.size hg
      have hce := hown.cellAt q (by omega)
      rw [HCE.out] at hce
      have hfr := hown.frozenAt q
      obtain ⟨hown2, _⟩ := hown.stored q (.int .u8 z')
      rw [HOE.out] at hown2
      have hB02 : Below w.heap.size w (w1.setCell ⟨g, q, none⟩ (.int .u8 z')) := hB01.setCell (p := ⟨g, q, none⟩) hgw _
      have hcc : 64 ≤ c := by
        obtain ⟨A, c', e, hc', _⟩ := own_slice hown
        injection e with _ _ e
        omega
      have hdec := Slc.decode (s := ⟨some ⟨g, 0, none⟩, zs', c⟩) (w := w1.setCell ⟨g, q, none⟩ (.int .u8 z')) ⟨by show zs'.length ≤ c; rw [HSL.out]; exact hcc, by show zs'.length ≤ maxLen; rw [HSL.out]; unfold maxLen; omega, HOC.out, Rd.of_own hown2⟩
      unfold Slc.val at hdec
      dsimp only at hdec
      rw [HSP.out, HSL.out] at hdec
      have HDE := Lib.hid hdec
      have hqi : ((q : Int) < 64) := by omega
      clear hdec hown hown2 HE HSP HSL HOC HOE HCE kb kba
      go_wp2_with (first
        | (go_at_call 9; refine HDE.out.mono ?_; rintro e w3 ⟨rfl, hB3⟩; unfold ub0)
        | (go_at_call 11; refine (num_any _ _).mono ?_; rintro e w' ⟨rfl, rfl⟩))
      go_ret
      exact ⟨rfl, (hB02.trans (hB3.mono hB02.size)).alloc (Nat.le_trans hB02.size hB3.size) _⟩
  · have HE := Lib.hid (encode_no u (by simpa using hok))
    go_enter Try.func6, Try.ntmps6
    go_wp2_with fail
    refine (alive_any w0).mono ?_
    rintro e wa ⟨rfl, hBa⟩
    have kba := kb.below hBa kb.lt
    have a0 := kba.cell 0
    have a1 := kba.cell 1
    have a2 := kba.cell 2
    simp only [List.getElem?_cons_zero, List.getElem?_cons_succ] at a0 a1 a2
    clear hw0
    have hB0a : Below w.heap.size w wa := hB0.trans (hBa.mono hB0.size)
    go_wp2_with (first
      | (go_at_call 7; refine (HE.out wa).mono ?_; rintro e w1 ⟨rfl, hB1⟩)
      | (go_at_call 11; refine (num_any _ _).mono ?_; rintro e w' ⟨rfl, rfl⟩))
    go_ret
    exact ⟨rfl, hB0a.trans (hB1.mono hB0a.size)⟩

end Go.Proofs.Ytlcjdhmgpbnnmaa
