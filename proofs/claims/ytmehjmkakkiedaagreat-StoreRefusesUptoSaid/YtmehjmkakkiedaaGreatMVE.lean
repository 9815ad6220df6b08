/-
  StoreRefuses' walk. Conditions: the store and the objects are as they came in.
-/
import Derived.Test.YtmehjmkakkiedaaGreatMVB
import Derived.Test.YtmehjmkakkiedaaGreatMVD
namespace Go.Proofs.YtmehjmkakkiedaaGreat
open Go.ChangeShapes Go.WideShapes Go.ChangeAt Go.RowKit
set_option maxRecDepth 100000

theorem less_not (a b : ByteArray) : (!(Op.bytesLess b.toList a.toList || b.toList == a.toList)) = Op.bytesLess a.toList b.toList := by
  rcases h : Op.bytesLess a.toList b.toList with _ | _
  · rcases h2 : (Op.bytesLess b.toList a.toList || b.toList == a.toList) with _ | _
    · have : ltK a b := ltK_iff.2 h2
      unfold ltK at this
      rw [h] at this
      cases this
    · rfl
  · rw [ltK_iff.1 h]
    rfl
theorem riseK_last : ∀ (ks : List ByteArray) (last x : ByteArray), riseK last (ks ++ [x]) = (riseK last ks && (Op.bytesLess (ks.getLastD last).toList x.toList && decide (x.size ≤ 96)))
  | [], last, x => by
    show (!(Op.bytesLess x.toList last.toList || x.toList == last.toList) && (decide (x.size ≤ 96) && true)) = _
    rw [less_not]
    simp [riseK]
  | k :: ks, last, x => by
    have ih := riseK_last ks k x
    have e : riseK last (k :: ks ++ [x]) = (!(Op.bytesLess k.toList last.toList || k.toList == last.toList) && (decide (k.size ≤ 96) && riseK k (ks ++ [x]))) := rfl
    have e2 : riseK last (k :: ks) = (!(Op.bytesLess k.toList last.toList || k.toList == last.toList) && (decide (k.size ≤ 96) && riseK k ks)) := rfl
    rw [e, e2, ih, List.getLastD_cons]
    simp only [Bool.and_assoc]
theorem less_empty (a x : ByteArray) (h : (x.toList == ([] : List UInt8)) = true) : Op.bytesLess a.toList x.toList = false := by
  have h1 : x.toList = [] := by simpa using h
  rw [h1]
  rcases a.toList with _ | ⟨_, _⟩ <;> rfl

/-- What a commit to any store answers, as the law looks at it. -/
structure RefT (s : PS) (lp : List PO) (T : St) (n : Nat) (x : Int) : Prop where
  bad : ¬ s.ok → x = 9 ∧ n = 0
  err : s.ok → objE lp ≠ 0 → x = objE lp ∧ n = 0 ∧ T.os.length = 0
  ok : s.ok → objE lp = 0 → (x ≠ 0 ∧ n = 0 ∧ T.os.length = 0) ∨ (x = 0 ∧ T.os.length = lp.length)
theorem commit_ref (s : St) (A : Option Addr) (c : Nat) (ls : List Ob) (w : World) (hS : StCame w s) (hI : ObsIn w A c ls) :
    Calls Tryz.prog 11 #[s.val, .slice A ls.length c] w fun e w' => ∃ (T : St) (A' : Option Addr) (n c' : Nat) (x : Int), e = .returned (.tuple #[T.val, .slice A' n c', .int .i64 x]) ∧ RefT s.st (ls.map Ob.st) T n x ∧ Below w.heap.size w w' := by
  refine (commitTop_any s hS.fits A c ls (by have := hI.len; omega) hI.fits w hS.lies hI.rd fun o ho => (hI.came o ho).data).mono ?_
  rintro e w' ⟨⟨x, hx, rfl⟩ | ⟨h1, h2, U, A', c', l, rfl, hcm, _⟩, hB⟩
  · refine ⟨st0, none, 0, 0, x, rfl, ⟨fun h => ?_, fun h h' => ?_, fun h h' => .inl ?_⟩, hB⟩
    · rcases hx with ⟨_, g⟩ | ⟨g, _⟩ | ⟨g, _⟩
      · exact ⟨g, rfl⟩
      · exact absurd g h
      · exact absurd g h
    · rcases hx with ⟨g, _⟩ | ⟨_, _, g⟩ | ⟨_, g, _⟩
      · exact absurd h g
      · exact ⟨g, rfl, rfl⟩
      · exact absurd g h'
    · rcases hx with ⟨g, _⟩ | ⟨_, g, _⟩ | ⟨_, _, ⟨_, g⟩ | ⟨_, g⟩ | ⟨_, g⟩⟩
      · exact absurd h g
      · exact absurd h' g
      · exact ⟨by omega, rfl, rfl⟩
      · exact ⟨by omega, rfl, rfl⟩
      · exact ⟨by omega, rfl, rfl⟩
  · obtain ⟨⟨fr, pl, wi, hP, _⟩, _⟩ := hcm
    have hl := hP.length
    refine ⟨U, A', l.length, c', 0, rfl, ⟨fun h => absurd h1 h, fun _ h => absurd h2 h, fun _ _ => .inr ⟨rfl, ?_⟩⟩, hB⟩
    rw [← hl]
    simp [St.st]
theorem objE_long {l : List PO} (h : 256 < l.length) : objE l = 3 := by unfold objE; rw [if_pos h]
theorem objE_rise {l : List PO} (h : ¬ 256 < l.length) (hr : riseK ByteArray.empty (l.map (·.key)) = false) : objE l = 31 := by unfold objE; rw [if_neg h, if_pos hr]
theorem objE_else {l : List PO} (h : ¬ 256 < l.length) (hr : riseK ByteArray.empty (l.map (·.key)) = true) : objE l = 0 ∨ objE l = 5 := by
  unfold objE
  rw [if_neg h, if_neg (by rw [hr]; decide)]
  split
  · exact .inl rfl
  · exact .inr rfl

set_option maxHeartbeats 4000000 in
theorem refuses10_walk (s : St) (A : Option Addr) (c : Nat) (ls : List Ob) (w : World) (hS : StCame w s) (hI : ObsIn w A c ls) :
    Calls Tryz.prog 5 #[s.val, .slice A ls.length c] w fun e w' => e = .returned (.bool true) ∧ Below w.heap.size w w' := by
  have HI := Lib.hid hI
  have HS := Lib.hid hS
  have hll := hI.len
  obtain ⟨w1, hw1⟩ : ∃ w1, w.alloc (.cells #[.slice s.dev.A s.dev.ps.length s.dev.c, .slice s.dev.B s.dev.ws.length s.dev.d, .int .i64 s.u.t, .int .i64 s.u.f, .int .i64 s.u.o, .slice s.O s.os.length s.oc, .slice s.I s.is.length s.ic] 32) = w1 := ⟨_, rfl⟩
  have hB1 : Below w.heap.size w w1 := hw1 ▸ (Below.refl _ w).alloc (Nat.le_refl _) _
  have ks : Blk w1 w.heap.size 32 [.slice s.dev.A s.dev.ps.length s.dev.c, .slice s.dev.B s.dev.ws.length s.dev.d, .int .i64 s.u.t, .int .i64 s.u.f, .int .i64 s.u.o, .slice s.O s.os.length s.oc, .slice s.I s.is.length s.ic] := hw1 ▸ Blk.new w _ _
  have HKS := Lib.hid ks
  have hlt1 := ks.lt
  have HAL := Lib.hid (alive10_any w1)
  have HW1 := Lib.hid hw1
  clear hw1 ks hI hS
  go_enter Tryz.func5, Tryz.ntmps5
  go_wp2_with fail
  rw [HW1.out]
  refine HAL.out.mono ?_
  rintro e w2 ⟨rfl, hB2⟩
  have hB02 : Below w.heap.size w w2 := hB1.trans (hB2.mono hB1.size)
  have HKS2 := Lib.hid (HKS.out.below hB2 hlt1)
  obtain ⟨q0, q1, q2, q3, q4, q5, q6⟩ := blk7 HKS2.out
  have HCM := Lib.hid (commit_ref s A c ls w2 ⟨HS.out.lies.below hB02, HS.out.fits⟩ (HI.out.below hB02))
  clear HAL
  go_wp2_with fail
  refine HCM.out.mono ?_
  rintro e w3 ⟨T, A', n, c', x, rfl, hT, hB3⟩
  have HT := Lib.hid hT
  obtain ⟨w4, hw4⟩ : ∃ w4, w3.alloc (.cells #[.slice T.dev.A T.dev.ps.length T.dev.c, .slice T.dev.B T.dev.ws.length T.dev.d, .int .i64 T.u.t, .int .i64 T.u.f, .int .i64 T.u.o, .slice T.O T.os.length T.oc, .slice T.I T.is.length T.ic] 32) = w4 := ⟨_, rfl⟩
  have hB34 : Below w3.heap.size w3 w4 := hw4 ▸ (Below.refl _ w3).alloc (Nat.le_refl _) _
  have kt : Blk w4 w3.heap.size 32 [.slice T.dev.A T.dev.ps.length T.dev.c, .slice T.dev.B T.dev.ws.length T.dev.d, .int .i64 T.u.t, .int .i64 T.u.f, .int .i64 T.u.o, .slice T.O T.os.length T.oc, .slice T.I T.is.length T.ic] := hw4 ▸ Blk.new w3 _ _
  have hB24 : Below w2.heap.size w2 w4 := hB3.trans (hB34.mono hB3.size)
  have hB04 : Below w.heap.size w w4 := hB02.trans (hB24.mono hB02.size)
  have HKT := Lib.hid kt
  have hlt4 := kt.lt
  have HKS4 := Lib.hid (HKS2.out.below hB24 HKS2.out.lt)
  have HCK := Lib.hid (storeCheck_any s HS.out.fits w4 (HS.out.lies.below hB04))
  have HW4 := Lib.hid hw4
  obtain ⟨p0, p1, p2, p3, p4, p5, p6⟩ := blk7 HKS4.out
  clear hw4 kt hT HCM q0 q1 q2 q3 q4 q5 q6
  go_upto_region 4 with fail
  rw [HW4.out]
  go_wp2_with fail
  refine HCK.out.mono ?_
  rintro e w5 ⟨r, rfl, hr, hB5⟩
  have hB05 : Below w.heap.size w w5 := hB04.trans (hB5.mono hB04.size)
  have HKT5 := Lib.hid (HKT.out.below hB5 hlt4)
  have hlt5 := HKT5.out.lt
  obtain ⟨t0, t1, t2, t3, t4, t5, t6⟩ := blk7 HKT5.out
  clear p0 p1 p2 p3 p4 p5 p6 HCK
  have hr9 : r = 9 ∧ ¬ s.st.ok ∨ r = 0 ∧ s.st.ok := hr.symm.imp_right id
  clear hr
  rcases hr9 with ⟨rfl, hno⟩ | ⟨rfl, hok⟩
  · obtain ⟨rfl, rfl⟩ := HT.out.bad hno
    go_wp2
    go_ret
    exact ⟨rfl, hB05⟩
  have HOK := Lib.hid hok
  clear hok
  go_wp2_with fail
  go_loopw [8, 9] (fun b i W => ∃ (k : Nat) (rb : Bool), k ≤ ls.length ∧ i = .int .i64 k ∧ b = .bool rb ∧ Hid (riseK ByteArray.empty ((ls.take k).map (·.key)) = rb) ∧ Below w5.heap.size w5 W) (fun _ i _ => ls.length - (intOf i).toNat)
  case atStart => exact ⟨0, true, Nat.zero_le _, rfl, rfl, Lib.hid rfl, Below.refl _ _⟩
  case round =>
    obtain ⟨k, rb, hk, rfl, rfl, HR, hBr⟩ := hrel
    by_cases hlt : k < ls.length
    · obtain ⟨y, hy⟩ : ∃ y, ls[k]? = some y := ⟨_, List.getElem?_eq_getElem hlt⟩
      have hBw : Below w.heap.size w wr := hB05.trans (hBr.mono hB05.size)
      obtain ⟨vb, vo, rfl, hvb, hk0, _, _⟩ := ((HI.out.below hBw).rd).ob hy
      have hkl : (k : Int) < ls.length := by omega
      have hks : y.key.size ≤ maxLen := (HI.out.fits y (List.mem_of_getElem? hy)).1
      unfold maxLen at hks
      have HNX : Hid (riseK ByteArray.empty ((ls.take (k + 1)).map (·.key)) = (rb && (Op.bytesLess (((ls.take k).map (·.key)).getLastD ByteArray.empty).toList y.key.toList && decide (y.key.size ≤ 96)))) := Lib.hid (by
        rw [List.take_add_one, hy]
        show riseK _ (List.map _ (ls.take k ++ [y])) = _
        rw [List.map_append, List.map_singleton, riseK_last, HR.out])
      rcases rb with _ | _
      · have HNX' : Hid (riseK ByteArray.empty ((ls.take (k + 1)).map (·.key)) = false) := Lib.hid (by rw [HNX.out, Bool.false_and])
        clear HNX
        go_wp2_with fail
        go_big_quiet (fail)
        go_wp2
        go_roundw
        case rel => exact ⟨k + 1, false, by omega, by go_num, rfl, HNX', hBr.trans (below_dN _ _ _)⟩
        case measure => simp [intOf]; omega
      obtain ⟨eb, heb⟩ : ∃ eb, (y.key.toList == ([] : List UInt8)) = eb := ⟨_, rfl⟩
      have HEB := Lib.hid heb
      rcases eb with _ | _
      rotate_left
      · have HNX' : Hid (riseK ByteArray.empty ((ls.take (k + 1)).map (·.key)) = false) := Lib.hid (by rw [HNX.out, less_empty _ _ HEB.out, Bool.false_and, Bool.and_false])
        clear HNX
        go_wp2_with fail
        go_big_quiet (fail)
        go_wp2
        go_roundw
        case rel => exact ⟨k + 1, false, by omega, by go_num, rfl, HNX', hBr.trans (below_dN _ _ _)⟩
        case measure => simp [intOf]; omega
      by_cases h96 : y.key.size ≤ 96
      rotate_left
      · have HNX' : Hid (riseK ByteArray.empty ((ls.take (k + 1)).map (·.key)) = false) := Lib.hid (by rw [HNX.out, decide_eq_false h96, Bool.and_false, Bool.and_false])
        have h96' : decide ((y.key.size : Int) ≤ 96) = false := decide_eq_false (by omega)
        clear HNX
        go_wp2_with fail
        go_big_quiet (fail)
        go_wp2
        go_roundw
        case rel => exact ⟨k + 1, false, by omega, by go_num, rfl, HNX', hBr.trans (below_dN _ _ _)⟩
        case measure => simp [intOf]; omega
      have hd96 : decide ((y.key.size : Int) ≤ 96) = true := decide_eq_true (by omega)
      have hway : (((k : Int) == 0) = true ∧ Hid (riseK ByteArray.empty ((ls.take (k + 1)).map (·.key)) = true)) ∨ ∃ (m : Nat) (y' : Ob) (lb : Bool), ((k : Int) == 0) = false ∧ IntKind.i64.wrap ((k : Int) - 1) = (m : Int) ∧ (m : Int) < ls.length ∧ m < ls.length ∧ wr.cell? ⟨vb, vo + m * 3, none⟩ = some (.string y'.key) ∧ Op.bytesLess y'.key.toList y.key.toList = lb ∧ Hid (riseK ByteArray.empty ((ls.take (k + 1)).map (·.key)) = lb) := by
        rcases k with _ | m
        · refine .inl ⟨rfl, Lib.hid ?_⟩
          rw [HNX.out, decide_eq_true h96, Bool.and_true, Bool.true_and]
          exact ltK_empty HEB.out
        · obtain ⟨y', hy'⟩ : ∃ y', ls[m]? = some y' := ⟨_, List.getElem?_eq_getElem (by omega)⟩
          obtain ⟨vb', vo', e, _, hj0, _, _⟩ := ((HI.out.below hBw).rd).ob hy'
          injection e with e
          injection e with e1 e2 _
          subst e1 e2
          have hlast : ((ls.take (m + 1)).map (·.key)).getLastD ByteArray.empty = y'.key := by
            rw [List.take_add_one, hy']
            show (List.map _ (ls.take m ++ [y'])).getLastD _ = _
            rw [List.map_append, List.map_singleton, List.getLastD_concat]
          refine .inr ⟨m, y', _, by simp; omega, by rw [IntWalk.i64_in _ (by omega)]; omega, by omega, by omega, hj0, rfl, Lib.hid ?_⟩
          rw [HNX.out, hlast, decide_eq_true h96, Bool.and_true, Bool.true_and]
      clear HNX hk hlt h96
      have hkle : k + 1 ≤ ls.length := by omega
      rcases hway with ⟨hz, HNX'⟩ | ⟨m, y', lb, hz, hw, hm, hmn, hj0, hlb, HNX'⟩
      · go_wp2_with fail
        go_big_quiet (fail)
        go_wp2
        go_roundw
        case rel => exact ⟨k + 1, true, by omega, by go_num, rfl, HNX', hBr.trans (below_dN _ _ _)⟩
        case measure => simp [intOf]; omega
      · go_wp2_with fail
        go_big_quiet (fail)
        go_wp2
        go_roundw
        case rel => exact ⟨k + 1, lb, by omega, by go_num, rfl, HNX', hBr.trans (below_dN _ _ _)⟩
        case measure => simp [intOf]; omega
    · obtain rfl : k = ls.length := by omega
      have hlp : (ls.map Ob.st).length = ls.length := List.length_map _
      have hkeys : (ls.map Ob.st).map (·.key) = ls.map (·.key) := by rw [List.map_map]; rfl
      have HRR : Hid (riseK ByteArray.empty ((ls.map Ob.st).map (·.key)) = rb) := Lib.hid (by
        have := HR.out
        rw [List.take_length] at this
        rw [hkeys, this])
      have hBw : Below w.heap.size w wr := hB05.trans (hBr.mono hB05.size)
      obtain ⟨t0, t1, t2, t3, t4, t5, t6⟩ := blk7 (HKT5.out.below hBr hlt5)
      have HLP := Lib.hid hlp
      clear hkeys hlp HR
      by_cases h256 : 256 < ls.length
      · have hE := objE_long (l := ls.map Ob.st) (by rw [HLP.out]; exact h256)
        obtain ⟨h1, rfl, _⟩ := HT.out.err HOK.out (by rw [hE]; decide)
        rw [hE] at h1
        subst h1
        have h256' : (256 : Int) < ls.length := by omega
        clear hE
        go_wp2
        go_ret
        exact ⟨rfl, hBw⟩
      have h256' : ¬ (256 : Int) < ls.length := by omega
      rcases rb with _ | _
      · have hE := objE_rise (l := ls.map Ob.st) (by rw [HLP.out]; exact h256) HRR.out
        obtain ⟨h1, rfl, _⟩ := HT.out.err HOK.out (by rw [hE]; decide)
        rw [hE] at h1
        subst h1
        clear hE
        go_wp2
        go_ret
        exact ⟨rfl, hBw⟩
      have hway : (x ≠ 0 ∧ n = 0 ∧ T.os.length = 0) ∨ (x = 0 ∧ T.os.length = ls.length) := by
        rcases objE_else (l := ls.map Ob.st) (by rw [HLP.out]; exact h256) HRR.out with hE | hE
        · have := HT.out.ok HOK.out hE
          rw [HLP.out] at this
          exact this
        · obtain ⟨h1, h2, h3⟩ := HT.out.err HOK.out (by rw [hE]; decide)
          exact .inl ⟨by omega, h2, h3⟩
      rcases hway with ⟨hx, rfl, h0⟩ | ⟨rfl, h0⟩
      · have hxf : (x == 0) = false := by simpa using hx
        go_wp2
        go_ret
        exact ⟨rfl, hBw⟩
      · go_wp2
        go_ret
        exact ⟨rfl, hBw⟩

end Go.Proofs.YtmehjmkakkiedaaGreat
