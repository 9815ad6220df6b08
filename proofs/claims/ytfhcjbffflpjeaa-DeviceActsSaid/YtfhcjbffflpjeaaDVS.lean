/-
  DeviceActs returns true. Conditions: its arguments are a machine's.
-/
import Derived.Test.YtfhcjbffflpjeaaDVR
import Derived.Deep.MidRow
import Derived.Deep.DeepCutAuto
namespace Go.Proofs.Ytfhcjbffflpjeaa
open Go.ChangeShapes Go.WideShapes Go.ChangeAt Go.RowKit

/-- A text of octets, as a value. -/
def tv (zs : List Int) : Value := .string (strOfNums zs)
/-- Sixteen texts: those of the sectors, and zeros. -/
def sc (T : List (List Int)) : List Value := T.map tv ++ List.replicate (16 - T.length) (tv z64)
theorem sc_length {T : List (List Int)} (h : T.length ≤ 16) : (sc T).length = 16 := by simp [sc]; omega
theorem sc_at {T : List (List Int)} {i : Nat} (h : i < T.length) : (sc T)[i]? = some (tv (T[i]?.getD [])) := by
  unfold sc
  rw [List.getElem?_append_left (by simpa using h), List.getElem?_map, List.getElem?_eq_getElem h]
  rfl
theorem sc_set {T : List (List Int)} {i : Nat} (h : i < T.length) (zs : List Int) : (sc T).set i (tv zs) = sc (T.set i zs) := by
  unfold sc
  rw [List.set_append_left _ _ (by simpa using h), List.length_set, List.map_set]
theorem sc_zero {k : Nat} (h : k ≤ 16) : sc (List.replicate k z64) = List.replicate 16 (tv z64) := by
  unfold sc
  rw [List.map_replicate, List.length_replicate, List.replicate_append_replicate]
  congr 1
  omega

theorem keptL_snoc {α : Type} (bs : List Bool) (x : α) : ∀ (xs : List α) (k : Nat), keptL bs k (xs ++ [x]) = keptL bs k xs ++ (if keptB bs (k + xs.length) then [x] else [])
  | [], k => by simp [keptL]
  | y :: ys, k => by
    have ih := keptL_snoc bs x ys (k + 1)
    simp only [List.cons_append, keptL, List.length_cons]
    rw [ih, show k + 1 + ys.length = k + (ys.length + 1) by omega]
    split <;> simp
theorem keptL_over {α : Type} (bs : List Bool) : ∀ (xs : List α) (k : Nat), bs.length ≤ k → keptL bs k xs = []
  | [], _, _ => rfl
  | y :: ys, k, h => by
    simp only [keptL]
    rw [if_neg (by simp [keptB, List.getElem?_eq_none h])]
    exact keptL_over bs ys (k + 1) (by omega)
theorem keptL_cut {α : Type} (bs : List Bool) : ∀ (xs : List α) (k j : Nat), bs.length ≤ k + j → keptL bs k (xs.take j) = keptL bs k xs
  | [], k, j, _ => by simp
  | y :: ys, k, 0, h => by
    rw [List.take_zero, keptL_over bs (y :: ys) k (by omega)]
    rfl
  | y :: ys, k, j + 1, h => by
    rw [List.take_succ_cons]
    simp only [keptL]
    rw [keptL_cut bs ys (k + 1) j (by omega)]

/-- What is kept stood there. -/
theorem keptL_mem {α : Type} (bs : List Bool) {x : α} : ∀ (xs : List α) (k : Nat), x ∈ keptL bs k xs → x ∈ xs
  | [], _, h => by simp [keptL] at h
  | y :: ys, k, h => by
    simp only [keptL] at h
    split at h
    · rcases List.mem_cons.1 h with rfl | h
      · exact List.mem_cons_self
      · exact List.mem_cons_of_mem _ (keptL_mem bs ys (k + 1) h)
    · exact List.mem_cons_of_mem _ (keptL_mem bs ys (k + 1) h)
theorem crash_st_ok {S : DS} (h : S.ok) (bs : List Bool) : (⟨applyW S.secs (keptL bs 0 S.waits), []⟩ : DS).ok :=
  (doA_ok (S := ⟨S.secs, keptL bs 0 S.waits⟩) ⟨h.1, h.2.1, h.2.2.1, fun x hx => h.2.2.2 x (keptL_mem bs _ _ hx)⟩ (a := (true, 0, [])) (.inl rfl)).1

/-- The empty text. -/
abbrev ve : Value := .string { data := #[] }
def fill (j : Nat) : List Value := List.replicate j (tv z64) ++ List.replicate (16 - j) ve
theorem fill_at {j : Nat} (h : j < 16) : (fill j)[j]? = some ve := by
  unfold fill
  rw [List.getElem?_append_right (by simp), List.length_replicate, Nat.sub_self, List.getElem?_replicate, if_pos (by omega)]
theorem fill_set {j : Nat} (h : j < 16) : (fill j).set j (tv z64) = fill (j + 1) := by
  unfold fill
  rw [List.set_append_right _ _ (by simp), List.length_replicate, Nat.sub_self]
  obtain ⟨m, hm⟩ : ∃ m, 16 - j = m + 1 := ⟨16 - j - 1, by omega⟩
  rw [hm, List.replicate_succ, List.set_cons_zero, show 16 - (j + 1) = m by omega, List.replicate_succ', List.append_assoc]
  rfl
theorem fill_all : fill 16 = List.replicate 16 (tv z64) := by simp [fill]
def putAll (xs : List Value) : Nat → List Value → List Value
  | _, [] => xs
  | o, v :: r => putAll (xs.set o v) (o + 1) r
theorem putAll_app : ∀ (vs pre ys : List Value), ys.length = vs.length → putAll (pre ++ ys) pre.length vs = pre ++ vs
  | [], pre, ys, h => by
    have : ys = [] := List.eq_nil_of_length_eq_zero (by simpa using h)
    subst this
    rfl
  | v :: vs, pre, y :: ys, h => by
    have ih := putAll_app vs (pre ++ [v]) ys (by simpa using h)
    simp only [putAll]
    rw [List.set_append_right _ _ (Nat.le_refl _), Nat.sub_self, List.set_cons_zero]
    rw [List.append_assoc, List.length_append, List.length_singleton] at ih
    rw [show pre ++ v :: ys = pre ++ ([v] ++ ys) from rfl, ih]
    simp
theorem putAll_all {xs vs : List Value} (h : xs.length = vs.length) : putAll xs 0 vs = vs := by
  have := putAll_app vs [] xs h
  simpa using this
theorem Blk.setCells {g : Nat} {t : TypeId} : ∀ (vs : List Value) (o : Nat) (xs : List Value) (w : World), Blk w g t xs → Blk (w.setCells g o vs) g t (putAll xs o vs)
  | [], _, _, _, h => h
  | v :: vs, o, _, _, h => Blk.setCells vs (o + 1) _ _ (h.set o v)
theorem Out.setCells {g m : Nat} : ∀ (vs : List Value) (o : Nat) (w : World), Out g (g + 1) m w (w.setCells g o vs)
  | [], _, _ => Out.refl _ _ _ _
  | v :: vs, o, w => (Out.set w g o v (Nat.le_refl _) (Nat.lt_succ_self _)).trans (Out.setCells vs (o + 1) _)
theorem Blk.range {w : World} {g : Nat} {t : TypeId} {xs : List Value} (h : Blk w g t xs) : w.rangeAt g 0 xs := fun j v hv => by
  rw [Nat.zero_add]
  exact (h.cell j).trans hv
theorem Blk.there {w : World} {g : Nat} {t : TypeId} {xs : List Value} (h : Blk w g t xs) {n : Nat} (hn : n ≤ xs.length) : w.there g 0 n := fun j hj => by
  rw [Nat.zero_add]
  refine ⟨?_, h.frozen j⟩
  rw [h.cell j, List.getElem?_eq_getElem (by omega)]
  rfl
theorem size33 : (Try.prog.info? 33).map (·.size) = some 16 := by kernel_rfl
theorem sc_one (T : List (List Int)) : ∀ v ∈ sc T, v.oneCell' = true := fun v hv => by
  unfold sc at hv
  rcases List.mem_append.1 hv with h | h
  · obtain ⟨z, _, rfl⟩ := List.mem_map.1 h
    rfl
  · rw [(List.mem_replicate.1 h).2]
    rfl

/-- Acts that wait. -/
def waitsOf (l : List Ac) : List (Int × List Int) := l.map fun a => (a.at_, a.p.zs)

set_option maxHeartbeats 4000000 in
set_option maxRecDepth 100000 in
theorem acts_walk (n : Int) (A : Option Addr) (l : List Ac) (c : Nat) (hl : l.length * 40 ≤ 140737488351232) (B : Option Addr) (bs : List Bool) (d : Nat) (hbl : bs.length ≤ 140737488351232) (w : World) (hr : Rd w A (acCells l)) (hc : ∀ x ∈ l, x.p.Came w) (hb : Rd w B (bcl bs)) :
    Calls Try.prog 3 #[.int .i64 n, .slice A l.length c, .slice B bs.length d] w fun e w' => e = .returned (.bool true) ∧ Below w.heap.size w w' := by
  obtain ⟨i0, hi, hz0, hz1, hz2⟩ := dinfo_parts dinfoA
  obtain ⟨j0, hj, hy0, hy1, hy2⟩ := dinfo_parts dinfo8
  have HR := Lib.hid hr
  have HC := Lib.hid hc
  have HB := Lib.hid hb
  clear hr hc hb
  go_enter Try.func3, Try.ntmps3
  go_wp2_with (first
    | (go_at_call 7; refine (alive_any w).mono ?_; rintro e w1 ⟨rfl, hB1⟩)
    | (go_at_call 8; refine (small_any n w1).mono ?_; rintro e w2 ⟨k, hk2, hk15, rfl, rfl⟩)
    | (go_at_call 9; refine (new_ok k (by omega) (by omega) w1).mono ?_; rintro e w2 ⟨D, rfl, hst, hD, hB2⟩; have HST := Lib.hid hst; have HD := Lib.hid hD; clear hst hD)
    | (at_make; refine halt_here ?_))
  unfold Shut
  obtain ⟨WA, hWA⟩ : ∃ WA, allocs w2 [([.slice D.A D.ps.length D.c, .slice D.B D.ws.length D.d], 29), (List.replicate 16 ve, 33), (List.replicate 16 ve, 33)] = WA := ⟨_, rfl⟩
  have hBA : Below w2.heap.size w2 WA := hWA ▸ allocs_below _ _
  have kX : Blk WA w2.heap.size 29 [.slice D.A D.ps.length D.c, .slice D.B D.ws.length D.d] := hWA ▸ allocs_blk _ w2 0 rfl
  have kS : Blk WA (w2.heap.size + 1) 33 (fill 0) := hWA ▸ allocs_blk _ w2 1 rfl
  have kN : Blk WA (w2.heap.size + 2) 33 (fill 0) := hWA ▸ allocs_blk _ w2 2 rfl
  have hsA : WA.heap.size = w2.heap.size + 3 := by rw [← hWA, allocs_size]; rfl
  have hBwA : Below w.heap.size w WA := (hB1.trans (hB2.mono hB1.size)).trans (hBA.mono (by have := hB1.size; have := hB2.size; omega))
  have hXw : w.heap.size ≤ w2.heap.size := by have := hB1.size; have := hB2.size; omega
  change wpList Try.prog _ _ _ _ (allocs w2 [([.slice D.A D.ps.length D.c, .slice D.B D.ws.length D.d], 29), (List.replicate 16 ve, 33), (List.replicate 16 ve, 33)])
  rw [hWA]
  obtain ⟨X, hX⟩ : ∃ X, w2.heap.size = X := ⟨_, rfl⟩
  have HDX : Hid (∀ W, Below X w2 W → D.Lies 0 W) := fun W h => (HD.out.below (by rw [hX]; exact h)).zero
  have hBX2 : Below X w2 WA := by rw [← hX]; exact hBA
  have HBw2 : Hid (∀ W, Below X w2 W → Below w.heap.size w W) := fun W h => (hB1.trans (hB2.mono hB1.size)).trans (h.mono (by rw [← hX]; have := hB1.size; have := hB2.size; omega))
  rw [hX] at kX kS kN hsA hXw ⊢
  refine wpList_make_full _ rfl _ _ 34 rfl WA.heap.size 5 j0 (.int .u8 0) 1 Try.underlying34 hj hy0 hy1 .i64 .i64 _ _ 64 rfl rfl (by omega) (by omega) (by rw [hy2]; omega) (by unfold maxLen; omega) (Nat.le_refl _) ?_
  intro wm hown hgrow
  have hblk := made64 (base := WA.heap.size) (g := WA.heap.size) (by simpa [Value.cells, toList_madeCells_one] using hown)
  have hBm : Below WA.heap.size WA wm := (Below.refl _ _).grown hgrow (Nat.le_refl _) (fun _ h => by cases h)
  have hcv := conv_at wm (some ⟨WA.heap.size, 0, none⟩) 64 z64 z64_length (fun _ => ⟨WA.heap.size, 0, rfl, (Array.getElem?_eq_some_iff.1 hblk).1, fun j u hu => by
    rw [Nat.zero_add]
    exact (Blk.cell (show Blk wm WA.heap.size 5 (ocl z64) from hblk) j).trans hu⟩)
  have HXm := Lib.hid (kX.below hBm kX.lt)
  have HSm := Lib.hid (kS.below hBm kS.lt)
  have HNm := Lib.hid (kN.below hBm kN.lt)
  have HBXm := Lib.hid (hBX2.trans (hBm.mono (by omega)))
  have hsm : X + 3 ≤ wm.heap.size := by have := hBm.size; omega
  clear hown hgrow hblk kX kS kN hBA hBwA hWA hB1 hB2 HD hBm hX hsA hBX2
  obtain ⟨zv, hzv⟩ : ∃ zv, strOfNums z64 = zv := ⟨_, rfl⟩
  rw [hzv] at hcv
  have HZV : Hid (Value.string zv = tv z64) := by show _ = _; rw [← hzv]; rfl
  clear hzv
  go_wp2
  clear hcv
  go_loopw [13] (fun i wr => ∃ j : Nat, j ≤ 16 ∧ i = .int .i64 j ∧ Hid (Blk wr (X + 1) 33 (fill j)) ∧ Hid (Blk wr (X + 2) 33 (fill j)) ∧ Hid (Out (X + 1) (X + 3) wm.heap.size wm wr)) (fun i _ => 16 - (intOf i).toNat)
  case atStart =>
    exact ⟨0, Nat.zero_le _, rfl, HSm.out, HNm.out, Out.refl _ _ _ _⟩
  case round =>
    obtain ⟨j, hj16, rfl, HS, HN, HO⟩ := hrel
    by_cases hlt : j < 16
    · have hs0 := (HS.out.cell j).trans (fill_at hlt)
      have hn0 := (HN.out.cell j).trans (fill_at hlt)
      have fs0 := HS.out.frozen j
      have fn0 := HN.out.frozen j
      go_wp2
      go_roundw
      case rel =>
        refine ⟨j + 1, by omega, by go_num, ?_, ?_, ?_⟩
        · have := (HS.out.set j (.string zv)).other (g' := X + 2) (by omega) j (.string zv)
          rw [HZV.out, fill_set hlt, ← HZV.out] at this
          exact this
        · have := (HN.out.other (g' := X + 1) (by omega) j (.string zv)).set j (.string zv)
          rw [HZV.out, fill_set hlt, ← HZV.out] at this
          exact this
        · exact (HO.out.trans (Out.set _ (X + 1) j _ (Nat.le_refl _) (by omega))).trans (Out.set _ (X + 2) j _ (by omega) (by omega))
      case measure => simp [intOf]; omega
    · obtain rfl : j = 16 := by omega
      rw [show ((16 : Nat) : Int) = 16 from rfl]
      have hSS := HS.out
      have hNN := HN.out
      rw [fill_all, ← sc_zero (k := k) (by omega)] at hSS hNN
      have HS0 := Lib.hid hSS
      have HN0 := Lib.hid hNN
      have HX0 : Hid (Blk wr X 29 [.slice D.A D.ps.length D.c, .slice D.B D.ws.length D.d]) := (HO.out.block X (by omega) (.inl (by omega))).trans HXm.out
      have HB0 : Hid (Below X w2 wr) := HBXm.out.trans (HO.out.below (by omega) (by omega))
      have hn0 : X + 3 ≤ wr.heap.size := by have := HO.out.size; omega
      obtain ⟨n0, hn0e⟩ : ∃ n0, wr.heap.size = n0 := ⟨_, rfl⟩
      rw [hn0e] at hn0
      clear hSS hNN HS HN HO HXm HSm HNm HBXm hsm hj16 hlt
      go_wp2
      go_loopw [9, 14, 15] (fun v9 v14 i W => ∃ (rs wl : List Ac) (Y Z : Option Addr) (y z : Nat), rs.length ≤ l.length ∧ wl.length ≤ rs.length ∧ i = .int .i64 rs.length ∧ v9 = .slice Y rs.length y ∧ v14 = .slice Z wl.length z
        ∧ Hid (W.ownsRow n0 36 3 (.slice Y rs.length y) rs.length (acCells rs)) ∧ Hid (W.ownsRow n0 36 3 (.slice Z wl.length z) wl.length (acCells wl)) ∧ Hid (∀ b, (Value.slice Y rs.length y).ownBlock = some b → (Value.slice Z wl.length z).ownBlock ≠ some b)
        ∧ Hid (∀ r ∈ rs, r.Right k n0 W) ∧ Hid (∀ r ∈ wl, r.Right k n0 W ∧ r.fl = false) ∧ Hid (waitsOf wl = (doL D.st (rs.map Ac.st)).waits)
        ∧ Hid (Blk W (X + 1) 33 (sc (doL D.st (rs.map Ac.st)).secs)) ∧ Hid (Blk W (X + 2) 33 (sc (applyW (doL D.st (rs.map Ac.st)).secs (doL D.st (rs.map Ac.st)).waits)))
        ∧ Hid (Blk W X 29 [.slice D.A D.ps.length D.c, .slice D.B D.ws.length D.d]) ∧ Hid (Below X w2 W) ∧ n0 ≤ W.heap.size) (fun _ _ i _ => l.length - (intOf i).toNat)
      case atStart =>
        refine ⟨[], [], none, none, 0, 0, Nat.zero_le _, Nat.le_refl _, rfl, rfl, rfl, ⟨rfl, .inl ⟨rfl, rfl⟩⟩, ⟨rfl, .inl ⟨rfl, rfl⟩⟩, fun b h => by simp [Value.ownBlock] at h, fun r hr => by simp at hr, fun r hr => by simp at hr, ?_, ?_, ?_, HX0.out, HB0.out, by omega⟩
        · show waitsOf [] = (doL D.st []).waits
          show [] = D.st.waits
          rw [HST.out]
        · show Blk _ _ _ (sc D.st.secs)
          rw [HST.out]
          exact HS0.out
        · show Blk _ _ _ (sc (applyW D.st.secs D.st.waits))
          rw [HST.out]
          exact HN0.out
      case round =>
        clear HS0 HN0 HX0 HB0 hn0e
        obtain ⟨rs, wl, Y, Z, y, z, hk, hwl, rfl, rfl, rfl, HO, HP, HYZ, HRS, HWL, HWS, HS, HN, HX, HBX, hnW⟩ := hrel
        by_cases hlt : rs.length < l.length
        · obtain ⟨x, hx⟩ : ∃ x, l[rs.length]? = some x := ⟨_, List.getElem?_eq_getElem hlt⟩
          have hBw := HBw2.out wr HBX.out
          obtain ⟨b, off, hA, hb, hc0, hc1, hc2⟩ := (HR.out.below hBw).ac hx
          have hcx := HC.out x (List.mem_of_getElem? hx)
          have HRT := Lib.hid (right_any x k hk2 (by omega) wr ⟨hcx.reads.below hBw, hcx.len, hcx.octs, hcx.cap, hcx.nil⟩)
          obtain ⟨S, hS⟩ : ∃ S, doL D.st (rs.map Ac.st) = S := ⟨_, rfl⟩
          have hSl : S.secs.length = k ∧ S.ok := by
            have hok : D.st.ok := by rw [HST.out]; exact new_ok_st k hk2 (by omega)
            have hps : D.st.secs.length = k := by rw [HST.out]; simp
            obtain ⟨h1, h2⟩ := doL_ok hok (l := rs.map Ac.st) (fun a ha => by
              obtain ⟨q, hq, rfl⟩ := List.mem_map.1 ha
              have := act_fine (HRS.out q hq).fine
              rw [hps]
              exact this)
            rw [hS] at h1 h2
            exact ⟨h2.trans hps, h1⟩
          rw [hS] at HWS HS HN
          have HSS := Lib.hid hS
          have HSL := Lib.hid hSl
          have hm : (rs.length + 1) * 40 ≤ 140737488355328 := by omega
          have hm2 : (wl.length + 1) * 40 ≤ 140737488355328 := by omega
          have h63 : rs.length + 1 ≤ maxLen := by unfold maxLen; omega
          have h632 : wl.length + 1 ≤ maxLen := by unfold maxLen; omega
          subst hA
          clear hx hcx hS hSl hl hbl
          go_wp2_with fail
          refine HRT.out.mono ?_
          rintro e w4 ⟨r, rfl, -, hrr, hB4⟩
          have HRR := Lib.hid hrr
          have hs4 := hB4.size
          obtain ⟨bx, hbx⟩ : ∃ bx, w4.heap.size = bx := ⟨_, rfl⟩
          obtain ⟨w5, hw5⟩ : ∃ w5, w4.alloc (.cells #[.bool r.fl, .int .i64 r.at_, .slice r.p.A r.p.zs.length r.p.c] 36) = w5 := ⟨_, rfl⟩
          have hB45 : Below w4.heap.size w4 w5 := hw5 ▸ (Below.refl _ w4).alloc (Nat.le_refl _) _
          have kb5 : Blk w5 bx 36 [.bool r.fl, .int .i64 r.at_, .slice r.p.A r.p.zs.length r.p.c] := by rw [← hw5, ← hbx]; exact Blk.new w4 _ _
          have hs5 : w5.heap.size = bx + 1 := by rw [← hw5, ← hbx]; simp
          have hB5 : Below wr.heap.size wr w5 := hB4.trans (hB45.mono hs4)
          have HO5 := Lib.hid (own_stay HO.out (fun b hb => hB5.block b (HO.out.lt b hb).2))
          have HP5 := Lib.hid (own_stay HP.out (fun b hb => hB5.block b (HP.out.lt b hb).2))
          have HRS5 := Lib.hid (fun q hq => (HRS.out q hq).below hB5)
          have HWL5 := Lib.hid (fun q hq => (⟨(HWL.out q hq).1.below hB5, (HWL.out q hq).2⟩ : q.Right k n0 w5 ∧ q.fl = false))
          have HR5 := Lib.hid ((HRR.out.base hnW).below hB45)
          have HW5 := Lib.hid hw5
          have HKB5 := Lib.hid kb5
          have hyb : ∀ j, (Value.slice Y rs.length y).ownBlock = some j → n0 ≤ j ∧ j < wr.heap.size := fun j e => HO.out.lt j e
          have hzb : ∀ j, (Value.slice Z wl.length z).ownBlock = some j → n0 ≤ j ∧ j < wr.heap.size := fun j e => HP.out.lt j e
          clear hrr hw5 kb5
          go_wp2_with (at_builtin; refine halt_here ?_)
          unfold Shut
          rw [HW5.out]
          refine wpList_append_lies _ (o := ⟨some 62, _, _, _, _, _⟩) rfl _ _ 22 rfl n0 36 i0 (.agg #[.bool false, .int .i64 0, .slice none 0 0]) 3 40 Try.underlying22 hi hz0 hz1 hz2 rfl (by decide) (.slice Y rs.length y) rs.length _ rfl (own_stay HO5.out (fun b hb => Below.heap_alloc _ _ b (HO5.out.lt b hb).2)) ⟨w5.heap.size, 0, none⟩ 1 1 [.bool r.fl, .int .i64 r.at_, .slice r.p.A r.p.zs.length r.p.c] (by rw [hs5]; rfl) rfl (news_new _ _ _) (by simp [Value.oneCell']) (by omega) h63 hm (by simp; omega) _ rfl ?_
          intro g5 c5 w6 ho6 hg6 hg6' hl6
          simp only [World.size_alloc, hs5] at hg6'
          have hk6 : ∀ b, b < bx + 1 → (Value.slice Y rs.length y).ownBlock ≠ some b → w6.heap[b]? = w5.heap[b]? := fun b h1 h2 => (hg6.block b (by simp; omega) (fun e => h2 e.symm)).trans (Below.heap_alloc _ _ b (by omega))
          have hB6 : Below n0 w5 w6 := ((Below.refl _ w5).alloc (by omega) _).grown hg6 (by simp; omega) (fun j e => (hyb j e).1)
          have hs6 : bx + 2 ≤ w6.heap.size := by have := hg6.size; simp at this; omega
          have hBr6 : Below n0 wr w6 := (hB5.mono hnW).trans hB6
          have kb6 : Blk w6 bx 36 [.bool r.fl, .int .i64 r.at_, .slice r.p.A r.p.zs.length r.p.c] := (hk6 bx (by omega) (fun e => by have := hyb _ e; omega)).trans HKB5.out
          have HP6 := Lib.hid (own_stay HP5.out (fun b hb => hk6 b (by have := hzb b hb; omega) (fun e => HYZ.out b e hb)))
          have HO6 := Lib.hid ho6
          have hyz6 : ∀ b, (Value.slice (some ⟨g5, 0, none⟩) (rs.length + 1) c5).ownBlock = some b → (Value.slice Z wl.length z).ownBlock ≠ some b := fun b hb hz => by
            have hgb : g5 = b := by simpa [Value.ownBlock] using hb
            subst hgb
            rcases hg6' with h | h
            · exact HYZ.out _ h hz
            · have := hzb _ hz
              omega
          have HYZ6 := Lib.hid hyz6
          have hst6 : ∀ q : Ac, q.Right k n0 w5 → q.Right k n0 w6 := fun q hq => hq.stay fun b h1 h2 hbk => hk6 b (by omega) (blk_apart hbk HO5.out (by decide))
          have HRS6 : Hid (∀ q ∈ rs ++ [r], q.Right k n0 w6) := fun q hq => by
            simp at hq
            rcases hq with hq | rfl
            · exact hst6 q (HRS5.out q hq)
            · exact hst6 _ HR5.out
          have HWL6 := Lib.hid (fun q hq => (⟨hst6 q (HWL5.out q hq).1, (HWL5.out q hq).2⟩ : q.Right k n0 w6 ∧ q.fl = false))
          have HS6 := Lib.hid (HS.out.below hBr6 (by omega))
          have HN6 := Lib.hid (HN.out.below hBr6 (by omega))
          have HX6 := Lib.hid (HX.out.below hBr6 (by omega))
          have HBX6 := Lib.hid (HBX.out.trans (hBr6.mono (by omega)))
          have HGR : Hid (r.Right k n0 w6) := hst6 _ HR5.out
          have hsl33 : (sc (applyW S.secs S.waits)).length = 16 := sc_length (by rw [applyW_length, HSL.out.1]; omega)
          have hsl33' : (sc S.secs).length = 16 := sc_length (by rw [HSL.out.1]; omega)
          have HL33 := Lib.hid hsl33
          have HL33' := Lib.hid hsl33'
          have hdo : doL D.st ((rs ++ [r]).map Ac.st) = doA S r.st := by rw [List.map_append, List.map_singleton, doL_snoc, HSS.out]
          have HDO := Lib.hid hdo
          clear ho6 hg6 hyz6 hst6 hsl33 hsl33' hdo HO5 HP5 HRS5 HWL5 HR5 HKB5 HW5 HO HP HRS HWL HS HN HX HBX HYZ HRR HRT hB45 hB5 hBw hB6 hk6
          rcases hf : r.fl with _ | _
          · obtain ⟨q, g, hat, hq, hpA, hpc, hpl, hgb, hgk⟩ := HGR.out.wr hf
            have hq16 : q < 16 := by omega
            have e0 := kb6.cell 0
            have e1 := kb6.cell 1
            have e2 := kb6.cell 2
            simp only [List.getElem?_cons_zero, List.getElem?_cons_succ, hf, hat, hpl, hpA, hpc] at e0 e1 e2
            have hcv := conv_at w6 (some ⟨g, 0, none⟩) 64 r.p.zs hpl (fun _ => ⟨g, 0, rfl, hgk.lt, fun j u hu => by rw [Nat.zero_add]; exact (hgk.cell j).trans hu⟩)
            have hqT : q < (applyW S.secs S.waits).length := by rw [applyW_length, HSL.out.1]; exact hq
            have hn0q := (HN6.out.cell q).trans (sc_at hqT)
            have hnf := HN6.out.frozen q
            have hbl6 := kb6.lt
            obtain ⟨zv', hzv'⟩ : ∃ zv', strOfNums r.p.zs = zv' := ⟨_, rfl⟩
            rw [hzv'] at hcv
            have HZV' : Hid (Value.string zv' = tv r.p.zs) := by show _ = _; rw [← hzv']; rfl
            have HF := Lib.hid hf
            have HAT := Lib.hid hat
            have HQT := Lib.hid hqT
            have KB6 := Lib.hid kb6
            have HPL := Lib.hid hpl
            have HPA := Lib.hid hpA
            have HPC := Lib.hid hpc
            clear hzv' hf hat hgk hqT kb6 hpl hpA hpc
            go_wp2_with (at_builtin; refine halt_here ?_)
            unfold Shut
            have hnews : ∀ j u, [Value.bool false, .int .i64 q, .slice (some ⟨g, 0, none⟩) 64 64][j]? = some u → ((w6.setCell ⟨X + 2, q, none⟩ (.string zv')).alloc (.cells [Value.bool false, .int .i64 q, .slice (some ⟨g, 0, none⟩) 64 64].toArray 36)).cell? ((⟨w6.heap.size, 0, none⟩ : Addr).add j) = some u := by
              have := news_new (w6.setCell ⟨X + 2, q, none⟩ (.string zv')) [Value.bool false, .int .i64 q, .slice (some ⟨g, 0, none⟩) 64 64] 36
              rw [World.size_setCell] at this
              exact this
            have hown7 : (w6.setCell ⟨X + 2, q, none⟩ (.string zv')).ownsRow n0 36 3 (.slice Z wl.length z) wl.length (acCells wl) := own_set HP6.out _ _ _ (fun b hb => by have := hzb b hb; omega)
            refine wpList_append_lies _ (o := ⟨some 75, _, _, _, _, _⟩) rfl _ _ 22 rfl n0 36 i0 (.agg #[.bool false, .int .i64 0, .slice none 0 0]) 3 40 Try.underlying22 hi hz0 hz1 hz2 rfl (by decide) (.slice Z wl.length z) wl.length _ rfl (own_stay hown7 (fun b hb => Below.heap_alloc _ _ b (hown7.lt b hb).2)) ⟨w6.heap.size, 0, none⟩ 1 1 [.bool false, .int .i64 q, .slice (some ⟨g, 0, none⟩) 64 64] rfl rfl hnews (by simp [Value.oneCell']) (by omega) h632 hm2 (by simp; omega) _ rfl ?_
            intro g8 c8 w8 ho8 hg8 hg8' hl8
            simp only [World.size_alloc, World.size_setCell] at hg8'
            have hk8 : ∀ b, b < w6.heap.size → (Value.slice Z wl.length z).ownBlock ≠ some b → b ≠ X + 2 → w8.heap[b]? = w6.heap[b]? := fun b h1 h2 h3 => (hg8.block b (by simp; omega) (fun e => h2 e.symm)).trans ((Below.heap_alloc _ _ b (by simp; exact h1)).trans (heap_setCell_other _ _ b _ h3))
            have hN8 : w8.heap[X + 2]? = (w6.setCell ⟨X + 2, q, none⟩ (.string zv')).heap[X + 2]? := (hg8.block (X + 2) (by simp; omega) (fun e => by have := hzb _ e.symm; omega)).trans (Below.heap_alloc _ _ _ (by simp; omega))
            have hB8 : Below X w6 w8 := (((Below.refl _ w6).setCell (p := ⟨X + 2, q, none⟩) (by show X ≤ X + 2; omega) _).alloc (by simp; omega) _).grown hg8 (by simp; omega) (fun j e => by have := hzb j e; omega)
            have hs8 : w6.heap.size ≤ w8.heap.size := hB8.size
            have HO8 := Lib.hid ho8
            have HK8 := Lib.hid hk8
            have HN8 := Lib.hid hN8
            clear ho8 hg8 hk8 hN8 hnews hown7 e0 e1 e2 hn0q hnf
            go_wp2
            go_roundw
            case rel =>
              have hd : doA S r.st = ⟨S.secs, S.waits ++ [((q : Int), r.p.zs)]⟩ := by simp [doA, Ac.st, HF.out, HAT.out]
              have hgl : n0 ≤ g5 := (HO6.out.lt g5 rfl).1
              have hst8 : ∀ e : Ac, e.Right k n0 w6 → e.Right k n0 w8 := fun e he => he.stay fun b h1 h2 hbk => HK8.out b h2 (blk_apart hbk HP6.out (by decide)) (by omega)
              refine ⟨rs ++ [r], wl ++ [r], some ⟨g5, 0, none⟩, some ⟨g8, 0, none⟩, c5, c8, by simp; omega, by simp; omega, by simp, by simp, by simp, ?_, ?_, ?_, ?_, ?_, ?_, ?_, ?_, ?_, ?_, by omega⟩
              · have := own_stay HO6.out (W' := w8) (fun b hb => HK8.out b (HO6.out.lt b hb).2 (HYZ6.out b hb) (by have := (HO6.out.lt b hb).1; omega))
                rw [acCells_snoc, List.length_append, List.length_singleton]
                exact this
              · have := HO8.out
                rw [acCells_snoc, List.length_append, List.length_singleton, HF.out, HAT.out, Pt.val, HPA.out, HPC.out, HPL.out]
                exact this
              · intro b hb hz
                rw [List.length_append, List.length_singleton] at hb hz
                have h1 : g5 = b := by simpa [Value.ownBlock] using hb
                have h2 : g8 = b := by simpa [Value.ownBlock] using hz
                rcases hg8' with h | h
                · exact HYZ6.out g5 rfl (by rw [h, h1, h2])
                · omega
              · exact fun e he => hst8 e (HRS6.out e he)
              · intro e he
                simp at he
                rcases he with he | rfl
                · exact ⟨hst8 e (HWL6.out e he).1, (HWL6.out e he).2⟩
                · exact ⟨hst8 _ HGR.out, HF.out⟩
              · show _ = _
                rw [HDO.out, hd]
                show _ = S.waits ++ [((q : Int), r.p.zs)]
                rw [← HWS.out]
                simp [waitsOf, HAT.out]
              · show Blk _ _ _ (sc _)
                rw [HDO.out, hd]
                exact (HK8.out _ (by omega) (fun e => by have := hzb _ e; omega) (by omega)).trans HS6.out
              · show Blk _ _ _ (sc _)
                rw [HDO.out, hd]
                show Blk _ _ _ (sc (applyW S.secs (S.waits ++ [((q : Int), r.p.zs)])))
                rw [applyW_at _ _ ((q : Int), r.p.zs) q rfl, ← sc_set HQT.out, ← HZV'.out]
                exact HN8.out.trans (HN6.out.set q (.string zv'))
              · exact (HK8.out _ (by omega) (fun e => by have := hzb _ e; omega) (by omega)).trans HX6.out
              · exact HBX6.out.trans hB8
            case measure => simp [intOf]; omega
          · have e0 := kb6.cell 0
            simp only [List.getElem?_cons_zero, hf] at e0
            have hre := HGR.out.fl hf
            have HRE := Lib.hid hre
            clear hf hre
            go_wp2_with (with_reducible show wpList _ _ _ (Oper.mk (some 65) _ _ _ _ _ :: _) _ _; refine halt_here ?_)
            unfold Shut
            refine wpList_load_mid (op := ⟨some 65, _, _, _, _, _⟩) rfl _ _ rfl (X + 2) 0 rfl (sc (applyW S.secs S.waits)) _ HN6.out.range Try.underlying33 rfl (by rw [HL33.out]; exact size33) ?_
            refine wpList_store_mid (op := ⟨none, _, _, _, _, _⟩) rfl _ _ _ rfl (X + 1) 0 (sc (applyW S.secs S.waits)).toArray rfl rfl (HS6.out.there (by rw [HL33'.out, List.size_toArray, HL33.out]; omega)) (by rw [List.size_toArray, HL33.out]; exact size33) (all_oneCell_toArray (sc_one _)) ?_
            have hw7 : Blk (w6.setCells (X + 1) 0 (sc (applyW S.secs S.waits)).toArray.toList) (X + 1) 33 (sc (applyW S.secs S.waits)) := by
              have := Blk.setCells (sc (applyW S.secs S.waits)) 0 _ _ HS6.out
              rw [putAll_all (by rw [HL33.out, HL33'.out])] at this
              exact this
            have ho7 : ∀ m, Out (X + 1) (X + 2) m w6 (w6.setCells (X + 1) 0 (sc (applyW S.secs S.waits)).toArray.toList) := fun m => Out.setCells _ _ _
            generalize w6.setCells (X + 1) 0 (sc (applyW S.secs S.waits)).toArray.toList = w7 at *
            have hs7 := (ho7 0).size
            have HW7 := Lib.hid hw7
            have HO7 := Lib.hid ho7
            clear hw7 ho7 e0 kb6
            simp only [Act.put, List.setIfInBounds_toArray, List.set_cons_zero, List.set_cons_succ]
            go_wp2
            go_roundw
            case rel =>
              have hd : doA S r.st = ⟨applyW S.secs S.waits, []⟩ := by rw [HRE.out]; rfl
              have hk7 : ∀ b, b < w6.heap.size → b ≠ X + 1 → w7.heap[b]? = w6.heap[b]? := fun b h1 h2 => (HO7.out w6.heap.size).block b h1 (by omega)
              have hst8 : ∀ e : Ac, e.Right k n0 w6 → e.Right k n0 w7 := fun e he => he.stay fun b h1 h2 hbk => hk7 b h2 (by omega)
              refine ⟨rs ++ [r], [], some ⟨g5, 0, none⟩, none, c5, 0, by simp; omega, by simp, by simp, by simp, rfl, ?_, ⟨rfl, .inl ⟨rfl, rfl⟩⟩, ?_, ?_, fun e he => by simp at he, ?_, ?_, ?_, ?_, ?_, by omega⟩
              · have := own_stay HO6.out (W' := w7) (fun b hb => hk7 b (HO6.out.lt b hb).2 (by have := (HO6.out.lt b hb).1; omega))
                rw [acCells_snoc, List.length_append, List.length_singleton]
                exact this
              · intro b _ hz
                simp [Value.ownBlock] at hz
              · exact fun e he => hst8 e (HRS6.out e he)
              · show _ = _
                rw [HDO.out, hd]
                rfl
              · show Blk _ _ _ (sc _)
                rw [HDO.out, hd]
                exact HW7.out
              · show Blk _ _ _ (sc _)
                rw [HDO.out, hd]
                show Blk _ _ _ (sc (applyW S.secs S.waits))
                exact (hk7 _ (by omega) (by omega)).trans HN6.out
              · exact (hk7 _ (by omega) (by omega)).trans HX6.out
              · exact HBX6.out.trans ((HO7.out X).below (Nat.le_refl _) (by omega))
            case measure => simp [intOf]; omega
        · have hle : rs.length ≤ 4398046511104 := by omega
          obtain ⟨S, hS⟩ : ∃ S, doL D.st (rs.map Ac.st) = S := ⟨_, rfl⟩
          have hok : D.st.ok := by rw [HST.out]; exact new_ok_st k hk2 (by omega)
          have hps : D.st.secs.length = k := by rw [HST.out]; simp
          obtain ⟨hSok, hSl⟩ := doL_ok hok (l := rs.map Ac.st) (fun a ha => by
            obtain ⟨q, hq, rfl⟩ := List.mem_map.1 ha
            have := act_fine (HRS.out q hq).fine
            rw [hps]
            exact this)
          rw [hS] at hSok hSl HWS HS HN
          rw [hps] at hSl
          have hDk : D.ps.length = k := by simpa [Dv.st] using hps
          have hDw : D.ws.length = 0 := by have := (st_ws HST.out).1; simpa using this
          have hdo := do_ok D (Dv.fits hok (by omega)) hok Y rs y (by rw [hDk]; exact rights_fine HRS.out) (by omega) wr (HDX.out wr HBX.out) ⟨(RdF.of_own HO.out).1, fun q hq => (HRS.out q hq).reads.1, fun q hq => (HRS.out q hq).reads.2, hle⟩
          have HDO := Lib.hid hdo
          have HSS := Lib.hid hS
          have HSOK := Lib.hid hSok
          have HSL := Lib.hid hSl
          have hx0 := HX.out.cell 0
          have hx1 := HX.out.cell 1
          simp only [List.getElem?_cons_zero, List.getElem?_cons_succ] at hx0 hx1
          clear hok hps hSok hSl hDk hDw hdo hS hl
          go_wp2_with fail
          refine HDO.out.mono ?_
          rintro e w4 ⟨E, rfl, hst, hE, hB4⟩
          rw [HSS.out] at hst
          have HSE := Lib.hid hst
          have HE := Lib.hid hE
          have hs4 := hB4.size
          obtain ⟨hEw, hEp⟩ := st_ws hst
          have hEwl : E.ws.length = wl.length := by rw [hEw, ← HWS.out]; simp [waitsOf]
          have hEk : E.ps.length = k := by rw [hEp, HSL.out]
          have HEW := Lib.hid hEwl
          have HEK := Lib.hid hEk
          have kX4 := HX.out.below hB4 (by omega)
          have hx0 := kX4.cell 0
          have hx1 := kX4.cell 1
          have fx0 := kX4.frozen 0
          have fx1 := kX4.frozen 1
          simp only [List.getElem?_cons_zero, List.getElem?_cons_succ] at hx0 hx1
          obtain ⟨w5, hw5⟩ : ∃ w5, (w4.setCell ⟨X, 0, none⟩ (.slice E.A E.ps.length E.c)).setCell ⟨X, 1, none⟩ (.slice E.B E.ws.length E.d) = w5 := ⟨_, rfl⟩
          have hE5 : E.Lies 0 w5 := by rw [← hw5]; exact ((HE.out.set (by omega) 0 _).set (by omega) 1 _).zero
          have hst5 : ∀ b, b ≠ X → w5.heap[b]? = w4.heap[b]? := fun b hb => by rw [← hw5]; exact (heap_setCell_other _ _ b _ hb).trans (heap_setCell_other _ _ b _ hb)
          have hs5 : w5.heap.size = w4.heap.size := by rw [← hw5]; simp
          have hB5 : Below X w2 w5 := by rw [← hw5]; exact ((HBX.out.trans (hB4.mono (by omega))).setCell (p := ⟨X, 0, none⟩) (Nat.le_refl _) _).setCell (p := ⟨X, 1, none⟩) (Nat.le_refl _) _
          have kX5 : Blk w5 X 29 [.slice E.A E.ps.length E.c, .slice E.B E.ws.length E.d] := by rw [← hw5]; exact (kX4.set 0 _).set 1 _
          have HS5 : Hid (Blk w5 (X + 1) 33 (sc S.secs)) := (hst5 _ (by omega)).trans (HS.out.below hB4 (by omega))
          have HN5 : Hid (Blk w5 (X + 2) 33 (sc (applyW S.secs S.waits))) := (hst5 _ (by omega)).trans (HN.out.below hB4 (by omega))
          have HP5 := Lib.hid (own_stay HP.out (W' := w5) (fun b hb => by
            have := HP.out.lt b hb
            exact (hst5 b (by omega)).trans (hB4.block b this.2)))
          have HWL5 := Lib.hid (fun q hq => (⟨((HWL.out q hq).1.below hB4).stay (W' := w5) fun b h1 _ _ => hst5 b (by omega), (HWL.out q hq).2⟩ : q.Right k n0 w5 ∧ q.fl = false))
          have HX5 := Lib.hid kX5
          have HB5 := Lib.hid hB5
          have hEok : E.st.ok := by rw [hst]; exact HSOK.out
          have HCR := Lib.hid (crash_ok E (Dv.fits hEok (by omega)) hEok B bs d w5 hE5 (HB.out.below (HBw2.out w5 hB5)))
          have HE5 := Lib.hid hE5
          have HEOK := Lib.hid hEok
          have HW5 := Lib.hid hw5
          have y0 := kX5.cell 0
          have y1 := kX5.cell 1
          simp only [List.getElem?_cons_zero, List.getElem?_cons_succ] at y0 y1
          clear hst hE hEw hEp hEk hEwl kX4 kX5 hE5 hst5 hB5 hEok hw5 HO HP HYZ HRS HWL HS HN HX HBX HDO
          go_upto_region 23 with fail
          rw [HW5.out]
          clear hx0 hx1 fx0 fx1
          have hbe : ((E.ws.length : Int) == (wl.length : Int)) = true := by rw [HEW.out]; simp
          have hbn : ((E.ws.length : Int) != (wl.length : Int)) = false := by rw [HEW.out]; simp
          go_wp2_with (first
            | (go_at_call 12; refine (num_any _ _).mono ?_; rintro e w' ⟨rfl, rfl⟩)
            | (go_at_call 13; refine HCR.out.mono ?_; rintro e w6 ⟨F, rfl, hstF, hF, hB6⟩; have HSF := Lib.hid hstF; have HF := Lib.hid hF; clear hstF hF))
          have hs6 := hB6.size
          obtain ⟨bY, hbY⟩ : ∃ bY, w6.heap.size = bY := ⟨_, rfl⟩
          obtain ⟨w7, hw7⟩ : ∃ w7, w6.alloc (.cells #[.slice F.A F.ps.length F.c, .slice F.B F.ws.length F.d] 29) = w7 := ⟨_, rfl⟩
          have hB67 : Below w6.heap.size w6 w7 := hw7 ▸ (Below.refl _ w6).alloc (Nat.le_refl _) _
          have kY : Blk w7 bY 29 [.slice F.A F.ps.length F.c, .slice F.B F.ws.length F.d] := by rw [← hw7, ← hbY]; exact Blk.new w6 _ _
          have hB57 : Below w5.heap.size w5 w7 := hB6.trans (hB67.mono hs6)
          rw [hw7]
          have HX7 := Lib.hid (HX5.out.below hB57 HX5.out.lt)
          have HS7 := Lib.hid (HS5.out.below hB57 HS5.out.lt)
          have HN7 := Lib.hid (HN5.out.below hB57 HN5.out.lt)
          have HP7 := Lib.hid (own_stay HP5.out (fun b hb => hB57.block b (HP5.out.lt b hb).2))
          have HWL7 := Lib.hid (fun q hq => (⟨(HWL5.out q hq).1.below hB57, (HWL5.out q hq).2⟩ : q.Right k n0 w7 ∧ q.fl = false))
          have hn5 : n0 ≤ w5.heap.size := by omega
          have HE7 : Hid (E.Lies n0 w7) := by
            have h1 : E.Lies n0 w5 := by rw [← HW5.out]; exact (((HE.out.mono hnW).set (show X < n0 by omega) 0 _).set (show X < n0 by omega) 1 _)
            exact h1.below hB57
          have HF7 : Hid (F.Lies n0 w7) := (HF.out.mono hn5).below hB67
          have HB7 := Lib.hid (HB5.out.trans (hB57.mono (by omega)))
          have HY7 := Lib.hid kY
          have hn7 : n0 ≤ bY := by omega
          have hs7 : bY < w7.heap.size := kY.lt
          have HS0 : Hid (Blk w7 (X + 1) 33 (sc (applyW S.secs (keptL bs 0 (S.waits.take 0))))) := HS7.out
          have HWN : Hid (S.waits.length = wl.length) := by show _ = _; rw [← HWS.out]; simp [waitsOf]
          have HBY := Lib.hid hbY
          clear hbe hbn hB6 hB67 kY hB57 hw7 hbY HX5 HS5 HN5 HP5 HWL5 HE HF HB5 HE5 HW5 y0 y1 hs4 hs5 HEW
          go_loopw [20] (fun i W => ∃ j : Nat, j ≤ wl.length ∧ i = .int .i64 j ∧ Hid (Blk W (X + 1) 33 (sc (applyW S.secs (keptL bs 0 (S.waits.take j))))) ∧ Hid (Out (X + 1) (X + 2) w7.heap.size w7 W)) (fun i _ => wl.length - (intOf i).toNat)
          case atStart =>
            exact ⟨0, Nat.zero_le _, rfl, HS0.out, Out.refl _ _ _ _⟩
          case round =>
            clear HS0
            obtain ⟨j, hj, rfl, HSJ, HOJ⟩ := hrel
            have hsz := HOJ.out.size
            have hst : ∀ b, b < w7.heap.size → b ≠ X + 1 → wr.heap[b]? = w7.heap[b]? := fun b h1 h2 => HOJ.out.block b h1 (by omega)
            by_cases hlt3 : j < wl.length ∧ j < bs.length
            · obtain ⟨hj1, hj2⟩ := hlt3
              obtain ⟨bb, hbb⟩ : ∃ bb, bs[j]? = some bb := ⟨_, List.getElem?_eq_getElem hj2⟩
              obtain ⟨p, hp⟩ : ∃ p, wl[j]? = some p := ⟨_, List.getElem?_eq_getElem hj1⟩
              have hBwr : Below w.heap.size w wr := HBw2.out wr (HB7.out.trans (HOJ.out.below (by omega) (by omega)))
              have hcb := bcl_at hbb
              obtain ⟨kb, koff, hKA, hkb, hkc⟩ := (Rd.below HB.out hBwr) (by intro h; rw [h] at hcb; simp at hcb)
              have hkc1 := hkc _ _ hcb
              have htk : S.waits.take (j + 1) = S.waits.take j ++ [(p.at_, p.p.zs)] := by
                rw [← HWS.out, List.take_add_one]
                simp [waitsOf, hp]
              have hkB : keptB bs j = bb := by simp [keptB, hbb]
              have hks : keptL bs 0 (S.waits.take (j + 1)) = keptL bs 0 (S.waits.take j) ++ (if bb then [(p.at_, p.p.zs)] else []) := by
                rw [htk, keptL_snoc, List.length_take, HWN.out, Nat.zero_add, Nat.min_eq_left (by omega), hkB]
              have HKS := Lib.hid hks
              obtain ⟨hpr, hpf⟩ := HWL7.out p (List.mem_of_getElem? hp)
              obtain ⟨q, g, hat, hq, hpA, hpc, hpl, hgb, hgk⟩ := (hpr.stay (W' := wr) fun b h1 h2 _ => hst b h2 (by omega)).wr hpf
              obtain ⟨zb, zoff, hZ, hzb, hc0, hc1, hc2⟩ := (RdF.of_own (own_stay HP7.out (W' := wr) (fun b hb => hst b (HP7.out.lt b hb).2 (by have := (HP7.out.lt b hb).1; omega)))).1.ac hp
              have hcv := conv_at wr (some ⟨g, 0, none⟩) 64 p.p.zs hpl (fun _ => ⟨g, 0, rfl, hgk.lt, fun j u hu => by rw [Nat.zero_add]; exact (hgk.cell j).trans hu⟩)
              simp only [Pt.val, hat, hpl, hpA, hpc] at hc1 hc2
              have hqT : q < (applyW S.secs (keptL bs 0 (S.waits.take j))).length := by rw [applyW_length, HSL.out]; exact hq
              have HCV := Lib.hid (conv_at wr.drew (some ⟨g, 0, none⟩) 64 p.p.zs hpl (fun _ => ⟨g, 0, rfl, hgk.lt, fun j u hu => by rw [Nat.zero_add]; exact (hgk.cell j).trans hu⟩))
              have hs0 := (HSJ.out.cell q).trans (sc_at hqT)
              have fs0 := HSJ.out.frozen q
              have hltS := HSJ.out.lt
              obtain ⟨zv', hzv'⟩ : ∃ zv', strOfNums p.p.zs = zv' := ⟨_, rfl⟩
              rw [hzv'] at hcv HCV
              have HZV' : Hid (Value.string zv' = tv p.p.zs) := by show _ = _; rw [← hzv']; rfl
              have HQT := Lib.hid hqT
              have HAT := Lib.hid hat
              have hji : (j : Int) < (wl.length : Int) := by omega
              have hji2 : (j : Int) < (bs.length : Int) := by omega
              have hq16 : (q : Int) < 16 := by omega
              subst hKA
              subst hZ
              clear hcb hkc hbb hp htk hkB hks hpr hpf hgk hpl hpA hpc hzv' hqT hat hst
              rcases bb with _ | _
              · clear hc1 hc2 hcv hs0 fs0
                go_wp2
                go_roundw
                case rel =>
                  refine ⟨j + 1, by omega, by go_num, ?_, HOJ.out⟩
                  show Blk _ _ _ _
                  rw [HKS.out]
                  simpa using HSJ.out
                case measure => simp [intOf]; omega
              · have hS : wr.cell? ⟨zb, zoff + j * 3 + 1, none⟩ = some (.int .i64 q) ∧ wr.cell? ⟨zb, zoff + j * 3 + 2, none⟩ = some (.slice (some ⟨g, 0, none⟩) 64 64) ∧ (convert 34 9 (.slice (some ⟨g, 0, none⟩) 64 64)).run Try.prog wr = .ok (.string zv') wr := ⟨hc1, hc2, hcv⟩
                have hcvd : (convert 34 9 (.slice (some ⟨g, 0, none⟩) 64 64)).run Try.prog wr.drew = .ok (.string zv') wr.drew := by
                  have := HCV.out
                  exact this
                have HSD : wr.drew.cell? ⟨zb, zoff + j * 3 + 1, none⟩ = some (.int .i64 q) ∧ wr.drew.cell? ⟨zb, zoff + j * 3 + 2, none⟩ = some (.slice (some ⟨g, 0, none⟩) 64 64) ∧ (convert 34 9 (.slice (some ⟨g, 0, none⟩) 64 64)).run Try.prog wr.drew = .ok (.string zv') wr.drew := ⟨hc1, hc2, hcvd⟩
                have hs0d : wr.drew.cell? ⟨X + 1, q, none⟩ = some (tv ((applyW S.secs (keptL bs 0 (S.waits.take j)))[q]?.getD [])) := hs0
                have fs0d := (HSJ.out.below (Below.refl wr.heap.size wr).drew HSJ.out.lt).frozen q
                clear hS hcvd
                go_wp2_with fail
                refine wp_region_noPanic ?_
                refine wp_region_last 12 (fun W' => W'.cell? ⟨zb, zoff + j * 3 + 1, none⟩ = some (.int .i64 q) ∧ W'.cell? ⟨zb, zoff + j * 3 + 2, none⟩ = some (.slice (some ⟨g, 0, none⟩) 64 64) ∧ (convert 34 9 (.slice (some ⟨g, 0, none⟩) 64 64)).run Try.prog W' = .ok (.string zv') W') (by kernel_rfl) HSD (fun hHeld => ?_)
                refine wpAnyL_take 12 (i := 0) (oi := ⟨some 118, _, _, _, _, _⟩) (v := ?_) rfl (by kernel_rfl) (by kernel_rfl) (by kernel_rfl) (by kernel_rfl) (by kernel_rfl) (by kernel_rfl) (by kernel_rfl) (fun _ _ _ h => h) (Or.inl ⟨by rfl, ?_⟩) hHeld ?_
                rotate_left
                focus (intro w hSw; (try dsimp only at hSw); go_simp; try (with_reducible rfl))
                try simp only [Act.put, List.setIfInBounds_toArray, List.set_cons_zero, List.set_cons_succ]
                refine wpAnyL_take 12 (i := 1) (oi := ⟨some 119, _, _, _, _, _⟩) (v := ?_) rfl (by kernel_rfl) (by kernel_rfl) (by kernel_rfl) (by kernel_rfl) (by kernel_rfl) (by kernel_rfl) (by kernel_rfl) (fun _ _ _ h => h) (Or.inl ⟨by rfl, ?_⟩) hHeld ?_
                rotate_left
                focus (intro w hSw; (try dsimp only at hSw); go_simp; try (with_reducible rfl))
                try simp only [Act.put, List.setIfInBounds_toArray, List.set_cons_zero, List.set_cons_succ]
                refine wpAnyL_take 12 (i := 2) (oi := ⟨some 120, _, _, _, _, _⟩) (v := ?_) rfl (by kernel_rfl) (by kernel_rfl) (by kernel_rfl) (by kernel_rfl) (by kernel_rfl) (by kernel_rfl) (by kernel_rfl) (fun _ _ _ h => h) (Or.inl ⟨by rfl, ?_⟩) hHeld ?_
                rotate_left
                focus (intro w hSw; (try dsimp only at hSw); go_simp; try (with_reducible rfl))
                try simp only [Act.put, List.setIfInBounds_toArray, List.set_cons_zero, List.set_cons_succ]
                refine wpAnyL_take 12 (i := 3) (oi := ⟨some 121, _, _, _, _, _⟩) (v := ?_) rfl (by kernel_rfl) (by kernel_rfl) (by kernel_rfl) (by kernel_rfl) (by kernel_rfl) (by kernel_rfl) (by kernel_rfl) (fun _ _ _ h => h) (Or.inl ⟨by rfl, ?_⟩) hHeld ?_
                rotate_left
                focus (intro w hSw; (try dsimp only at hSw); go_simp; try (with_reducible rfl))
                try simp only [Act.put, List.setIfInBounds_toArray, List.set_cons_zero, List.set_cons_succ]
                refine wpAnyL_take 12 (i := 4) (oi := ⟨some 122, _, _, _, _, _⟩) (v := ?_) rfl (by kernel_rfl) (by kernel_rfl) (by kernel_rfl) (by kernel_rfl) (by kernel_rfl) (by kernel_rfl) (by kernel_rfl) (fun _ _ _ h => h) (Or.inl ⟨by rfl, ?_⟩) hHeld ?_
                rotate_left
                focus (intro w hSw; (try dsimp only at hSw); go_simp; try (with_reducible rfl))
                try simp only [Act.put, List.setIfInBounds_toArray, List.set_cons_zero, List.set_cons_succ]
                refine wpAnyL_take 12 (i := 5) (oi := ⟨some 123, _, _, _, _, _⟩) (v := ?_) rfl (by kernel_rfl) (by kernel_rfl) (by kernel_rfl) (by kernel_rfl) (by kernel_rfl) (by kernel_rfl) (by kernel_rfl) (fun _ _ _ h => h) (Or.inl ⟨by rfl, ?_⟩) hHeld ?_
                rotate_left
                focus (intro w hSw; (try dsimp only at hSw); go_simp; try (with_reducible rfl))
                try simp only [Act.put, List.setIfInBounds_toArray, List.set_cons_zero, List.set_cons_succ]
                refine wpAnyL_take 12 (i := 6) (oi := ⟨some 124, _, _, _, _, _⟩) (v := ?_) rfl (by kernel_rfl) (by kernel_rfl) (by kernel_rfl) (by kernel_rfl) (by kernel_rfl) (by kernel_rfl) (by kernel_rfl) (fun _ _ _ h => h) (Or.inl ⟨by rfl, ?_⟩) hHeld ?_
                rotate_left
                focus (intro w hSw; (try dsimp only at hSw); go_simp; try (with_reducible rfl))
                try simp only [Act.put, List.setIfInBounds_toArray, List.set_cons_zero, List.set_cons_succ]
                refine wpAnyL_take 12 (i := 7) (oi := ⟨some 125, _, _, _, _, _⟩) (v := ?_) rfl (by kernel_rfl) (by kernel_rfl) (by kernel_rfl) (by kernel_rfl) (by kernel_rfl) (by kernel_rfl) (by kernel_rfl) (fun _ _ _ h => h) (Or.inl ⟨by rfl, ?_⟩) hHeld ?_
                rotate_left
                focus (intro w hSw; (try dsimp only at hSw); go_simp; try (with_reducible rfl))
                try simp only [Act.put, List.setIfInBounds_toArray, List.set_cons_zero, List.set_cons_succ]
                refine wpAnyL_take 12 (i := 8) (oi := ⟨some 126, _, _, _, _, _⟩) (v := ?_) rfl (by kernel_rfl) (by kernel_rfl) (by kernel_rfl) (by kernel_rfl) (by kernel_rfl) (by kernel_rfl) (by kernel_rfl) (fun _ _ _ h => h) (Or.inl ⟨by rfl, ?_⟩) hHeld ?_
                rotate_left
                focus (intro w hSw; (try dsimp only at hSw); go_simp; try (with_reducible rfl))
                try simp only [Act.put, List.setIfInBounds_toArray, List.set_cons_zero, List.set_cons_succ]
                refine wpAnyL_take 12 (i := 9) (oi := ⟨some 127, _, _, _, _, _⟩) (v := ?_) rfl (by kernel_rfl) (by kernel_rfl) (by kernel_rfl) (by kernel_rfl) (by kernel_rfl) (by kernel_rfl) (by kernel_rfl) (fun _ _ _ h => h) (Or.inl ⟨by rfl, ?_⟩) hHeld ?_
                rotate_left
                focus (intro w hSw; (try dsimp only at hSw); go_simp; try (with_reducible rfl))
                try simp only [Act.put, List.setIfInBounds_toArray, List.set_cons_zero, List.set_cons_succ]
                refine wpAnyL_take 12 (i := 10) (oi := ⟨some 128, _, _, _, _, _⟩) (v := ?_) rfl (by kernel_rfl) (by kernel_rfl) (by kernel_rfl) (by kernel_rfl) (by kernel_rfl) (by kernel_rfl) (by kernel_rfl) (fun _ _ _ h => h) (Or.inl ⟨by rfl, ?_⟩) hHeld ?_
                rotate_left
                focus (intro w hSw; (try dsimp only at hSw); go_simp; try (with_reducible rfl))
                try simp only [Act.put, List.setIfInBounds_toArray, List.set_cons_zero, List.set_cons_succ]
                refine wpAnyL_take 12 (i := 11) (oi := ⟨some 129, _, _, _, _, _⟩) (v := ?_) rfl (by kernel_rfl) (by kernel_rfl) (by kernel_rfl) (by kernel_rfl) (by kernel_rfl) (by kernel_rfl) (by kernel_rfl) (fun _ _ _ h => h) (Or.inl ⟨by rfl, ?_⟩) hHeld ?_
                rotate_left
                focus (intro w hSw; (try dsimp only at hSw); go_simp; try (with_reducible rfl))
                try simp only [Act.put, List.setIfInBounds_toArray, List.set_cons_zero, List.set_cons_succ]
                refine wpAnyL_last (i := 12) (o := ⟨none, _, _, _, _, _⟩) (by kernel_rfl) rfl (by kernel_rfl) (fun K hK => ?_)
                clear hHeld
                go_simp
                go_wp2_with fail
                refine hK.out _ _ ?_
                clear hK K
                try simp only [Act.put, List.setIfInBounds_toArray, List.set_cons_zero, List.set_cons_succ]
                refine wpAnyL_done (by kernel_rfl) ?_ _
                refine NoPanic.normal ?_
                go_wp2_with fail
                go_roundw
                case rel =>
                  refine ⟨j + 1, by omega, by go_num, ?_, ?_⟩
                  · show Blk _ _ _ _
                    rw [HKS.out, if_pos trivial, applyW_at _ _ _ q HAT.out, ← sc_set HQT.out, ← HZV'.out]
                    have kk := HSJ.out.set q (.string zv')
                    exact kk.below (Below.refl _ _).drew kk.lt
                  · exact (HOJ.out.trans (Out.set _ (X + 1) q _ (Nat.le_refl _) (by omega))).trans (Out.of_below (Below.refl _ _).drew)
                case measure => simp [intOf]; omega
            · have hcutS : keptL bs 0 (S.waits.take j) = keptL bs 0 S.waits := by
                by_cases h1 : j < wl.length
                · exact keptL_cut bs S.waits 0 j (by omega)
                · rw [List.take_of_length_le (by rw [HWN.out]; omega)]
              rw [hcutS] at HSJ
              have HX8 : Hid (Blk wr X 29 [.slice E.A E.ps.length E.c, .slice E.B E.ws.length E.d]) := (HOJ.out.block X (by omega) (.inl (by omega))).trans HX7.out
              have HN8 : Hid (Blk wr (X + 2) 33 (sc (applyW S.secs S.waits))) := (HOJ.out.block (X + 2) (by omega) (.inr (by omega))).trans HN7.out
              have HS8 : Hid (Blk wr (X + 1) 33 (sc (applyW S.secs (keptL bs 0 S.waits)))) := HSJ.out
              have hFk : F.ps.length = k := by
                have := congrArg (fun s : DS => s.secs.length) HSF.out
                have h2 : F.ps.length = E.ps.length := by simpa [Dv.st, applyW_length] using this
                rw [h2, HEK.out]
              have hFw : F.ws.length = 0 := by
                have := congrArg (fun s : DS => s.waits.length) HSF.out
                simpa [Dv.st] using this
              have HY8 : Hid (Blk wr w6.heap.size 29 [.slice F.A F.ps.length F.c, .slice F.B F.ws.length F.d]) := by
                have := (HOJ.out.block bY hs7 (.inr (by omega))).trans HY7.out
                rw [HBY.out]
                exact this
              have HFW0 := Lib.hid hFw
              have hlY6 : w6.heap.size < wr.heap.size := by rw [HBY.out]; omega
              have HE8 := Lib.hid ((HE7.out.stays HOJ.out.size (fun b h1 h2 => hst b h2 (by omega))).zero)
              have HF8 := Lib.hid ((HF7.out.stays HOJ.out.size (fun b h1 h2 => hst b h2 (by omega))).zero)
              have HB8 := Lib.hid (HB7.out.trans (HOJ.out.below (m := X) (by omega) (by omega)))
              have HFOK : Hid F.st.ok := by
                show F.st.ok
                rw [HSF.out]
                exact crash_st_ok HEOK.out bs
              have HFK := Lib.hid hFk
              have HEW1 : Hid (E.ws.length ≤ 4398046511104) := by
                have h1 : E.ws.length = S.waits.length := by
                  have := congrArg (fun s : DS => s.waits.length) HSE.out
                  simpa [Dv.st] using this
                show _ ≤ _
                rw [h1, HWN.out]
                omega
              have HFW1 : Hid (F.ws.length ≤ 4398046511104) := by
                show _ ≤ _
                rw [hFw]
                omega
              have HZE : Hid (∀ i, readS E.st i = (applyW S.secs S.waits)[i]?.getD []) := fun i => by rw [HSE.out]; rfl
              have HZF : Hid (∀ i, readS F.st i = (applyW S.secs (keptL bs 0 S.waits))[i]?.getD []) := fun i => by rw [HSF.out, HSE.out]; rfl
              have hlX : X + 2 < wr.heap.size := by omega
              have hlY : bY < wr.heap.size := by omega
              clear hFk hFw hcutS hst HSJ HX7 HN7 HS7 HY7 HE7 HF7 HB7 HP7 HWL7
              go_upto_region 27 with fail
              clear HOJ
              go_cut [111] (fun v wx => v = .bool false ∧ wx = wr)
              case first =>
                by_cases h1 : j < wl.length
                · have h2 : ¬ ((j : Int) < (bs.length : Int)) := by omega
                  have h3 : (j : Int) < (wl.length : Int) := by omega
                  go_wp2
                  go_meet
                  exact ⟨by first | rfl | trivial, by first | rfl | trivial⟩
                · have h3 : ¬ ((j : Int) < (wl.length : Int)) := by omega
                  go_wp2
                  go_meet
                  exact ⟨by first | rfl | trivial, by first | rfl | trivial⟩
              case rest =>
                obtain ⟨rfl, rfl⟩ := hcut
                clear hj hlt3
                go_wp2
                go_loopw [21] (fun i W => ∃ j : Nat, j ≤ k ∧ i = .int .i64 j ∧ Below wc.heap.size wc W) (fun i _ => k - (intOf i).toNat)
                case atStart =>
                  exact ⟨0, Nat.zero_le _, rfl, Below.refl _ _⟩
                case round =>
                  obtain ⟨j, hj, rfl, hB⟩ := hrel
                  have hszj := hB.size
                  by_cases hlt : j < k
                  · have hjk : (j : Int) < (k : Int) := by omega
                    have hj16 : (j : Int) < 16 := by omega
                    have x0 := (HX8.out.below hB (by omega)).cell 0
                    have x1 := (HX8.out.below hB (by omega)).cell 1
                    simp only [List.getElem?_cons_zero, List.getElem?_cons_succ] at x0 x1
                    have HR1 := Lib.hid (read_ok E HEOK.out HEW1.out j (by rw [HEK.out]; exact hlt) wr (HE8.out.below hB))
                    have hjE : j < E.st.secs.length := by show j < (E.ps.map (·.zs)).length; rw [List.length_map, HEK.out]; exact hlt
                    have hzl := readS_length HEOK.out hjE
                    have hjF : j < F.st.secs.length := by show j < (F.ps.map (·.zs)).length; rw [List.length_map, HFK.out]; exact hlt
                    have hyl := readS_length HFOK.out hjF
                    obtain ⟨zz, hzz⟩ : ∃ zz, readS E.st j = zz := ⟨_, rfl⟩
                    obtain ⟨yy, hyy⟩ : ∃ yy, readS F.st j = yy := ⟨_, rfl⟩
                    rw [hzz] at HR1 hzl
                    have HYY := Lib.hid hyy
                    rw [hyy] at hyl
                    have hn := (HN8.out.below hB (by omega)).cell j
                    rw [sc_at (by rw [applyW_length, HSL.out]; exact hlt), ← HZE.out, hzz] at hn
                    have hs := (HS8.out.below hB (by omega)).cell j
                    rw [sc_at (by rw [applyW_length, HSL.out]; exact hlt), ← HZF.out, hyy] at hs
                    have HNN := Lib.hid hn
                    have HSS8 := Lib.hid hs
                    have HZL := Lib.hid hzl
                    have HYL := Lib.hid hyl
                    clear hjE hjF hzz hyy hn hs hzl hyl
                    go_wp2_with fail
                    refine HR1.out.mono ?_
                    rintro e u1 ⟨g1, c1, rfl, hown1, hBu1⟩
                    have hB1 : Below wc.heap.size wc u1 := hB.trans (hBu1.mono hszj)
                    have hsz1 := hB1.size
                    have hsr1 := hBu1.size
                    have y0 := (HY8.out.below hB1 (by omega)).cell 0
                    have y1 := (HY8.out.below hB1 (by omega)).cell 1
                    simp only [List.getElem?_cons_zero, List.getElem?_cons_succ] at y0 y1
                    have HO1 := Lib.hid hown1
                    have HR2 := Lib.hid (read_ok F HFOK.out HFW1.out j (by rw [HFK.out]; exact hlt) u1 (HF8.out.below hB1))
                    rw [HYY.out] at HR2
                    have HBU1 := Lib.hid hBu1
                    clear hown1 x0 x1 hBu1
                    have hlY1 : w6.heap.size < u1.heap.size := by omega
                    go_wp2_with fail
                    refine HR2.out.mono ?_
                    rintro e u2 ⟨g2, c2, rfl, hown2, hBu2⟩
                    have hB2 : Below wc.heap.size wc u2 := hB1.trans (hBu2.mono hsz1)
                    have hr1 := (RdF.of_own HO1.out).1.below hBu2
                    have hr2 := (RdF.of_own hown2).1
                    have hcv1 := conv_at u2.drew (some ⟨g1, 0, none⟩) c1 zz HZL.out (hr1.below (Below.refl _ _).drew)
                    have hcv2 := conv_at u2.drew (some ⟨g2, 0, none⟩) c2 yy HYL.out (hr2.below (Below.refl _ _).drew)
                    have hn2 : u2.drew.cell? ⟨X + 2, j, none⟩ = some (tv zz) := (hBu2.cell (p := ⟨X + 2, j, none⟩) (by show X + 2 < _; omega)).trans ((HBU1.out.cell (p := ⟨X + 2, j, none⟩) (by show X + 2 < _; omega)).trans HNN.out)
                    have hs2 : u2.drew.cell? ⟨X + 1, j, none⟩ = some (tv yy) := (hBu2.cell (p := ⟨X + 1, j, none⟩) (by show X + 1 < _; omega)).trans ((HBU1.out.cell (p := ⟨X + 1, j, none⟩) (by show X + 1 < _; omega)).trans HSS8.out)
                    obtain ⟨ss, hss⟩ : ∃ ss, strOfNums zz = ss := ⟨_, rfl⟩
                    obtain ⟨ts, hts⟩ : ∃ ts, strOfNums yy = ts := ⟨_, rfl⟩
                    rw [show tv zz = .string ss by rw [← hss]; rfl] at hn2
                    rw [show tv yy = .string ts by rw [← hts]; rfl] at hs2
                    rw [hss] at hcv1
                    rw [hts] at hcv2
                    have HSD : u2.drew.cell? ⟨X + 2, j, none⟩ = some (.string ss) ∧ u2.drew.cell? ⟨X + 1, j, none⟩ = some (.string ts) ∧ (convert 34 9 (.slice (some ⟨g1, 0, none⟩) 64 c1)).run Try.prog u2.drew = .ok (.string ss) u2.drew ∧ (convert 34 9 (.slice (some ⟨g2, 0, none⟩) 64 c2)).run Try.prog u2.drew = .ok (.string ts) u2.drew := ⟨hn2, hs2, hcv1, hcv2⟩
                    have HSDH := Lib.hid HSD
                    have HB2 := Lib.hid hB2
                    clear HSD hn2 hs2 hcv1 hcv2 hss hts hr1 hr2 hown2 y0 y1 hBu2 hB2 hB1 hB HBU1 HR1 HR2 HNN HSS8 HZL HYL
                    go_wp2_with fail
                    refine wp_region_noPanic ?_
                    refine wp_region_last 21 (fun W' => W'.cell? ⟨X + 2, j, none⟩ = some (.string ss) ∧ W'.cell? ⟨X + 1, j, none⟩ = some (.string ts) ∧ (convert 34 9 (.slice (some ⟨g1, 0, none⟩) 64 c1)).run Try.prog W' = .ok (.string ss) W' ∧ (convert 34 9 (.slice (some ⟨g2, 0, none⟩) 64 c2)).run Try.prog W' = .ok (.string ts) W') (by kernel_rfl) HSDH.out (fun hHeld => ?_)
                    refine wpAnyL_take 12 (i := 0) (oi := ⟨some 147, _, _, _, _, _⟩) (v := ?_) rfl (by kernel_rfl) (by kernel_rfl) (by kernel_rfl) (by kernel_rfl) (by kernel_rfl) (by kernel_rfl) (by kernel_rfl) (fun _ _ _ h => h) (Or.inl ⟨by rfl, ?_⟩) hHeld ?_
                    rotate_left
                    focus (intro w hSw; (try dsimp only at hSw); go_simp; try (with_reducible rfl))
                    try simp only [Act.put, List.setIfInBounds_toArray, List.set_cons_zero, List.set_cons_succ]
                    refine wpAnyL_take 12 (i := 2) (oi := ⟨some 149, _, _, _, _, _⟩) (v := ?_) rfl (by kernel_rfl) (by kernel_rfl) (by kernel_rfl) (by kernel_rfl) (by kernel_rfl) (by kernel_rfl) (by kernel_rfl) (fun _ _ _ h => h) (Or.inl ⟨by rfl, ?_⟩) hHeld ?_
                    rotate_left
                    focus (intro w hSw; (try dsimp only at hSw); go_simp; try (with_reducible rfl))
                    try simp only [Act.put, List.setIfInBounds_toArray, List.set_cons_zero, List.set_cons_succ]
                    refine wpAnyL_one (i := 1) (o := ⟨some 148, _, _, _, _, _⟩) (by kernel_rfl) rfl (fun K hK => ?_)
                    clear hHeld
                    go_simp
                    refine (num_any _ _).mono ?_
                    rintro e w' ⟨rfl, rfl⟩
                    go_wp2_with fail
                    refine hK.out _ _ HSDH.out (fun hHeld => ?_)
                    clear hK K
                    try simp only [Act.put, List.setIfInBounds_toArray, List.set_cons_zero, List.set_cons_succ]
                    refine wpAnyL_one (i := 3) (o := ⟨some 150, _, _, _, _, _⟩) (by kernel_rfl) rfl (fun K hK => ?_)
                    clear hHeld
                    go_simp
                    refine (num_any _ _).mono ?_
                    rintro e w' ⟨rfl, rfl⟩
                    go_wp2_with fail
                    refine hK.out _ _ HSDH.out (fun hHeld => ?_)
                    clear hK K
                    try simp only [Act.put, List.setIfInBounds_toArray, List.set_cons_zero, List.set_cons_succ]
                    refine wpAnyL_take 12 (i := 4) (oi := ⟨some 151, _, _, _, _, _⟩) (v := ?_) rfl (by kernel_rfl) (by kernel_rfl) (by kernel_rfl) (by kernel_rfl) (by kernel_rfl) (by kernel_rfl) (by kernel_rfl) (fun _ _ _ h => h) (Or.inl ⟨by rfl, ?_⟩) hHeld ?_
                    rotate_left
                    focus (intro w hSw; (try dsimp only at hSw); go_simp; try (with_reducible rfl))
                    try simp only [Act.put, List.setIfInBounds_toArray, List.set_cons_zero, List.set_cons_succ]
                    refine wpAnyL_take 12 (i := 5) (oi := ⟨some 152, _, _, _, _, _⟩) (v := ?_) rfl (by kernel_rfl) (by kernel_rfl) (by kernel_rfl) (by kernel_rfl) (by kernel_rfl) (by kernel_rfl) (by kernel_rfl) (fun _ _ _ h => h) (Or.inl ⟨by rfl, ?_⟩) hHeld ?_
                    rotate_left
                    focus (intro w hSw; (try dsimp only at hSw); go_simp; try (with_reducible rfl))
                    try simp only [Act.put, List.setIfInBounds_toArray, List.set_cons_zero, List.set_cons_succ]
                    refine wpAnyL_take 12 (i := 6) (oi := ⟨some 153, _, _, _, _, _⟩) (v := ?_) rfl (by kernel_rfl) (by kernel_rfl) (by kernel_rfl) (by kernel_rfl) (by kernel_rfl) (by kernel_rfl) (by kernel_rfl) (fun _ _ _ h => h) (Or.inl ⟨by rfl, ?_⟩) hHeld ?_
                    rotate_left
                    focus (intro w hSw; (try dsimp only at hSw); go_simp; try (with_reducible rfl))
                    try simp only [Act.put, List.setIfInBounds_toArray, List.set_cons_zero, List.set_cons_succ]
                    refine wpAnyL_take 12 (i := 7) (oi := ⟨some 154, _, _, _, _, _⟩) (v := ?_) rfl (by kernel_rfl) (by kernel_rfl) (by kernel_rfl) (by kernel_rfl) (by kernel_rfl) (by kernel_rfl) (by kernel_rfl) (fun _ _ _ h => h) (Or.inl ⟨by rfl, ?_⟩) hHeld ?_
                    rotate_left
                    focus (intro w hSw; (try dsimp only at hSw); go_simp; try (with_reducible rfl))
                    try simp only [Act.put, List.setIfInBounds_toArray, List.set_cons_zero, List.set_cons_succ]
                    refine wpAnyL_take 12 (i := 8) (oi := ⟨some 155, _, _, _, _, _⟩) (v := ?_) rfl (by kernel_rfl) (by kernel_rfl) (by kernel_rfl) (by kernel_rfl) (by kernel_rfl) (by kernel_rfl) (by kernel_rfl) (fun _ _ _ h => h) (Or.inl ⟨by rfl, ?_⟩) hHeld ?_
                    rotate_left
                    focus (intro w hSw; (try dsimp only at hSw); go_simp; try (with_reducible rfl))
                    try simp only [Act.put, List.setIfInBounds_toArray, List.set_cons_zero, List.set_cons_succ]
                    refine wpAnyL_take 12 (i := 9) (oi := ⟨some 156, _, _, _, _, _⟩) (v := ?_) rfl (by kernel_rfl) (by kernel_rfl) (by kernel_rfl) (by kernel_rfl) (by kernel_rfl) (by kernel_rfl) (by kernel_rfl) (fun _ _ _ h => h) (Or.inl ⟨by rfl, ?_⟩) hHeld ?_
                    rotate_left
                    focus (intro w hSw; (try dsimp only at hSw); go_simp; try (with_reducible rfl))
                    try simp only [Act.put, List.setIfInBounds_toArray, List.set_cons_zero, List.set_cons_succ]
                    refine wpAnyL_take 12 (i := 10) (oi := ⟨some 157, _, _, _, _, _⟩) (v := ?_) rfl (by kernel_rfl) (by kernel_rfl) (by kernel_rfl) (by kernel_rfl) (by kernel_rfl) (by kernel_rfl) (by kernel_rfl) (fun _ _ _ h => h) (Or.inl ⟨by rfl, ?_⟩) hHeld ?_
                    rotate_left
                    focus (intro w hSw; (try dsimp only at hSw); go_simp; try (with_reducible rfl))
                    try simp only [Act.put, List.setIfInBounds_toArray, List.set_cons_zero, List.set_cons_succ]
                    refine wpAnyL_take 12 (i := 11) (oi := ⟨some 158, _, _, _, _, _⟩) (v := ?_) rfl (by kernel_rfl) (by kernel_rfl) (by kernel_rfl) (by kernel_rfl) (by kernel_rfl) (by kernel_rfl) (by kernel_rfl) (fun _ _ _ h => h) (Or.inl ⟨by rfl, ?_⟩) hHeld ?_
                    rotate_left
                    focus (intro w hSw; (try dsimp only at hSw); go_simp; try (with_reducible rfl))
                    try simp only [Act.put, List.setIfInBounds_toArray, List.set_cons_zero, List.set_cons_succ]
                    refine wpAnyL_take 12 (i := 12) (oi := ⟨some 159, _, _, _, _, _⟩) (v := ?_) rfl (by kernel_rfl) (by kernel_rfl) (by kernel_rfl) (by kernel_rfl) (by kernel_rfl) (by kernel_rfl) (by kernel_rfl) (fun _ _ _ h => h) (Or.inl ⟨by rfl, ?_⟩) hHeld ?_
                    rotate_left
                    focus (intro w hSw; (try dsimp only at hSw); go_simp; try (with_reducible rfl))
                    try simp only [Act.put, List.setIfInBounds_toArray, List.set_cons_zero, List.set_cons_succ]
                    refine wpAnyL_take 12 (i := 13) (oi := ⟨some 160, _, _, _, _, _⟩) (v := ?_) rfl (by kernel_rfl) (by kernel_rfl) (by kernel_rfl) (by kernel_rfl) (by kernel_rfl) (by kernel_rfl) (by kernel_rfl) (fun _ _ _ h => h) (Or.inl ⟨by rfl, ?_⟩) hHeld ?_
                    rotate_left
                    focus (intro w hSw; (try dsimp only at hSw); go_simp; try (with_reducible rfl))
                    try simp only [Act.put, List.setIfInBounds_toArray, List.set_cons_zero, List.set_cons_succ]
                    refine wpAnyL_take 12 (i := 14) (oi := ⟨some 161, _, _, _, _, _⟩) (v := ?_) rfl (by kernel_rfl) (by kernel_rfl) (by kernel_rfl) (by kernel_rfl) (by kernel_rfl) (by kernel_rfl) (by kernel_rfl) (fun _ _ _ h => h) (Or.inl ⟨by rfl, ?_⟩) hHeld ?_
                    rotate_left
                    focus (intro w hSw; (try dsimp only at hSw); go_simp; try (with_reducible rfl))
                    try simp only [Act.put, List.setIfInBounds_toArray, List.set_cons_zero, List.set_cons_succ]
                    refine wpAnyL_take 12 (i := 15) (oi := ⟨some 162, _, _, _, _, _⟩) (v := ?_) rfl (by kernel_rfl) (by kernel_rfl) (by kernel_rfl) (by kernel_rfl) (by kernel_rfl) (by kernel_rfl) (by kernel_rfl) (fun _ _ _ h => h) (Or.inl ⟨by rfl, ?_⟩) hHeld ?_
                    rotate_left
                    focus (intro w hSw; (try dsimp only at hSw); go_simp; try (with_reducible rfl))
                    try simp only [Act.put, List.setIfInBounds_toArray, List.set_cons_zero, List.set_cons_succ]
                    refine wpAnyL_take 12 (i := 16) (oi := ⟨some 163, _, _, _, _, _⟩) (v := ?_) rfl (by kernel_rfl) (by kernel_rfl) (by kernel_rfl) (by kernel_rfl) (by kernel_rfl) (by kernel_rfl) (by kernel_rfl) (fun _ _ _ h => h) (Or.inl ⟨by rfl, ?_⟩) hHeld ?_
                    rotate_left
                    focus (intro w hSw; (try dsimp only at hSw); go_simp; try (with_reducible rfl))
                    try simp only [Act.put, List.setIfInBounds_toArray, List.set_cons_zero, List.set_cons_succ]
                    refine wpAnyL_take 12 (i := 17) (oi := ⟨some 164, _, _, _, _, _⟩) (v := ?_) rfl (by kernel_rfl) (by kernel_rfl) (by kernel_rfl) (by kernel_rfl) (by kernel_rfl) (by kernel_rfl) (by kernel_rfl) (fun _ _ _ h => h) (Or.inl ⟨by rfl, ?_⟩) hHeld ?_
                    rotate_left
                    focus (intro w hSw; (try dsimp only at hSw); go_simp; try (with_reducible rfl))
                    try simp only [Act.put, List.setIfInBounds_toArray, List.set_cons_zero, List.set_cons_succ]
                    refine wpAnyL_take 12 (i := 18) (oi := ⟨some 165, _, _, _, _, _⟩) (v := ?_) rfl (by kernel_rfl) (by kernel_rfl) (by kernel_rfl) (by kernel_rfl) (by kernel_rfl) (by kernel_rfl) (by kernel_rfl) (fun _ _ _ h => h) (Or.inl ⟨by rfl, ?_⟩) hHeld ?_
                    rotate_left
                    focus (intro w hSw; (try dsimp only at hSw); go_simp; try (with_reducible rfl))
                    try simp only [Act.put, List.setIfInBounds_toArray, List.set_cons_zero, List.set_cons_succ]
                    refine wpAnyL_take 12 (i := 19) (oi := ⟨some 166, _, _, _, _, _⟩) (v := ?_) rfl (by kernel_rfl) (by kernel_rfl) (by kernel_rfl) (by kernel_rfl) (by kernel_rfl) (by kernel_rfl) (by kernel_rfl) (fun _ _ _ h => h) (Or.inl ⟨by rfl, ?_⟩) hHeld ?_
                    rotate_left
                    focus (intro w hSw; (try dsimp only at hSw); go_simp; try (with_reducible rfl))
                    try simp only [Act.put, List.setIfInBounds_toArray, List.set_cons_zero, List.set_cons_succ]
                    refine wpAnyL_take 12 (i := 20) (oi := ⟨some 167, _, _, _, _, _⟩) (v := ?_) rfl (by kernel_rfl) (by kernel_rfl) (by kernel_rfl) (by kernel_rfl) (by kernel_rfl) (by kernel_rfl) (by kernel_rfl) (fun _ _ _ h => h) (Or.inl ⟨by rfl, ?_⟩) hHeld ?_
                    rotate_left
                    focus (intro w hSw; (try dsimp only at hSw); go_simp; try (with_reducible rfl))
                    try simp only [Act.put, List.setIfInBounds_toArray, List.set_cons_zero, List.set_cons_succ]
                    refine wpAnyL_last (i := 21) (o := ⟨some 168, _, _, _, _, _⟩) (by kernel_rfl) rfl (by kernel_rfl) (fun K hK => ?_)
                    clear hHeld
                    go_simp
                    go_wp2_with fail
                    refine hK.out _ _ ?_
                    clear hK K
                    try simp only [Act.put, List.setIfInBounds_toArray, List.set_cons_zero, List.set_cons_succ]
                    refine wpAnyL_done (by kernel_rfl) ?_ _
                    refine NoPanic.normal ?_
                    go_wp2_with fail
                    go_roundw
                    case rel => exact ⟨j + 1, by omega, by go_num, HB2.out.drew⟩
                    case measure => simp [intOf]; omega
                  · have hjk : ¬ ((j : Int) < (k : Int)) := by omega
                    have y0 := (HY8.out.below hB (by omega)).cell 0
                    have y1 := (HY8.out.below hB (by omega)).cell 1
                    simp only [List.getElem?_cons_zero, List.getElem?_cons_succ] at y0 y1
                    rw [HFK.out] at y0
                    rw [HFW0.out] at y1
                    have hlY1 : w6.heap.size < wr.heap.size := by omega
                    go_wp2_with (refine (num_any _ _).mono ?_; rintro e w' ⟨rfl, rfl⟩)
                    go_ret
                    exact ⟨rfl, HBw2.out _ (HB8.out.trans (hB.mono (by omega)))⟩

end Go.Proofs.Ytfhcjbffflpjeaa
