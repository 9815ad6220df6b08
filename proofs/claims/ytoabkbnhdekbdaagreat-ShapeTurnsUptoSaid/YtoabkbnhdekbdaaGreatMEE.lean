/-
  props: Over. Conditions: the lists are as they come in.
-/
import Derived.Test.YtoabkbnhdekbdaaGreatMEC
import Derived.Test.YtoabkbnhdekbdaaGreatMMP
import Derived.Test.YtoabkbnhdekbdaaGreatMTNP
namespace Go.Proofs.YtoabkbnhdekbdaaGreat
open Go.ChangeShapes Go.WideShapes Go.ChangeAt Go.RowKit Go.Maps
set_option maxRecDepth 100000
theorem ownMap_block {w w' : World} {k : TypeId} {b n : Nat} {D : Dh} (h : w.ownsMap Tryz.prog k heldV b n D) (e : w'.heap[b]? = w.heap[b]?) : w'.ownsMap Tryz.prog k heldV b n D := by
  obtain ⟨es, clock, hb, r⟩ := h
  exact ⟨es, clock, e.trans hb, r⟩
structure SlsP (w : World) (L : Option Addr) (ls : List (Sl Pr)) : Prop where
  rd : Rd w L (ls.map fun s => s.val)
  each : ∀ s ∈ ls, Rd w s.A (prs s.l) ∧ s.l.length ≤ 4398046511103 ∧ ∀ x ∈ s.l, x.1.size ≤ 140737488351232 ∧ x.2.size ≤ 140737488351232
theorem SlsP.below {w w' : World} {L : Option Addr} {ls : List (Sl Pr)} (h : SlsP w L ls) (hB : Below w.heap.size w w') : SlsP w' L ls := ⟨h.rd.below hB, fun s hs => ⟨(h.each s hs).1.below hB, (h.each s hs).2⟩⟩
theorem SlsP.at_ {w : World} {L : Option Addr} {ls : List (Sl Pr)} (h : SlsP w L ls) {k : Nat} {s : Sl Pr} (hk : ls[k]? = some s) : ∃ b off, L = some ⟨b, off, none⟩ ∧ b < w.heap.size ∧ w.cell? ⟨b, off + k, none⟩ = some (.slice s.A s.l.length s.c) := by
  have h1 : (ls.map fun s => s.val)[k]? = some s.val := by rw [List.getElem?_map, hk]; rfl
  obtain ⟨b, off, e, hb, hc⟩ := h.rd (by intro e; rw [e] at h1; simp at h1)
  exact ⟨b, off, e, hb, hc _ _ h1⟩
set_option maxHeartbeats 4000000 in
theorem over_any (L : Option Addr) (c n : Nat) (ls : List (Sl Pr)) (hn : ls.length = n) (hl : n ≤ 4398046511103) (w : World) (hr : SlsP w L ls) :
    Calls Tryz.prog 111 #[.slice L n c] w fun e w' => ∃ v, e = .returned (ansP v (overE (ls.map (·.l)))) ∧ ownP w' w.heap.size v (overR (ls.map (·.l))) ∧ Below w.heap.size w w' := by
  subst hn
  obtain ⟨i0, hi, hz0, hz1, hz2⟩ := infoParts infoPr
  obtain ⟨E, hE⟩ : ∃ E, overE (ls.map (·.l)) = E := ⟨_, rfl⟩
  obtain ⟨U, hU⟩ : ∃ U, overR (ls.map (·.l)) = U := ⟨_, rfl⟩
  have HE := Lib.hid hE
  have HU : Hid (U = if E = 0 then overL (ls.map (·.l)) else []) := Lib.hid (by rw [← hU, ← hE]; rfl)
  have HR := Lib.hid hr
  rw [hE, hU]
  clear hE hU hr
  have hmm : ∀ w : World, (Instr.makeMap 182 none).run Tryz.prog w = .ok (.map (some w.heap.size)) (w.alloc (.map #[] 0)) := fun _ => by kernel_rfl
  go_enter Tryz.func111, Tryz.ntmps111
  go_wp2
  go_loopw [17] (fun i W => ∃ k : Nat, k ≤ ls.length ∧ i = .int .i64 k ∧ Hid (((ls.map (·.l)).take k).all okP = true) ∧ Below w.heap.size w W) (fun i _ => ls.length - (intOf i).toNat)
  case atStart => exact ⟨0, Nat.zero_le _, rfl, Lib.hid (by simp), Below.refl _ _⟩
  case round =>
    obtain ⟨k, hk, rfl, HD, hB⟩ := hrel
    by_cases hlt : k < ls.length
    · obtain ⟨s, hs⟩ : ∃ s, ls[k]? = some s := ⟨ls[k], qZa hlt⟩
      have hrw := HR.out.below hB
      obtain ⟨b, off, rfl, hb, hc0⟩ := hrw.at_ hs
      obtain ⟨hrs, hls, hfs⟩ := hrw.each s (List.mem_of_getElem? hs)
      have HC := Lib.hid (check_any s.A s.c s.l.length s.l rfl (by omega) (fun x hx => (hfs x hx).2) wr hrs)
      have HT : Hid (((ls.map (·.l)).take (k + 1)).all okP = okP s.l) := Lib.hid (by
        rw [takeMap _ hs, List.all_append, HD.out]
        simp)
      have HAT : Hid (okP s.l = false → E = 9) := Lib.hid (fun h => by
        rw [← HE.out]
        unfold overE
        rw [if_pos]
        rw [← Bool.not_eq_true, List.all_eq_true]
        intro hall
        have := hall s.l (List.mem_map_of_mem (List.mem_of_getElem? hs))
        rw [h] at this
        cases this)
      clear hrw hrs hfs hs HD
      rcases hok : okP s.l with _ | _
      · rw [chkP_no hok] at HC
        have HE9 : Hid (E = 9) := Lib.hid (HAT.out hok)
        have HU0 : Hid (U = []) := Lib.hid (by rw [HU.out, if_neg (by rw [HE9.out]; omega)])
        clear hok HAT HT
        go_wp2_with fail
        refine HC.out.mono ?_
        rintro e w2 ⟨rfl, hB2⟩
        go_wp2
        go_ret2
        rw [HE9.out, HU0.out]
        exact ⟨_, rfl, ownNone _ _ _ _, hB.trans (hB2.mono hB.size)⟩
      · rw [chkP_ok hok] at HC
        rw [hok] at HT
        clear hok HAT
        go_wp2_with fail
        refine HC.out.mono ?_
        rintro e w2 ⟨rfl, hB2⟩
        go_wp2
        go_roundw
        case rel => exact ⟨k + 1, by omega, by go_num, HT, hB.trans (hB2.mono hB.size)⟩
        case measure => simp [intOf]; omega
    · have HA : Hid ((ls.map (·.l)).all okP = true) := Lib.hid (by
        have := HD.out
        rwa [List.take_of_length_le (by rw [List.length_map]; omega)] at this)
      clear HD
      obtain ⟨w1, hw1⟩ : ∃ w1, wr.alloc (.map #[] 0) = w1 := ⟨_, rfl⟩
      have hB1 : Below wr.heap.size wr w1 := hw1 ▸ (Below.refl _ wr).alloc (Nat.le_refl _) _
      have hown1 : w1.ownsMap Tryz.prog 9 heldV wr.heap.size 0 (.map []) := hw1 ▸ World.ownsMap_made wr _ _ _
      have HO1 := Lib.hid hown1
      have hB0 := hB
      have HW1 := Lib.hid hw1
      have hw1s : wr.heap.size < w1.heap.size := hown1.lt
      have hmbw : w.heap.size ≤ wr.heap.size := hB0.size
      have HBW : Hid (Below w.heap.size w w1) := Lib.hid (hB.trans (hB1.mono hB.size))
      clear hown1 hw1
      go_wp2
      rw [HW1.out]
      clear hB1
      generalize hmb : wr.heap.size = mb at *
      clear hmb hB hB0
      go_loopw [30] (fun i W => ∃ (k N : Nat) (D : Dh), k ≤ ls.length ∧ i = .int .i64 k ∧ N ≤ 8 * k ∧ Hid (W.ownsMap Tryz.prog 9 heldV mb N D) ∧ Hid (MapPr D (overL ((ls.map (·.l)).take k))) ∧ (overL ((ls.map (·.l)).take k)).length ≤ 8 ∧ Hid (Below mb w1 W)) (fun i _ => ls.length - (intOf i).toNat)
      case atStart => exact ⟨0, 0, .map [], Nat.zero_le _, rfl, Nat.zero_le _, HO1, Lib.hid MapPr.empty, by simp [overL], Lib.hid (Below.refl _ _)⟩
      case round =>
        obtain ⟨k, N, D, hk, rfl, hN, HM, HI, h8, HB⟩ := hrel
        have hrise := overL_rise ((ls.map (·.l)).take k)
        by_cases hlt : k < ls.length
        · obtain ⟨s, hs⟩ : ∃ s, ls[k]? = some s := ⟨ls[k], qZa hlt⟩
          have hBw := HBW.out.trans (HB.out.mono hmbw)
          obtain ⟨b, off, rfl, hb, hc0⟩ := (HR.out.below hBw).at_ hs
          obtain ⟨hrs, hls, hfs⟩ := HR.out.each s (List.mem_of_getElem? hs)
          have hs8 : s.l.length ≤ 8 := okP_len (List.all_eq_true.1 HA.out _ (List.mem_map_of_mem (List.mem_of_getElem? hs)))
          have HT : Hid (overL ((ls.map (·.l)).take (k + 1)) = overP (overL ((ls.map (·.l)).take k)) s.l) := Lib.hid (by rw [takeMap _ hs, overL_snoc])
          have HLE := Lib.hid (overL_len (ls.map (·.l)) (k + 1))
          have HRS := Lib.hid hrs
          have HFS := Lib.hid hfs
          clear hs hrs hfs hls
          obtain ⟨B, l, d⟩ := s
          dsimp only at hs8 hc0 HT HRS HFS
          generalize overL ((ls.map (·.l)).take k) = M0 at *
          go_wp2
          go_loopw [36] (fun i W => ∃ (j N' : Nat) (D' : Dh), j ≤ l.length ∧ i = .int .i64 j ∧ N' ≤ 8 * k + j ∧ Hid (W.ownsMap Tryz.prog 9 heldV mb N' D') ∧ Hid (MapPr D' (overP M0 (l.take j))) ∧ Hid (Below mb w1 W)) (fun i _ => l.length - (intOf i).toNat)
          case atStart => exact ⟨0, N, D, Nat.zero_le _, rfl, by omega, HM, Lib.hid (by simpa [overP] using HI.out), HB⟩
          case round =>
            obtain ⟨j, N', D', hj, rfl, hN', HM', HI', HB'⟩ := hrel
            have hBw' := HBW.out.trans (HB'.out.mono hmbw)
            by_cases hlt' : j < l.length
            · obtain ⟨x, hx⟩ : ∃ x, l[j]? = some x := ⟨l[j], qZa hlt'⟩
              obtain ⟨b', off', rfl, hb', hc1, hc2⟩ := (HRS.out.below hBw').pr hx
              have hxk : x.1.size ≤ maxLen := by unfold maxLen; have := (HFS.out x (List.mem_of_getElem? hx)).1; omega
              have HPUT : Hid (MapPr (D'.put (bKey x.1) (.held (prV x))) (overP M0 (l.take (j + 1)))) := Lib.hid (by
                rw [overP_snoc _ hx]
                exact HI'.out.put (overP_rise hrise _) x)
              have hmw : mb ≤ wr.heap.size := Nat.le_trans (Nat.le_of_lt hw1s) HB'.out.size
              have HMA := Lib.hid (HM'.out.alloc (.cells #[.string x.1, .string x.2] 105))
              have HBA : Hid (Below mb w1 (wr.alloc (.cells #[.string x.1, .string x.2] 105))) := Lib.hid (HB'.out.alloc hmw _)
              have HKEY := Lib.hid (keyT hxk)
              clear hx HI' hxk
              obtain ⟨x1, x2⟩ := x
              dsimp only at *
              go_wp2_with (at_mapUpdate; refine wpList_mapUpdate_own _ rfl _ _ _ 182 rfl 9 105 keyedT Tryz.underlying182 heldV mb N' D' rfl HMA.out (by unfold maxLen; omega) _ _ _ rfl rfl HKEY.out (.held (prV (x1, x2))) [] rfl ?_; intro w10 hown10 hgrow10)
              have HB10 : Hid (Below mb w1 w10) := Lib.hid (HBA.out.grown hgrow10 (by simp; omega) (fun j e => by cases e; exact Nat.le_refl _))
              have HO10 := Lib.hid hown10
              clear hown10 hgrow10
              go_roundw
              case rel => exact ⟨j + 1, N' + 1, _, by omega, by go_num, by omega, HO10, HPUT, HB10⟩
              case measure => simp [intOf]; omega
            · obtain rfl : j = l.length := by omega
              have HI2 : Hid (MapPr D' (overP M0 l)) := Lib.hid (by have := HI'.out; rwa [List.take_length] at this)
              have hsz := (mapPr_keys HM'.out HI2.out (overP_rise hrise _)).2
              rw [HT.out] at HLE
              clear HI'
              generalize overP M0 l = M1 at *
              have hlen : Sem.run Tryz.prog (Builtin.len_ #[182] 3 #[.map (some mb)]) wr = .ok (.int .i64 (M1.length : Int)) wr := by
                rw [← hsz]
                exact HM'.out.len Tryz.underlying182 _
              clear hsz
              by_cases h9 : 8 < M1.length
              · have HE3 : Hid (E = 3) := Lib.hid (by
                  rw [← HE.out]
                  unfold overE
                  rw [if_neg (by rw [HA.out]; exact Bool.noConfusion), if_pos (Nat.lt_of_lt_of_le h9 HLE.out)])
                have HU0 : Hid (U = []) := Lib.hid (by rw [HU.out, if_neg (by rw [HE3.out]; omega)])
                clear HLE
                go_wp2
                go_ret2
                rw [HE3.out, HU0.out]
                exact ⟨_, rfl, ownNone _ _ _ _, hBw'⟩
              · clear HLE
                have h9' : M1.length ≤ 8 := by omega
                go_wp2
                go_roundw
                case rel => exact ⟨k + 1, N', D', by omega, by go_num, by omega, HM', Lib.hid (by rw [HT.out]; exact HI2.out), by rw [HT.out]; exact h9', HB'⟩
                case measure => simp [intOf]; omega
        · obtain ⟨M, hM⟩ : ∃ M, overL (ls.map (·.l)) = M := ⟨_, rfl⟩
          have hMk : overL ((ls.map (·.l)).take k) = M := by rw [List.take_of_length_le (by rw [List.length_map]; omega), hM]
          rw [hMk] at HI h8 hrise
          have HE0 : Hid (E = 0) := Lib.hid (by
            rw [← HE.out]
            unfold overE
            rw [if_neg (by rw [HA.out]; exact Bool.noConfusion), if_neg (by rw [hM]; omega)])
          have HU0 : Hid (U = M) := Lib.hid (by rw [HU.out, if_pos HE0.out, hM])
          have HMS : Hid (∀ x ∈ M, x.1.size ≤ 140737488351232 ∧ x.2.size ≤ 140737488351232) := Lib.hid (by
            intro x hx
            rw [← hM] at hx
            obtain ⟨l, hl, hx⟩ := overL_mem hx
            obtain ⟨s, hs, rfl⟩ := List.mem_map.1 hl
            exact (HR.out.each s hs).2.2 x hx)
          have hBw := HBW.out.trans (HB.out.mono hmbw)
          have HS := Lib.hid (sortedS_any HM.out HI.out hrise (by omega))
          clear hM hMk
          go_wp2_with fail
          refine (keysS_any _ _).mono ?_
          rintro e w2 ⟨rfl, rfl⟩
          go_wp2_with fail
          refine HS.out.mono ?_
          rintro e w3 ⟨A3, c3, rfl, hrd3, hB3⟩
          have hmbl := HM.out.lt
          have HM3 : Hid (w3.ownsMap Tryz.prog 9 heldV mb N D) := Lib.hid (ownMap_block HM.out (hB3.block mb hmbl))
          have hmb3 : mb < w3.heap.size := HM3.out.lt
          have hBw3 : Below w.heap.size w w3 := hBw.trans (hB3.mono hBw.size)
          have HRD := Lib.hid hrd3
          clear hrd3 HS HM
          go_wp2
          go_loopw [12, 53] (fun v i W => ∃ j : Nat, j ≤ M.length ∧ i = .int .i64 j ∧ Hid (ownP W w3.heap.size v (M.take j)) ∧ Hid (Below w3.heap.size w3 W)) (fun _ i _ => M.length - (intOf i).toNat)
          case atStart => exact ⟨0, Nat.zero_le _, rfl, Lib.hid (ownNone _ _ _ _), Lib.hid (Below.refl _ _)⟩
          case round =>
            obtain ⟨j, hj, rfl, HO, HB4⟩ := hrel
            obtain ⟨Av, cv, hv, _, _, _, _⟩ := ownAny HO.out
            subst hv
            by_cases hlt' : j < M.length
            · obtain ⟨x, hx⟩ : ∃ x, M[j]? = some x := ⟨M[j], qZa hlt'⟩
              have hxn : (M.map fun p => Value.string p.1)[j]? = some (.string x.1) := by rw [List.getElem?_map, hx]; rfl
              obtain ⟨b, off, rfl, hb, hcc⟩ := (HRD.out.below HB4.out) (by intro e; rw [e] at hxn; simp at hxn)
              have hc0 := hcc _ _ hxn
              obtain ⟨hx1, hx2⟩ := HMS.out x (List.mem_of_getElem? hx)
              have HM4 := ownMap_block HM3.out (HB4.out.block mb hmb3)
              have hlk := mapPr_look HM4 HI.out (k := x.1) (by unfold maxLen; omega)
              have hpa : prAt M x.1 = prV x := by unfold prAt; rw [getP_of hrise (List.mem_of_getElem? hx)]
              rw [hpa] at hlk
              have HTK : Hid (M.take (j + 1) = M.take j ++ [x]) := Lib.hid (by rw [List.take_add_one, hx]; rfl)
              have HC := Lib.hid (copied_any x (by omega) (by omega) wr)
              have hs4 := HB4.out.size
              have hml : (M.take j).length ≤ 8 := by rw [List.length_take]; omega
              clear hxn hcc hx HM4 hpa
              generalize M.take j = mj at *
              go_wp2_with fail
              refine HC.out.mono ?_
              rintro e w5 ⟨rfl, hB5⟩
              have HO5 := Lib.hid (ownBelow HO.out hB5 (Nat.le_refl _))
              have hB35 : Below w3.heap.size w3 w5 := HB4.out.trans (hB5.mono hs4)
              have hs5 := hB35.size
              clear hlk
              go_wp2_with (at_builtin; refine wpList_append_lies _ rfl _ _ 47 rfl w3.heap.size 105 i0 (.agg #[.string ByteArray.empty, .string ByteArray.empty]) 2 32 Tryz.underlying47 hi hz0 hz1 hz2 rfl (by decide) (.slice Av mj.length cv) mj.length (prs mj) rfl (ownBelow HO5.out ((Below.refl _ _).alloc (Nat.le_refl _) _) (Nat.le_refl _)) ⟨w5.heap.size, 0, none⟩ 1 1 [.string x.1, .string x.2] rfl rfl (newsNew _ _ _) (by simp [Value.oneCell']) (by omega) (by unfold maxLen; omega) (by omega) (by simp; omega) _ rfl ?_
                           intro g6 c6 x6 ho6 hg6 _ _
                           have HB6 : Hid (Below w3.heap.size w3 x6) := Lib.hid ((hB35.alloc hs5 _).grown hg6 (by simp; omega) (fun j e => (HO5.out.lt j e).1))
                           have HO6 : Hid (ownP x6 w3.heap.size (.slice (some ⟨g6, 0, none⟩) (mj.length + 1) c6) (M.take (j + 1))) := Lib.hid (by rw [HTK.out]; exact ownP_snoc ho6)
                           clear ho6 hg6)
              go_roundw
              case rel => exact ⟨j + 1, by omega, by go_num, HO6, HB6⟩
              case measure => simp [intOf]; omega
            · obtain rfl : j = M.length := by omega
              have HO' : Hid (ownP wr w3.heap.size (.slice Av (M.take M.length).length cv) M) := Lib.hid (by have := HO.out; rw [List.take_length] at this ⊢; exact this)
              clear HO
              go_wp2
              go_ret2
              rw [HE0.out, HU0.out]
              exact ⟨_, rfl, ownBase HO'.out hBw3.size, hBw3.trans (HB4.out.mono hBw3.size)⟩
end Go.Proofs.YtoabkbnhdekbdaaGreat
