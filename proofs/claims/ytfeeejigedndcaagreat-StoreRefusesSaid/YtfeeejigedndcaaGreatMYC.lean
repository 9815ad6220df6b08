/-
  commit: a store of other objects, or a fault. Conditions: the lists are as they come in, an index of less than 2^44 sectors.
-/
import Derived.Test.YtfeeejigedndcaaGreatMQS
import Derived.Test.YtfeeejigedndcaaGreatMYK
import Derived.Test.YtfeeejigedndcaaGreatMQG
namespace Go.Proofs.YtfeeejigedndcaaGreat
open Go.ChangeShapes Go.WideShapes Go.ChangeAt Go.RowKit Go.Maps
set_option maxRecDepth 100000

/-- A commit that went well. -/
def CmtOk (s : PS) (lp : List PO) (e : Ending) (w w' : World) : Prop :=
  ∃ (U : St) (A : Option Addr) (c : Nat) (l : List Ac), e = .returned (stepval U.dev U.u.t U.u.f U.u.o U.O U.os.length U.oc U.I U.is.length U.ic A l.length c) ∧ Committed s lp U.st (l.map Ac.st) ∧ U.Lies w.heap.size w' ∧ U.Fits ∧ RdF w.heap.size w' A (acCells l) ∧ (∀ a ∈ l, RdF w.heap.size w' a.p.A (ocl a.p.zs)) ∧ l.length ≤ c ∧ U.dev.Caps
/-- What a commit comes to. -/
def CmtRes (s : PS) (lp : List PO) (e : Ending) (w w' : World) : Prop :=
  (¬ s.ok ∧ e = flt 9) ∨ (s.ok ∧ objE lp ≠ 0 ∧ e = flt (objE lp)) ∨ (s.ok ∧ objE lp = 0 ∧ (65536 < idxSize lp ∧ e = flt 5 ∨ s.u.t = 1099511627776 ∧ e = flt 15 ∨ Full s lp ∧ e = flt 17)) ∨ (s.ok ∧ objE lp = 0 ∧ CmtOk s lp e w w')

/-- The octets of the index. -/
abbrev IDX (ys : List Ob) : List Int := wr (idxT (ys.map Ob.st))
theorem infoObj : (Tryz.prog.info? 58).map (fun i => (i.zero, i.size, i.bytes)) = some (some (.agg #[.string ByteArray.empty, .slice none 0 0, .slice none 0 0]), 3, 64) := by kernel_rfl

set_option maxHeartbeats 4000000 in
theorem commit_any (s : St) (hf : s.Fits) (A : Option Addr) (c : Nat) (ls : List Ob) (hls : ls.length ≤ 4398046511104) (hlf : ∀ o ∈ ls, o.Fits) (w : World) (hL : s.Lies 0 w) (hr : Rd w A (obCells ls)) (hrd : ∀ o ∈ ls, Rd w o.d.A (octCells o.d.zs)) :
    Calls Tryz.prog 26 #[s.val, .slice A ls.length c] w fun e w' => CmtRes s.st (ls.map Ob.st) e w w' ∧ Below w.heap.size w w' := by
  have HCK := Lib.hid (fun w h => storeCheck_any s hf w h)
  have HOB := Lib.hid (fun w h => checkObjects_any A c ls hls (fun o ho => ⟨(hlf o ho).k, (hlf o ho).d⟩) w h)
  have HF := Lib.hid hf
  have HL := Lib.hid hL
  have HLF := Lib.hid hlf
  have HR := Lib.hid hr
  have HRD := Lib.hid hrd
  obtain ⟨sp, hsp⟩ : ∃ sp, s.st = sp := ⟨_, rfl⟩
  obtain ⟨lp, hlp⟩ : ∃ lp, ls.map Ob.st = lp := ⟨_, rfl⟩
  have hdn : s.st.dev.secs.length = s.dev.ps.length := by simp [St.st, Dv.st]
  have hdw : s.st.dev.waits = s.dev.ws.map Wt.st := rfl
  have hsec : s.st.secs = flatNs s.os ++ s.is := st_secs s
  have hspu : s.st.u = s.u := rfl
  have hspo : s.st.os = s.os.map Ob.st := rfl
  have hspd : s.st.dev = s.dev.st := rfl
  rw [hsp] at hdn hdw hsec hspu hspo hspd HCK ⊢
  rw [hlp] at HOB ⊢
  have HSP := Lib.hid hsp
  have HLP := Lib.hid hlp
  have HDN := Lib.hid hdn
  have HDW := Lib.hid hdw
  have HSEC := Lib.hid hsec
  have HSPU := Lib.hid hspu
  have HSPO := Lib.hid hspo
  have HSPD := Lib.hid hspd
  have HNW : Hid (∀ w, s.Lies 0 w → sp.ok → Calls Tryz.prog 52 #[s.val] w fun e w' => ∃ X F d mb n D, e = .returned (.pointer (some ⟨X, 0, none⟩)) ∧ WrAt w.heap.size X w' F (freeL s.dev.ps.length (flatNs s.os ++ s.is)) d mb n D s.os (.slice none 0 0) [] ∧ Below w.heap.size w w') := Lib.hid fun w hl hok => by
    have hch := hok.secs
    rw [hdn, hsec] at hch
    obtain ⟨⟨h1, h2⟩, h3, h4⟩ := chk_ok.1 hch
    have hlen : (flatNs s.os ++ s.is).length ≤ 8192 := by
      have := length_free h3 h4
      omega
    have hk := (objE_keys hok.os).2
    rw [hspo] at hk
    have hk2 := List.pairwise_map.1 hk
    exact newWriter_any s hf hch (by omega) hk2 w hl
  clear hf hL hlf hr hrd hsp hlp hdn hdw hsec hspu hspo hspd
  obtain ⟨⟨dA, ps, dc, B, ws, dd⟩, ⟨t, f, o⟩, O, os, oc, I, is, ic⟩ := s
  dsimp only [St.val, Dv.val, dval, Ub.val] at *
  obtain ⟨w1, hw1⟩ : ∃ w1, (w.alloc (.cells #[.slice dA ps.length dc, .slice B ws.length dd, .int .i64 t, .int .i64 f, .int .i64 o, .slice O os.length oc, .slice I is.length ic] 32)).alloc (.cells #[.slice none 0 0, .slice none 0 0, .int .i64 0, .int .i64 0, .int .i64 0, .slice none 0 0, .slice none 0 0, .slice none 0 0] 65) = w1 := ⟨_, rfl⟩
  have e1 : w1 = allocs w [([.slice dA ps.length dc, .slice B ws.length dd, .int .i64 t, .int .i64 f, .int .i64 o, .slice O os.length oc, .slice I is.length ic], 32), ([.slice none 0 0, .slice none 0 0, .int .i64 0, .int .i64 0, .int .i64 0, .slice none 0 0, .slice none 0 0, .slice none 0 0], 65)] := by rw [← hw1]; rfl
  have hB1 : Below w.heap.size w w1 := by rw [e1]; exact allocs_below _ _
  have kx : Blk w1 w.heap.size 32 [.slice dA ps.length dc, .slice B ws.length dd, .int .i64 t, .int .i64 f, .int .i64 o, .slice O os.length oc, .slice I is.length ic] := by rw [e1]; exact allocs_blk _ w 0 rfl
  have kr : Blk w1 (w.heap.size + 1) 65 [.slice none 0 0, .slice none 0 0, .int .i64 0, .int .i64 0, .int .i64 0, .slice none 0 0, .slice none 0 0, .slice none 0 0] := by rw [e1]; exact allocs_blk _ w 1 rfl
  have HW1 := Lib.hid hw1
  have HKX := Lib.hid kx
  have HKR := Lib.hid kr
  have hlt1 := kr.lt
  have hc0 := blk7 kx
  clear e1 hw1 kr kx
  obtain ⟨x0, x1, x2, x3, x4, x5, x6⟩ := hc0
  go_enter Tryz.func26, Tryz.ntmps26
  go_wp2_with fail
  rw [HW1.out]
  refine (HCK.out w1 (HL.out.below hB1)).mono ?_
  rintro e w2 ⟨r, rfl, hr, hB2⟩
  have hB02 := hB1.trans (hB2.mono hB1.size)
  have hr9 : r = 0 ∨ r = 9 := by rcases hr with h | h <;> simp [h.1]
  have HRO : Hid ((r = 0 → sp.ok) ∧ (r = 9 → ¬ sp.ok)) := Lib.hid ⟨fun h0 => by rcases hr with h | h; exact h.2; omega, fun h0 => by rcases hr with h | h; omega; exact h.2⟩
  clear hr
  rcases hr9 with rfl | rfl
  rotate_left
  · have HNO := Lib.hid (HRO.out.2 rfl)
    go_wp2_with fail
    refine (must_no 9 (by decide) w2).mono ?_
    rintro e w3 ⟨rfl, rfl⟩
    exact ⟨rfl, .inl ⟨HNO.out, rfl⟩, hB02⟩
  have HOK := Lib.hid (HRO.out.1 rfl)
  go_wp2_with fail
  refine (must_ok w2).mono ?_
  rintro e w2' ⟨rfl, rfl⟩
  go_wp2_with fail
  refine (HOB.out w2 (HR.out.below hB02)).mono ?_
  rintro e w3 ⟨rfl, hB3⟩
  have hB03 := hB02.trans (hB3.mono hB02.size)
  have hB13 := hB2.trans (hB3.mono hB2.size)
  by_cases hob : objE lp = 0
  rotate_left
  · go_wp2_with fail
    refine (must_no (objE lp) hob w3).mono ?_
    rintro e w4 ⟨rfl, rfl⟩
    exact ⟨rfl, .inr (.inl ⟨HOK.out, hob, rfl⟩), hB03⟩
  rw [hob]
  go_wp2_with fail
  refine (must_ok w3).mono ?_
  rintro e w3' ⟨rfl, rfl⟩
  have HOE := Lib.hid hob
  have HOL : Hid (ls.length ≤ 256 ∧ ∀ x ∈ ls, x.key.size ≤ 96 ∧ x.d.zs.length ≤ 65536) := Lib.hid (by
    obtain ⟨i1, i2, i3⟩ := objE_ok hob
    have i4 := (objE_keys hob).1
    rw [← HLP.out] at i1 i3 i4
    exact ⟨by simpa using i1, fun x hx => ⟨(i4 x.st (List.mem_map.2 ⟨x, hx, rfl⟩)).1, i3 x.st (List.mem_map.2 ⟨x, hx, rfl⟩)⟩⟩)
  have hl256 := HOL.out.1
  have HIS := Lib.hid (fun w h => indexSize_any A c ls (by omega) (fun o ho => ⟨by have := (HOL.out.2 o ho).1; omega, by have := (HOL.out.2 o ho).2; omega⟩) w h)
  rw [HLP.out] at HIS
  clear hob
  go_wp2_with fail
  refine (HIS.out w3 (HR.out.below hB03)).mono ?_
  rintro e w4 ⟨rfl, hB4⟩
  have hB04 := hB03.trans (hB4.mono hB03.size)
  have hB14 := hB13.trans (hB4.mono hB13.size)
  obtain ⟨x0, x1, x2, x3, x4, x5, x6⟩ := blk7 (HKX.out.below hB14 HKX.out.lt)
  by_cases hbig : 65536 < idxSize lp
  · have hbig' : (65536 : Int) < (idxSize lp : Int) := by omega
    go_wp2_with fail
    refine (fail_any 5 w4).mono ?_
    rintro e w5 ⟨rfl, rfl⟩
    exact ⟨rfl, .inr (.inr (.inl ⟨HOK.out, HOE.out, .inl ⟨hbig, rfl⟩⟩)), hB04⟩
  have hbig' : ¬ (65536 : Int) < (idxSize lp : Int) := by omega
  by_cases htx : t = 1099511627776
  · go_wp2_with fail
    refine (fail_any 15 w4).mono ?_
    rintro e w5 ⟨rfl, rfl⟩
    exact ⟨rfl, .inr (.inr (.inl ⟨HOK.out, HOE.out, .inr (.inl ⟨by rw [HSPU.out]; exact htx, rfl⟩)⟩)), hB04⟩
  go_wp2_with fail
  refine (HNW.out w4 (HL.out.below hB04) HOK.out).mono ?_
  rintro e w5 ⟨X, F, d, mb, n, D, rfl, hwr, hB5⟩
  have hB05 := hB04.trans (hB5.mono hB04.size)
  have hB15 := hB14.trans (hB5.mono hB14.size)
  obtain ⟨x0, x1, x2, x3, x4, x5, x6⟩ := blk7 (HKX.out.below hB15 HKX.out.lt)
  have hu1 := (Ub.ok_iff.1 (HSPU.out ▸ HOK.out.u))
  have ht0 : 1 ≤ t := hu1.1
  have ht1 : t ≤ 1099511627776 := hu1.2.1
  have hwt : wrap64 (t + 1) = t + 1 := IntWalk.wrap64_in _ (by omega)
  clear hu1
  go_wp2
  obtain ⟨i0, hi, hz0, hz1, hz2⟩ := dinfo_parts infoObj
  obtain ⟨fr0, hfr0⟩ : ∃ fr0, freeL ps.length (flatNs os ++ is) = fr0 := ⟨_, rfl⟩
  rw [hfr0] at hwr
  have HFR0 := Lib.hid hfr0
  have hps : ps.length ≤ 8192 := by have := HOK.out.dev.2.1; rw [HDN.out] at this; exact this
  have hfl0 : fr0.length ≤ 8192 := by rw [← hfr0]; have := length_free_le ps.length (flatNs os ++ is); omega
  have HFR8 : Hid (∀ z ∈ fr0, 2 ≤ z ∧ z < ps.length) := Lib.hid (by rw [← hfr0]; exact fun z hz => (mem_free.1 hz).1)
  have hX5 := hwr.pl.blk.lt
  have hXb := hwr.bX
  obtain ⟨w6, hw6⟩ : ∃ w6, w5.alloc (.cells #[.slice none 0 0, .slice none 0 0, .int .i64 (t + 1), .int .i64 0, .int .i64 (ls.length : Int), .slice none 0 0, .slice none 0 0] 32) = w6 := ⟨_, rfl⟩
  have hB56 : Below w5.heap.size w5 w6 := hw6 ▸ (Below.refl _ _).alloc (Nat.le_refl _) _
  have kY6 : Blk w6 w5.heap.size 32 (outCells (t + 1) 0 ls.length (.slice none 0 0) (.slice none 0 0)) := hw6 ▸ Blk.new w5 _ _
  have HJ6 : Hid (CJ w4.heap.size X w5.heap.size w6 (t + 1) ls.length F fr0 d mb n D os (.slice none 0 0) [] (.slice none 0 0) []) := Lib.hid ⟨hwr.away (T := 0) (Away.of_below hB56) (hB56.mono (Nat.le_of_lt hX5)) (by decide) (by decide) (by decide), kY6, own_none' _ _ _ _, fun y hy => (by cases hy), fun y hy => (by cases hy), hX5⟩
  have HP6 : Hid (Placing sp.os fr0 (lp.take 0) (([] : List Ob).map Ob.st) fr0 (([] : List Ac).map Ac.st)) := Lib.hid (by rw [List.take_zero]; exact .nil)
  have hB6 : Below X w5 w6 := hB56.mono (Nat.le_of_lt hX5)
  rw [hw6]
  clear hw6 hB56 kY6 hfr0 hwr
  go_loopw [36] (fun i W => ∃ (k : Nat) (F : Option Addr) (fr : List Int) (d : Nat) (v : Value) (l : List Ac) (vO : Value) (ys : List Ob), k ≤ ls.length ∧ i = .int .i64 k ∧ Hid (CJ w4.heap.size X w5.heap.size W (t + 1) ls.length F fr d mb n D os v l vO ys) ∧ Hid (Placing sp.os fr0 (lp.take k) (ys.map Ob.st) fr (l.map Ac.st)) ∧ Below X w5 W) (fun i _ => ls.length - (intOf i).toNat)
  case atStart => exact ⟨0, F, fr0, d, _, _, _, _, Nat.zero_le _, rfl, HJ6, HP6, hB6⟩
  case round =>
    obtain ⟨k, F, fr, d, v, l, vO, ys, hk, rfl, HJ, HP, hBX⟩ := hrel
    have hB4w : Below w4.heap.size w4 wr := hB5.trans (hBX.mono hXb)
    have hB0w : Below w.heap.size w wr := hB04.trans (hB4w.mono hB04.size)
    have hX : X < wr.heap.size := HJ.out.wr.pl.blk.lt
    have hYw : w5.heap.size < wr.heap.size := HJ.out.box.lt
    have hlen : l.length + fr.length = fr0.length := by
      have := (HP.out.facts HOK.out.at_).2.2.2.1
      simpa using this
    have HYL : Hid (ys.length = k) := Lib.hid (by
      have := HP.out.length
      rw [List.length_map, List.length_take, ← HLP.out, List.length_map] at this
      omega)
    have hyl : ys.length ≤ 256 := by have := HYL.out; omega
    by_cases hlt : k < ls.length
    · obtain ⟨x, hx⟩ : ∃ x, ls[k]? = some x := ⟨_, List.getElem?_eq_getElem hlt⟩
      have hxm := List.mem_of_getElem? hx
      obtain ⟨b, off, rfl, hb, hk0, hk1, hk2⟩ := (HR.out.below hB0w).ob hx
      have hxf := HLF.out x hxm
      obtain ⟨hxk, hxd⟩ := HOL.out.2 x hxm
      have HTK : Hid (lp.take (k + 1) = lp.take k ++ [x.st]) := Lib.hid (by rw [List.take_add_one, ← HLP.out, List.getElem?_map, hx]; rfl)
      obtain ⟨w7, hw7⟩ : ∃ w7, wr.alloc (.cells #[.string x.key, x.d.val, .slice x.B x.ns.length x.e] 58) = w7 := ⟨_, rfl⟩
      have hB7 : Below wr.heap.size wr w7 := hw7 ▸ (Below.refl _ _).alloc (Nat.le_refl _) _
      have k7 : Blk w7 wr.heap.size 58 [.string x.key, x.d.val, .slice x.B x.ns.length x.e] := hw7 ▸ Blk.new wr _ _
      have hB47 : Below w4.heap.size w4 w7 := hB4w.trans (hB7.mono hB4w.size)
      have hJ7 := HJ.out.below hB7.drew
      have hxU : RdU X w7.drew x.d.A (octCells x.d.zs) := ((RdU.of (HRD.out x hxm |>.below hB04) (Nat.le_refl w4.heap.size)).belowX hB47.drew).mono hXb
      have hos : ∀ o ∈ os, OldOb X w7.drew o := fun o ho => by
        have hof := HF.out.os o ho
        have hl4 := HL.out.below hB04
        have hat : o.ns.length = cntN o.d.zs.length := HOK.out.at_ o.st (by rw [HSPO.out]; exact List.mem_map.2 ⟨o, ho, rfl⟩)
        have hdl : o.d.zs.length ≤ 65536 := (objE_ok HOK.out.os).2.2 o.st (by rw [HSPO.out]; exact List.mem_map.2 ⟨o, ho, rfl⟩)
        exact ⟨((RdU.of (hl4.data o ho).1 (Nat.le_refl w4.heap.size)).belowX hB47.drew).mono hXb, ((RdU.of (hl4.at_ o ho).1 (Nat.le_refl w4.heap.size)).belowX hB47.drew).mono hXb, hof.octs, by rw [hat]; unfold cntN; omega, hof.en⟩
      have hks : os.Pairwise fun a b => a.key ≠ b.key := by
        have h1 := (objE_keys HOK.out.os).2
        rw [HSPO.out] at h1
        have h2 := List.pairwise_map.1 h1
        exact h2
      have HOBJ := Lib.hid (object_any w4.heap.size X F fr d mb n D os v l (by omega) (by omega) x hxk hxd hxf.dc hxf.dn hxf.octs w7.drew hJ7.wr hxU hos hks)
      have HJ7 := Lib.hid hJ7
      have HS7 : Hid (w7.drew.cell? ⟨w5.heap.size, 5, none⟩ = some vO ∧ w7.drew.cell? ⟨wr.heap.size, 0, none⟩ = some (.string x.key) ∧ w7.drew.cell? ⟨wr.heap.size, 1, none⟩ = some x.d.val ∧ w7.drew.cell? ⟨wr.heap.size, 2, none⟩ = some (.slice x.B x.ns.length x.e)) := Lib.hid ⟨hJ7.box.cell 5, blk3' k7.drew⟩
      have HK7 := Lib.hid k7.drew
      have HW7 := Lib.hid hw7
      have hB07 : Below w.heap.size w w7 := hB0w.trans (hB7.mono hB0w.size)
      have hX7 : X < w7.heap.size := Nat.lt_of_lt_of_le hX hB7.size
      have hBX7 : Below X w5 w7.drew := hBX.trans (hB7.drew.mono (Nat.le_of_lt hX))
      by_cases hno : ObjNo fr os x
      · have HFU : Hid (Full sp lp) := Lib.hid (by
          have h1 := hno.2
          have h2 := HP.out.writes
          have h3 := congrArg pgSum HTK.out
          have h4 := pgSum_take lp (k + 1)
          have h5 : pgSum [x.st] = cntN x.d.zs.length := by simp [pgSum]
          rw [pgSum_append, h5] at h3
          rw [List.length_map] at h2
          unfold Full need
          rw [HDN.out, HSEC.out, HFR0.out]
          omega)
        have HON : Hid (Calls Tryz.prog 53 #[.pointer (some ⟨X, 0, none⟩), x.val] w7.drew fun e w' => e = flt 17 ∧ Below w7.drew.heap.size w7.drew w') := Lib.hid (HOBJ.out.mono fun e w' h => by
          rcases h with ⟨y, he, hy⟩ | ⟨he, _, hB⟩
          · exfalso
            obtain ⟨_, _, _, _, F', fr', d', v', new, _, _, h2⟩ := hy
            rcases h2 with ⟨o, ho, h3, h4, _⟩ | ⟨_, h3, _⟩
            · exact hno.1 o ho h3 h4
            · have := hno.2; omega
          · exact ⟨he, hB⟩)
        clear HOBJ hx hxm hxf hxk hxd HTK hw7 k7 hJ7 hxU hos hks hno
        obtain ⟨key, ⟨xA, zs, xc⟩, xB, ns, xe⟩ := x
        dsimp only at *
        go_wp2
        rw [HW7.out]
        refine wp_region_last 8 (fun W => W.cell? ⟨w5.heap.size, 5, none⟩ = some vO ∧ W.cell? ⟨wr.heap.size, 0, none⟩ = some (.string key) ∧ W.cell? ⟨wr.heap.size, 1, none⟩ = some (.slice xA zs.length xc) ∧ W.cell? ⟨wr.heap.size, 2, none⟩ = some (.slice xB ns.length xe)) (by kernel_rfl) HS7.out (fun hHeld => ?_)
        refine wpAnyL_take 12 (i := 0) (oi := ⟨some 40, _, _, _, _, _⟩) (v := ?_) rfl (by kernel_rfl) (by kernel_rfl) (by kernel_rfl) (by kernel_rfl) (by kernel_rfl) (by kernel_rfl) (by kernel_rfl) (fun _ _ _ h => h) (Or.inl ⟨by rfl, ?_⟩) hHeld ?_
        rotate_left
        focus (intro w hSw; (try dsimp only at hSw); go_simp; try (with_reducible rfl))
        try simp only [Act.put, List.setIfInBounds_toArray, List.set_cons_zero, List.set_cons_succ]
        refine wpAnyL_take 12 (i := 1) (oi := ⟨some 41, _, _, _, _, _⟩) (v := ?_) rfl (by kernel_rfl) (by kernel_rfl) (by kernel_rfl) (by kernel_rfl) (by kernel_rfl) (by kernel_rfl) (by kernel_rfl) (fun _ _ _ h => h) (Or.inl ⟨by rfl, ?_⟩) hHeld ?_
        rotate_left
        focus (intro w hSw; (try dsimp only at hSw); go_simp; try (with_reducible rfl))
        try simp only [Act.put, List.setIfInBounds_toArray, List.set_cons_zero, List.set_cons_succ]
        refine wpAnyL_take 12 (i := 2) (oi := ⟨some 42, _, _, _, _, _⟩) (v := ?_) rfl (by kernel_rfl) (by kernel_rfl) (by kernel_rfl) (by kernel_rfl) (by kernel_rfl) (by kernel_rfl) (by kernel_rfl) (fun _ _ _ h => h) (Or.inl ⟨by rfl, ?_⟩) hHeld ?_
        rotate_left
        focus (intro w hSw; (try dsimp only at hSw); go_simp; try (with_reducible rfl))
        try simp only [Act.put, List.setIfInBounds_toArray, List.set_cons_zero, List.set_cons_succ]
        refine wpAnyL_take 12 (i := 3) (oi := ⟨some 43, _, _, _, _, _⟩) (v := ?_) rfl (by kernel_rfl) (by kernel_rfl) (by kernel_rfl) (by kernel_rfl) (by kernel_rfl) (by kernel_rfl) (by kernel_rfl) (fun _ _ _ h => h) (Or.inl ⟨by rfl, ?_⟩) hHeld ?_
        rotate_left
        focus (intro w hSw; (try dsimp only at hSw); go_simp; try (with_reducible rfl))
        try simp only [Act.put, List.setIfInBounds_toArray, List.set_cons_zero, List.set_cons_succ]
        refine wpAnyL_one (i := 4) (o := ⟨some 44, _, _, _, _, _⟩) (by kernel_rfl) rfl (fun K hK => ?_)
        clear hHeld
        go_simp
        refine HON.out.mono ?_
        rintro e w8 ⟨rfl, hB8⟩
        exact ⟨rfl, .inr (.inr (.inl ⟨HOK.out, HOE.out, .inr (.inr ⟨HFU.out, rfl⟩)⟩)), hB07.drew.trans (hB8.mono hB07.size)⟩
      · have HOY : Hid (Calls Tryz.prog 53 #[.pointer (some ⟨X, 0, none⟩), x.val] w7.drew fun e w' => ∃ y : Ob, e = .returned y.val ∧ ObjOk w4.heap.size X fr mb n D os l x w7.drew w' y) := Lib.hid (HOBJ.out.mono fun e w' h => by
          rcases h with h | ⟨_, h, _⟩
          · exact h
          · exact absurd h hno)
        have HPS : Hid (∀ y fr' new, y.key = x.key → y.d.zs = x.d.zs → ((∃ o ∈ os, o.key = x.key ∧ o.d.zs = x.d.zs ∧ y.ns = o.ns ∧ fr' = fr ∧ new = []) ∨
     ((∀ o ∈ os, o.key = x.key → o.d.zs ≠ x.d.zs) ∧ cntN x.d.zs.length ≤ fr.length ∧ y.ns = fr.take (cntN x.d.zs.length) ∧ fr' = fr.drop (cntN x.d.zs.length) ∧ new.map Ac.st = (List.range (cntN x.d.zs.length)).map (wact x.d.zs y.ns (List.replicate (cntN x.d.zs.length) 0)))) → Placing sp.os fr0 (lp.take (k + 1)) ((ys ++ [y]).map Ob.st) fr' ((l ++ new).map Ac.st)) := Lib.hid fun y fr' new h1 h2 h3 => by
          rw [HTK.out, HSPO.out]
          have h4 := HP.out
          rw [HSPO.out] at h4
          exact placing_step h4 x y h1 h2 h3
        clear HOBJ hx hxm hxf hxk hxd HTK hw7 k7 hJ7 hxU hos hks hno HP
        obtain ⟨key, ⟨xA, zs, xc⟩, xB, ns, xe⟩ := x
        dsimp only at *
        go_wp2
        rw [HW7.out]
        refine wp_region_noPanic ?_
        refine wp_region_last 8 (fun W => W.cell? ⟨w5.heap.size, 5, none⟩ = some vO ∧ W.cell? ⟨wr.heap.size, 0, none⟩ = some (.string key) ∧ W.cell? ⟨wr.heap.size, 1, none⟩ = some (.slice xA zs.length xc) ∧ W.cell? ⟨wr.heap.size, 2, none⟩ = some (.slice xB ns.length xe)) (by kernel_rfl) HS7.out (fun hHeld => ?_)
        refine wpAnyL_take 12 (i := 0) (oi := ⟨some 40, _, _, _, _, _⟩) (v := ?_) rfl (by kernel_rfl) (by kernel_rfl) (by kernel_rfl) (by kernel_rfl) (by kernel_rfl) (by kernel_rfl) (by kernel_rfl) (fun _ _ _ h => h) (Or.inl ⟨by rfl, ?_⟩) hHeld ?_
        rotate_left
        focus (intro w hSw; (try dsimp only at hSw); go_simp; try (with_reducible rfl))
        try simp only [Act.put, List.setIfInBounds_toArray, List.set_cons_zero, List.set_cons_succ]
        refine wpAnyL_take 12 (i := 1) (oi := ⟨some 41, _, _, _, _, _⟩) (v := ?_) rfl (by kernel_rfl) (by kernel_rfl) (by kernel_rfl) (by kernel_rfl) (by kernel_rfl) (by kernel_rfl) (by kernel_rfl) (fun _ _ _ h => h) (Or.inl ⟨by rfl, ?_⟩) hHeld ?_
        rotate_left
        focus (intro w hSw; (try dsimp only at hSw); go_simp; try (with_reducible rfl))
        try simp only [Act.put, List.setIfInBounds_toArray, List.set_cons_zero, List.set_cons_succ]
        refine wpAnyL_take 12 (i := 2) (oi := ⟨some 42, _, _, _, _, _⟩) (v := ?_) rfl (by kernel_rfl) (by kernel_rfl) (by kernel_rfl) (by kernel_rfl) (by kernel_rfl) (by kernel_rfl) (by kernel_rfl) (fun _ _ _ h => h) (Or.inl ⟨by rfl, ?_⟩) hHeld ?_
        rotate_left
        focus (intro w hSw; (try dsimp only at hSw); go_simp; try (with_reducible rfl))
        try simp only [Act.put, List.setIfInBounds_toArray, List.set_cons_zero, List.set_cons_succ]
        refine wpAnyL_take 12 (i := 3) (oi := ⟨some 43, _, _, _, _, _⟩) (v := ?_) rfl (by kernel_rfl) (by kernel_rfl) (by kernel_rfl) (by kernel_rfl) (by kernel_rfl) (by kernel_rfl) (by kernel_rfl) (fun _ _ _ h => h) (Or.inl ⟨by rfl, ?_⟩) hHeld ?_
        rotate_left
        focus (intro w hSw; (try dsimp only at hSw); go_simp; try (with_reducible rfl))
        try simp only [Act.put, List.setIfInBounds_toArray, List.set_cons_zero, List.set_cons_succ]
        refine wpAnyL_one (i := 4) (o := ⟨some 44, _, _, _, _, _⟩) (by kernel_rfl) rfl (fun K hK => ?_)
        clear hHeld
        go_simp
        refine HOY.out.mono ?_
        rintro e w8 ⟨⟨ykey, ⟨yA, yzs, yc⟩, yB, yns, ye⟩, rfl, hyk, hyd, hyo, hya, F', fr', d', v', new, hwr8, hon8, hway⟩
        dsimp only at hyk hyd hyo hya
        subst ykey
        subst yzs
        have HP8 := Lib.hid (HPS.out ⟨key, ⟨yA, zs, yc⟩, yB, yns, ye⟩ fr' new rfl rfl hway)
        have hJ8 := HJ7.out.only hon8 hwr8
        have HJ8 := Lib.hid hJ8
        have HYO := Lib.hid (own_base hyo (Nat.le_of_lt hX7))
        have HYA := Lib.hid (own_base hya (Nat.le_of_lt hX7))
        have hBX8 : Below X w5 w8 := hBX7.trans hon8.below
        have hX8 : X < w8.heap.size := hJ8.wr.pl.blk.lt
        have hB48 : Below w4.heap.size w4 w8 := (hB47.drew).trans (hon8.below.mono hXb)
        have k8 := hon8.blk HK7.out (by decide) (by decide)
        have hS8 : w8.cell? ⟨w5.heap.size, 5, none⟩ = some vO ∧ w8.cell? ⟨wr.heap.size, 0, none⟩ = some (.string key) ∧ w8.cell? ⟨wr.heap.size, 1, none⟩ = some (.slice xA zs.length xc) ∧ w8.cell? ⟨wr.heap.size, 2, none⟩ = some (.slice xB ns.length xe) := ⟨hJ8.box.cell 5, blk3' k8⟩
        have HK8 := Lib.hid k8
        clear hwr8 hon8 hJ8 k8 hyo hya hway
        go_wp2_with fail
        refine hK.out _ _ hS8 (fun hHeld => ?_)
        clear hK K
        try simp only [Act.put, List.setIfInBounds_toArray, List.set_cons_zero, List.set_cons_succ]
        refine wpAnyL_one (i := 5) (o := ⟨some 45, _, _, _, _, _⟩) (by kernel_rfl) rfl (fun K hK => ?_)
        clear hHeld
        go_simp
        have hB9 : Below w8.heap.size w8 (w8.alloc (.cells #[.string key, .slice yA zs.length yc, .slice yB yns.length ye] 58)) := (Below.refl _ _).alloc (Nat.le_refl _) _
        have hJ9 := HJ8.out.below hB9
        have hS9 : (w8.alloc (.cells #[.string key, .slice yA zs.length yc, .slice yB yns.length ye] 58)).cell? ⟨w5.heap.size, 5, none⟩ = some vO ∧ (w8.alloc (.cells #[.string key, .slice yA zs.length yc, .slice yB yns.length ye] 58)).cell? ⟨wr.heap.size, 0, none⟩ = some (.string key) ∧ (w8.alloc (.cells #[.string key, .slice yA zs.length yc, .slice yB yns.length ye] 58)).cell? ⟨wr.heap.size, 1, none⟩ = some (.slice xA zs.length xc) ∧ (w8.alloc (.cells #[.string key, .slice yA zs.length yc, .slice yB yns.length ye] 58)).cell? ⟨wr.heap.size, 2, none⟩ = some (.slice xB ns.length xe) := ⟨hJ9.box.cell 5, blk3' (HK8.out.below hB9 HK8.out.lt)⟩
        clear hJ9
        go_wp2_with fail
        refine hK.out _ _ hS9 (fun hHeld => ?_)
        clear hK K
        try simp only [Act.put, List.setIfInBounds_toArray, List.set_cons_zero, List.set_cons_succ]
        refine wpAnyL_one (i := 6) (o := ⟨some 46, _, _, _, _, _⟩) (by kernel_rfl) rfl (fun K hK => ?_)
        clear hHeld
        refine step_append_lies (o := ⟨some 46, _, _, _, _, _⟩) _ (by rfl) _ _ 22 (by rfl) X 58 i0 (.agg #[.string ByteArray.empty, .slice none 0 0, .slice none 0 0]) 3 64 Tryz.underlying22 hi hz0 hz1 hz2 rfl (by omega) vO ys.length (obCells ys) (by rfl) (own_below3 HJ8.out.row ((Below.refl _ _).alloc (Nat.le_refl _) _) (Nat.le_refl _)) ⟨w8.heap.size, 0, none⟩ 1 1 [.string key, .slice yA zs.length yc, .slice yB yns.length ye] (by rfl) rfl (news_new _ _ _) (by simp [Value.oneCell']) (by omega) (by unfold maxLen; omega) (by omega) (by simp; omega) _ rfl ?_
        intro g6 c6 w10 ho6 hg6 hg6' hl6
        obtain ⟨hJ11, hB11, hA10⟩ := HJ8.out.push (y := ⟨key, ⟨yA, zs, yc⟩, yB, yns, ye⟩) HYO.out HYA.out ho6 hg6
        have k10 := hA10.blk (HJ8.out.below ((Below.refl _ w8).alloc (Nat.le_refl _) (.cells #[.string key, .slice yA zs.length yc, .slice yB yns.length ye] 58))).box (by decide)
        have hc6 := k10.cell 5
        have hf6 := k10.frozen 5
        have HJ11 := Lib.hid hJ11
        have k8b : Blk w10 wr.heap.size 58 [.string key, .slice xA zs.length xc, .slice xB ns.length xe] := (hg6.block wr.heap.size (by have := HK8.out.lt; simp; omega) (fun e => by have := (HJ.out.row.lt _ e.symm).2; omega)).trans (HK8.out.alloc _)
        have hS10 : w10.cell? ⟨w5.heap.size, 5, none⟩ = some vO ∧ w10.cell? ⟨wr.heap.size, 0, none⟩ = some (.string key) ∧ w10.cell? ⟨wr.heap.size, 1, none⟩ = some (.slice xA zs.length xc) ∧ w10.cell? ⟨wr.heap.size, 2, none⟩ = some (.slice xB ns.length xe) := ⟨k10.cell 5, blk3' k8b⟩
        clear hJ11 ho6 hg6 hA10 k10 k8b
        refine hK.out _ _ hS10 (fun hHeld => ?_)
        clear hK K
        try simp only [Act.put, List.setIfInBounds_toArray, List.set_cons_zero, List.set_cons_succ]
        refine wpAnyL_take 12 (i := 7) (oi := ⟨some 47, _, _, _, _, _⟩) (v := ?_) rfl (by kernel_rfl) (by kernel_rfl) (by kernel_rfl) (by kernel_rfl) (by kernel_rfl) (by kernel_rfl) (by kernel_rfl) (fun _ _ _ h => h) (Or.inl ⟨by rfl, ?_⟩) hHeld ?_
        rotate_left
        focus (intro w hSw; (try dsimp only at hSw); go_simp; try (with_reducible rfl))
        try simp only [Act.put, List.setIfInBounds_toArray, List.set_cons_zero, List.set_cons_succ]
        refine wpAnyL_last (i := 8) (o := ⟨none, _, _, _, _, _⟩) (by kernel_rfl) rfl (by kernel_rfl) (fun K hK => ?_)
        clear hHeld
        go_simp
        go_wp2_with fail
        refine hK.out _ _ ?_
        clear hK K
        try simp only [Act.put, List.setIfInBounds_toArray, List.set_cons_zero, List.set_cons_succ]
        refine wpAnyL_done (by kernel_rfl) ?_ _
        refine NoPanic.normal ?_
        go_wp2
        go_round
        case rel => exact ⟨k + 1, F', fr', d', v', l ++ new, _, ys ++ [⟨key, ⟨yA, zs, yc⟩, yB, yns, ye⟩], by omega, by go_num, HJ11, HP8, hBX8.trans hB11⟩
        case measure => simp [intOf]; omega
    · obtain rfl : k = ls.length := by omega
      have HPL : Hid (Placing sp.os fr0 lp (ys.map Ob.st) fr (l.map Ac.st)) := Lib.hid (by
        have h1 := HP.out
        rw [List.take_of_length_le (by rw [← HLP.out, List.length_map]; exact Nat.le_refl _)] at h1
        exact h1)
      clear HP
      have HYN : Hid (ys.length = ls.length) := HYL
      clear HYL
      obtain ⟨AO, cO, rfl, hcO, hnO, hrO, _⟩ := own_any HJ.out.row
      have HYF : Hid (∀ y ∈ ys, y.key.size ≤ 96 ∧ y.d.zs.length ≤ 65536 ∧ y.ns.length ≤ 1261 ∧ y.ns.length ≤ y.e) := Lib.hid fun y hy => by
        obtain ⟨e1, e2, e3, _, _, _⟩ := HPL.out.facts HOK.out.at_
        have hym : y.st ∈ ys.map Ob.st := List.mem_map.2 ⟨y, hy, rfl⟩
        have h1 : y.key ∈ lp.map (·.key) := e1 ▸ List.mem_map.2 ⟨y.st, hym, rfl⟩
        have h2 : y.d.zs ∈ lp.map (·.data) := e2 ▸ List.mem_map.2 ⟨y.st, hym, rfl⟩
        obtain ⟨p, hp, hp2⟩ := List.mem_map.1 h1
        obtain ⟨q, hq, hq2⟩ := List.mem_map.1 h2
        have h3 := ((objE_keys HOE.out).1 p hp).1
        have h4 := (objE_ok HOE.out).2.2 q hq
        have h5 := e3 y.st hym
        have h6 : y.ns.length = cntN y.d.zs.length := h5
        have h7 : y.d.zs.length ≤ 65536 := by rw [← hq2]; exact h4
        obtain ⟨_, ye, e0, hye, _, _, _⟩ := own_any (HJ.out.at_ y hy)
        have h8 : y.e = ye := by injection e0
        refine ⟨by rw [← hp2]; exact h3, h7, ?_, by omega⟩
        rw [h6]
        unfold cntN
        omega
      obtain ⟨x0, x1, x2, x3, x4, x5, x6⟩ := blk7 HJ.out.box
      have HL8 : Hid (Dv.Lies 0 wr ⟨dA, ps, dc, B, ws, dd⟩) := Lib.hid (HL.out.below hB0w).dev
      have HKXr := Lib.hid (HKX.out.below (hB15.trans (hBX.mono (by have := hB14.size; omega))) HKX.out.lt)
      have HKRr := Lib.hid (HKR.out.below (hB15.trans (hBX.mono (by have := hB14.size; omega))) HKR.out.lt)
      by_cases h0 : ls.length = 0
      case' pos =>
        have hys : ys = [] := List.length_eq_zero_iff.1 (HYN.out.trans h0)
        have HPK : Hid (∃ (f9 : Int) (vs9 : List Value) (v9 : Value) (l9 : List Ac) (AI9 : Option Addr) (ix9 : List Int) (ci9 : Nat) (wi9 : List AcT), CT X w5.heap.size wr (.slice none 0 0) (.slice none 0 0) (t + 1) f9 ls.length vs9 v9 l9 (.slice AO ys.length cO) ys (.slice AI9 ix9.length ci9) ix9 ∧ Indexed fr (ys.map Ob.st) ix9 f9 wi9 ∧ l9.map Ac.st = l.map Ac.st ++ wi9 ∧ Below X w5 wr) := Lib.hid
          ⟨0, _, v, l, none, [], 0, [], ⟨HJ.out.wr.pl, HJ.out.box, HJ.out.row, HJ.out.data, HJ.out.at_, own_none' _ _ _ _, HJ.out.bY⟩, .inl ⟨by rw [hys]; rfl, rfl, rfl, rfl⟩, by simp, hBX⟩
        clear hys
        go_wp2_with fail
        obtain ⟨W9, hW9⟩ : ∃ W9, wr = W9 := ⟨_, rfl⟩
        rw [hW9] at HPK ⊢
        clear hW9
      case' neg =>
        have hpos : (0 : Int) < ls.length := by omega
        have HRO2 : Hid (Rd wr AO (obCells ys)) := Lib.hid hrO.1
        have HRN : Hid (∀ y ∈ ys, RdI wr y.B y.ns) := Lib.hid fun y hy => RdI.of_row (HJ.out.at_ y hy)
        have HFR8k : Hid (∀ z ∈ fr, 0 ≤ z ∧ z < 8192) := Lib.hid fun z hz => by
          obtain ⟨_, _, _, _, ⟨j, e5⟩, _⟩ := HPL.out.facts HOK.out.at_
          rw [e5] at hz
          have := HFR8.out z (List.mem_of_mem_drop hz)
          omega
        have hy0 : ys.map Ob.st ≠ [] := fun e => by
          have h1 := congrArg List.length e
          rw [List.length_map, HYN.out] at h1
          exact h0 h1
        have HY0 := Lib.hid hy0
        have hzl : (IDX ys).length ≤ 65536 := by
          obtain ⟨e1, e2, e3, _, _, _⟩ := HPL.out.facts HOK.out.at_
          have h1 := idx_sum hy0 e3
          rw [one_same e1 e2] at h1
          exact Nat.le_trans (Nat.le_of_eq h1) (by omega)
        clear hy0
        by_cases hfit : cntN (IDX ys).length ≤ fr.length
        rotate_left
        · have HFU : Hid (Full sp lp) := Lib.hid (by
            obtain ⟨e1, e2, e3, e4, _, _⟩ := HPL.out.facts HOK.out.at_
            have h1 := idx_sum HY0.out e3
            rw [one_same e1 e2] at h1
            have h2 := HPL.out.writes
            have h3 : lp ≠ [] := fun e => by rw [← HLP.out] at e; exact h0 (by simpa using e)
            have h4 : ¬ cntN (IDX ys).length ≤ fr.length := hfit
            have h5 : (IDX ys).length = idxSize lp := h1
            rw [h5] at h4
            unfold Full need
            rw [HDN.out, HSEC.out, HFR0.out, if_neg h3]
            omega)
          go_wp2_with fail
          refine (index_no w4.heap.size X F fr d mb n D os v l AO cO ys hyl HYF.out wr HJ.out.wr HRO2.out HRN.out (Nat.lt_of_not_le hfit) (Nat.le_trans hzl (by decide))).mono ?_
          rintro e w8 ⟨rfl, hB8⟩
          exact ⟨rfl, .inr (.inr (.inl ⟨HOK.out, HOE.out, .inr (.inr ⟨HFU.out, rfl⟩)⟩)), hB0w.trans (hB8.mono hB0w.size)⟩
        have HIO := Lib.hid (index_ok w4.heap.size X F fr d mb n D os v l (by omega) HFR8k.out (by omega) AO cO ys hyl HYF.out wr HJ.out.wr HRO2.out HRN.out hfit)
        have hc1 : 1 ≤ cntN (IDX ys).length := by
          have h5 : 2 ≤ (IDX ys).length := by rw [idx_len]; omega
          unfold cntN
          omega
        obtain ⟨cn, hcn⟩ : ∃ cn, cntN (IDX ys).length = cn := ⟨_, rfl⟩
        have HCN := Lib.hid hcn
        unfold IdxOk at HIO
        rw [hcn] at HIO hfit hc1
        clear hcn hzl
        obtain ⟨z0, zr, hz0⟩ : ∃ z0 zr, fr.take cn = z0 :: zr := by
          rcases hq : fr.take cn with _ | ⟨a, b⟩
          · have := congrArg List.length hq
            rw [List.length_take, List.length_nil] at this
            omega
          · exact ⟨a, b, rfl⟩
        have HZ0 := Lib.hid hz0
        clear hz0
        go_wp2_with fail
        refine HIO.out.mono ?_
        rintro e w8 ⟨AI, ci, rfl, F8, d8, v8, new8, hoI, hcI, hwr8, hnew8, hon8⟩
        have hJ8 := HJ.out.only hon8 hwr8
        have hBX8 : Below X w5 w8 := hBX.trans hon8.below
        rcases hoI.2 with ⟨e, _⟩ | ⟨g, cap, cur, e, hgl, hg, hgn, _⟩
        · exfalso
          injection e with _ e2
          omega
        obtain ⟨rfl, rfl⟩ : AI = some ⟨g, 0, none⟩ ∧ ci = cap := by injection e with e1 e2 e3; exact ⟨e1, e3⟩
        have hzc : w8.cell? ⟨g, 0, none⟩ = some (.int .i64 z0) := by
          obtain ⟨_, _, e0, _, _, hrI, _⟩ := own_any hoI
          injection e0 with e1
          rw [← e1] at hrI
          obtain ⟨b9, o9, e9, _, hc9⟩ := hrI.1 (by rw [HZ0.out]; exact ints_cons_ne)
          obtain ⟨rfl, rfl⟩ : g = b9 ∧ 0 = o9 := by injection e9 with e9; injection e9 with e9a e9b; exact ⟨e9a, e9b⟩
          exact hc9 0 (.int .i64 z0) (by rw [HZ0.out]; rfl)
        have hne1 : ¬ g = w5.heap.size := by omega
        have hne2 : ¬ w5.heap.size = g := by omega
        have hixl : (fr.take cn).length = cn := by rw [List.length_take]; omega
        have hkY8 := hJ8.box
        have hcn0 : (0 : Int) < cn := by omega
        have hA : Away 32 w8 ((w8.setCell ⟨w5.heap.size, 6, none⟩ (.slice (some ⟨g, 0, none⟩) cn ci)).setCell ⟨w5.heap.size, 3, none⟩ (.int .i64 z0)) := (away_set hkY8).trans (away_set (hkY8.set 6 _))
        have hB9 : Below X w8 ((w8.setCell ⟨w5.heap.size, 6, none⟩ (.slice (some ⟨g, 0, none⟩) cn ci)).setCell ⟨w5.heap.size, 3, none⟩ (.int .i64 z0)) := ((Below.refl _ _).setCell (p := ⟨w5.heap.size, 6, none⟩) (Nat.le_of_lt hX5) _).setCell (p := ⟨w5.heap.size, 3, none⟩) (Nat.le_of_lt hX5) _
        have HPK : Hid (∃ (f9 : Int) (vs9 : List Value) (v9 : Value) (l9 : List Ac) (AI9 : Option Addr) (ix9 : List Int) (ci9 : Nat) (wi9 : List AcT), CT X w5.heap.size ((w8.setCell ⟨w5.heap.size, 6, none⟩ (.slice (some ⟨g, 0, none⟩) cn ci)).setCell ⟨w5.heap.size, 3, none⟩ (.int .i64 z0)) (.slice none 0 0) (.slice none 0 0) (t + 1) f9 ls.length vs9 v9 l9 (.slice AO ys.length cO) ys (.slice AI9 ix9.length ci9) ix9 ∧ Indexed fr (ys.map Ob.st) ix9 f9 wi9 ∧ l9.map Ac.st = l.map Ac.st ++ wi9 ∧ Below X w5 ((w8.setCell ⟨w5.heap.size, 6, none⟩ (.slice (some ⟨g, 0, none⟩) cn ci)).setCell ⟨w5.heap.size, 3, none⟩ (.int .i64 z0))) := Lib.hid (by
          refine ⟨z0, _, v8, l ++ new8, some ⟨g, 0, none⟩, fr.take cn, ci, wrs (IDX ys) (fr.take cn) ((fr.take cn).drop 1 ++ [0]), ⟨hA.pl hwr8.pl (by decide) (by decide) (by decide), ?_, hA.own hJ8.row (by decide), fun y hy => hA.own (hJ8.data y hy) (by decide), fun y hy => hA.own (hJ8.at_ y hy) (by decide), ?_, hX5⟩, .inr ⟨HY0.out, ?_, ?_, ?_, rfl⟩, ?_, hBX8.trans hB9⟩
          · rw [hixl]
            exact (hkY8.set 6 _).set 3 _
          · rw [hixl]
            exact hA.own (own_base hoI (Nat.le_of_lt hX)) (by decide)
          · exact Nat.le_trans (Nat.le_of_eq HCN.out) hfit
          · rw [← HCN.out]
          · rw [HZ0.out]
            rfl
          · rw [List.map_append, hnew8]
            unfold wrs
            rw [HCN.out])
        obtain ⟨y0, y1, y2, y3, y4, y5, y6⟩ := blk7 hkY8
        have q6 := hkY8.frozen 6
        have q3 := hkY8.frozen 3
        clear hA hB9 hoI hwr8 hJ8 hon8 hkY8 hnew8 e hg hixl
        go_wp2_with fail
        obtain ⟨W9, hW9⟩ : ∃ W9, (w8.setCell ⟨w5.heap.size, 6, none⟩ (.slice (some ⟨g, 0, none⟩) cn ci)).setCell ⟨w5.heap.size, 3, none⟩ (.int .i64 z0) = W9 := ⟨_, rfl⟩
        rw [hW9] at HPK ⊢
        clear hW9 y0 y1 y2 y3 y4 y5 y6 q6 q3
      all_goals
        have HH0 := Lib.hid h0
        clear h0
        obtain ⟨f9, vs9, v9, l9, AI9, ix9, ci9, wi9, hC9, hI9, hl9, hB59⟩ := HPK.out
        have hfacts := HPL.out.facts HOK.out.at_
        have hN8 : ∀ z ∈ fr, 2 ≤ z ∧ z < (ps.length : Int) := fun z hz => by
          obtain ⟨_, _, _, _, ⟨j, e5⟩, _⟩ := hfacts
          rw [e5] at hz
          exact HFR8.out z (List.mem_of_mem_drop hz)
        have HV9 : Hid (∀ a ∈ l9, a.fl = false ∧ 2 ≤ a.at_ ∧ a.at_ < ps.length ∧ a.p.zs.length = 64) := Lib.hid (acts_right HPL.out HOK.out.at_ hI9 hl9 HFR8.out)
        have HUOK : Hid ((Ub.mk (t + 1) f9 ls.length).ok = true) := Lib.hid (by
          rw [Ub.ok_iff]
          have hne : ys.map Ob.st = [] ↔ ls.length = 0 := by
            rw [List.map_eq_nil_iff, ← List.length_eq_zero_iff, HYN.out]
          rcases indexed_first hI9 hN8 with ⟨h1, h2⟩ | ⟨h1, h2, h3⟩
          · have h4 := hne.1 h2
            refine ⟨by show 1 ≤ t + 1; omega, by show t + 1 ≤ _; omega, ?_⟩
            dsimp only
            omega
          · have h4 : ¬ ls.length = 0 := fun e => h3 (hne.2 e)
            refine ⟨by show 1 ≤ t + 1; omega, by show t + 1 ≤ _; omega, ?_⟩
            dsimp only
            omega)
        have hl9n : l9.length ≤ 100000 := by
          have h1 := congrArg List.length hl9
          rw [List.length_map, List.length_append, List.length_map] at h1
          have h2 := (indexed_acts hI9).2.1
          omega
        have HI9 := Lib.hid hI9
        have HLS9 := Lib.hid hl9
        have HC9 := Lib.hid hC9
        have hX9 := hC9.pl.blk.lt
        clear hI9 hl9 hC9 hfacts hN8 HPK
        refine (flush_any X 1 WT (by decide) (by decide) vs9 v9 l9 (by omega) W9 HC9.out.pl).mono ?_
        rintro e w10 ⟨v10, rfl, hP10, ho10⟩
        have hC10 := HC9.out.only ho10 hP10
        have hB10 : Below X w5 w10 := hB59.trans ho10.below
        have hC10d := hC10.below ((Below.refl w10.heap.size w10).drew)
        have HC10 := Lib.hid hC10d
        have HS10 : Hid (w10.drew.cell? ⟨w5.heap.size, 2, none⟩ = some (.int .i64 (t + 1)) ∧ w10.drew.cell? ⟨w5.heap.size, 3, none⟩ = some (.int .i64 f9) ∧ w10.drew.cell? ⟨w5.heap.size, 4, none⟩ = some (.int .i64 ls.length)) := Lib.hid ⟨hC10d.box.cell 2, hC10d.box.cell 3, hC10d.box.cell 4⟩
        have HUB := Lib.hid (uberblock_any ⟨t + 1, f9, ls.length⟩ HUOK.out X 1 WT (by decide) (by decide) _ _ _ (by simp; omega) _ hC10d.pl)
        obtain ⟨uo, huo⟩ : ∃ uo, (Ub.mk (t + 1) f9 ls.length).octs = uo := ⟨_, rfl⟩
        rw [huo] at HUB
        dsimp only [Ub.val] at HUB
        have HUO := Lib.hid huo
        clear hC10 hC10d hP10 ho10 huo
        go_wp2_with fail
        refine wp_region_noPanic ?_
        refine wp_region_last 5 (fun W => W.cell? ⟨w5.heap.size, 2, none⟩ = some (.int .i64 (t + 1)) ∧ W.cell? ⟨w5.heap.size, 3, none⟩ = some (.int .i64 f9) ∧ W.cell? ⟨w5.heap.size, 4, none⟩ = some (.int .i64 ls.length)) (by kernel_rfl) HS10.out (fun hHeld => ?_)
        refine wpAnyL_take 12 (i := 0) (oi := ⟨some 67, _, _, _, _, _⟩) (v := ?_) rfl (by kernel_rfl) (by kernel_rfl) (by kernel_rfl) (by kernel_rfl) (by kernel_rfl) (by kernel_rfl) (by kernel_rfl) (fun _ _ _ h => h) (Or.inl ⟨by rfl, ?_⟩) hHeld ?_
        rotate_left
        focus (intro w hSw; (try dsimp only at hSw); go_simp; try (with_reducible rfl))
        try simp only [Act.put, List.setIfInBounds_toArray, List.set_cons_zero, List.set_cons_succ]
        refine wpAnyL_take 12 (i := 1) (oi := ⟨some 68, _, _, _, _, _⟩) (v := ?_) rfl (by kernel_rfl) (by kernel_rfl) (by kernel_rfl) (by kernel_rfl) (by kernel_rfl) (by kernel_rfl) (by kernel_rfl) (fun _ _ _ h => h) (Or.inl ⟨by rfl, ?_⟩) hHeld ?_
        rotate_left
        focus (intro w hSw; (try dsimp only at hSw); go_simp; try (with_reducible rfl))
        try simp only [Act.put, List.setIfInBounds_toArray, List.set_cons_zero, List.set_cons_succ]
        refine wpAnyL_take 12 (i := 2) (oi := ⟨some 69, _, _, _, _, _⟩) (v := ?_) rfl (by kernel_rfl) (by kernel_rfl) (by kernel_rfl) (by kernel_rfl) (by kernel_rfl) (by kernel_rfl) (by kernel_rfl) (fun _ _ _ h => h) (Or.inl ⟨by rfl, ?_⟩) hHeld ?_
        rotate_left
        focus (intro w hSw; (try dsimp only at hSw); go_simp; try (with_reducible rfl))
        try simp only [Act.put, List.setIfInBounds_toArray, List.set_cons_zero, List.set_cons_succ]
        refine wpAnyL_take 12 (i := 3) (oi := ⟨some 70, _, _, _, _, _⟩) (v := ?_) rfl (by kernel_rfl) (by kernel_rfl) (by kernel_rfl) (by kernel_rfl) (by kernel_rfl) (by kernel_rfl) (by kernel_rfl) (fun _ _ _ h => h) (Or.inl ⟨by rfl, ?_⟩) hHeld ?_
        rotate_left
        focus (intro w hSw; (try dsimp only at hSw); go_simp; try (with_reducible rfl))
        try simp only [Act.put, List.setIfInBounds_toArray, List.set_cons_zero, List.set_cons_succ]
        refine wpAnyL_take 12 (i := 4) (oi := ⟨some 71, _, _, _, _, _⟩) (v := ?_) rfl (by kernel_rfl) (by kernel_rfl) (by kernel_rfl) (by kernel_rfl) (by kernel_rfl) (by kernel_rfl) (by kernel_rfl) (fun _ _ _ h => h) (Or.inl ⟨by rfl, ?_⟩) hHeld ?_
        rotate_left
        focus (intro w hSw; (try dsimp only at hSw); go_simp; try (with_reducible rfl))
        try simp only [Act.put, List.setIfInBounds_toArray, List.set_cons_zero, List.set_cons_succ]
        refine wpAnyL_last (i := 5) (o := ⟨some 72, _, _, _, _, _⟩) (by kernel_rfl) rfl (by kernel_rfl) (fun K hK => ?_)
        clear hHeld
        go_simp
        refine HUB.out.mono ?_
        rintro e w11 ⟨v11, p11, rfl, hz11, hP11, ho11⟩
        go_wp2_with fail
        refine hK.out _ _ ?_
        clear hK K
        try simp only [Act.put, List.setIfInBounds_toArray, List.set_cons_zero, List.set_cons_succ]
        refine wpAnyL_done (by kernel_rfl) ?_ _
        refine NoPanic.normal ?_
        have hB11 : Below X w5 w11 := hB10.drew.trans ho11.below
        have HC11 := Lib.hid (HC10.out.only ho11 hP11)
        have HZ11 := Lib.hid hz11
        clear HUB hP11 ho11 HC10 hz11 HS10
        go_wp2_with fail
        refine (flush_any X 1 WT (by decide) (by decide) _ _ _ (by simp; omega) w11 HC11.out.pl).mono ?_
        rintro e w12 ⟨v12, rfl, hP12, ho12⟩
        have HC12 := Lib.hid (HC11.out.only ho12 hP12)
        have hB12 : Below X w5 w12 := hB11.trans ho12.below
        clear hP12 ho12 HC11
        have hXw : w1.heap.size ≤ X := by have := hB14.size; omega
        have hs1w := hB1.size
        have hB012 : Below w.heap.size w w12 := hB05.trans (hB12.mono (by omega))
        have kx12 := HKX.out.below (hB15.trans (hB12.mono hXw)) HKX.out.lt
        have kr12 := HKR.out.below (hB15.trans (hB12.mono hXw)) HKR.out.lt
        have hwaits : ws = [] := by
          have h9 := HOK.out.waits
          rw [HDW.out] at h9
          exact List.map_eq_nil_iff.1 h9
        have hdok : (Dv.mk dA ps dc B ws dd).st.ok := by rw [← HSPD.out]; exact HOK.out.dev
        have hps2 : 2 ≤ ps.length := by have h9 := HOK.out.dev.1; rw [HDN.out] at h9; exact h9
        obtain ⟨l12, hl12⟩ : ∃ l12, l9 ++ [flushAc] ++ [⟨false, (t + 1) % 2, p11⟩] ++ [flushAc] = l12 := ⟨_, rfl⟩
        have hz64 : p11.zs.length = 64 := by rw [HZ11.out, ← HUO.out, Ub.octs_length]
        have hx12 : ∀ x ∈ l12, x.p.zs.length ≤ 64 ∧ actE ps.length x.fl x.at_ x.p.zs.length = 0 := by
          rw [← hl12]
          intro x hx
          simp only [List.append_assoc, List.mem_append, List.mem_cons, List.not_mem_nil, or_false] at hx
          rcases hx with hx | rfl | rfl | rfl
          · obtain ⟨q1, q2, q3, q4⟩ := HV9.out x hx
            rw [q1, q4]
            exact ⟨Nat.le_refl _, by simp [actE, wrtE]; omega⟩
          · simp [actE]
          · dsimp only
            rw [hz64]
            exact ⟨Nat.le_refl _, by simp [actE, wrtE]; omega⟩
          · simp [actE]
        have hl12n : l12.length ≤ 1000000 := by rw [← hl12]; simp; omega
        have hl12s : l12.map Ac.st = (l.map Ac.st ++ wi9) ++ lastActs ⟨t + 1, f9, ls.length⟩ := by
          rw [← hl12]
          simp only [List.map_append, List.map_cons, List.map_nil, HLS9.out, lastActs, List.append_assoc, List.cons_append, List.nil_append]
          simp [Ac.st, HZ11.out, HUO.out]
        have HC12' := Lib.hid HC12.out
        rw [hl12] at HC12'
        have HL12 := Lib.hid hl12s
        have HDO : Hid (∀ W, Below w12.heap.size w12 W → Calls Tryz.prog 57 #[.pointer (some ⟨X, 1, none⟩), .agg #[.slice dA ps.length dc, .slice B ws.length dd]] W fun e w' => ∃ E : Dv, e = .returned E.val ∧ E.st = doL sp.dev (l12.map Ac.st) ∧ E.Lies W.heap.size w' ∧ Below W.heap.size W w' ∧ E.Caps) := Lib.hid fun W hB => by
          rw [HSPD.out]
          exact does_any ⟨dA, ps, dc, B, ws, dd⟩ HF.out.dev hdok X 1 WT (by decide) _ v12 l12 (by omega) (actsE_none fun x hx => (hx12 x hx).2) hwaits (fun x hx => by have := (hx12 x hx).1; omega) W (HC12'.out.below hB).pl ((HL.out.below (hB012.trans (hB.mono hB012.size))).dev)
        have HS12 : Hid (∀ W, Below w12.heap.size w12 W → W.cell? ⟨w.heap.size, 0, none⟩ = some (.slice dA ps.length dc) ∧ W.cell? ⟨w.heap.size, 1, none⟩ = some (.slice B ws.length dd)) := Lib.hid fun W hB => by
          have h9 := kx12.below hB kx12.lt
          exact ⟨h9.cell 0, h9.cell 1⟩
        have HX12 := Lib.hid hx12
        have hY12 := HC12'.out.box.lt
        have HACT : Hid (∀ a ∈ l12.map Ac.st, a.1 = true ∨ (0 ≤ a.2.1 ∧ a.2.1 < sp.dev.secs.length ∧ a.2.2.length = 64)) := Lib.hid fun a ha => by
          obtain ⟨x, hx, rfl⟩ := List.mem_map.1 ha
          rw [HDN.out]
          rw [← hl12] at hx
          simp only [List.append_assoc, List.mem_append, List.mem_cons, List.not_mem_nil, or_false] at hx
          rcases hx with hx | rfl | rfl | rfl
          · obtain ⟨q1, q2, q3, q4⟩ := HV9.out x hx
            exact .inr ⟨by show 0 ≤ x.at_; omega, q3, q4⟩
          · exact .inl rfl
          · exact .inr ⟨by show 0 ≤ (t + 1) % 2; omega, by show (t + 1) % 2 < ps.length; omega, hz64⟩
          · exact .inl rfl
        have HKR12 := Lib.hid kr12
        have HDOK := Lib.hid hdok
        have hBd12 : Below w12.heap.size w12 w12.drew := (Below.refl _ _).drew
        clear kx12 kr12 hl12s hx12 hl12 HC12 hz64 hdok hwaits
        go_wp2_with fail
        refine wp_region_noPanic ?_
        refine wp_region_last 7 (fun W => W.cell? ⟨w.heap.size, 0, none⟩ = some (.slice dA ps.length dc) ∧ W.cell? ⟨w.heap.size, 1, none⟩ = some (.slice B ws.length dd)) (by kernel_rfl) (HS12.out _ hBd12) (fun hHeld => ?_)
        refine wpAnyL_take 12 (i := 0) (oi := ⟨some 77, _, _, _, _, _⟩) (v := ?_) rfl (by kernel_rfl) (by kernel_rfl) (by kernel_rfl) (by kernel_rfl) (by kernel_rfl) (by kernel_rfl) (by kernel_rfl) (fun _ _ _ h => h) (Or.inl ⟨by rfl, ?_⟩) hHeld ?_
        rotate_left
        focus (intro w hSw; (try dsimp only at hSw); go_simp; try (with_reducible rfl))
        try simp only [Act.put, List.setIfInBounds_toArray, List.set_cons_zero, List.set_cons_succ]
        refine wpAnyL_take 12 (i := 1) (oi := ⟨some 78, _, _, _, _, _⟩) (v := ?_) rfl (by kernel_rfl) (by kernel_rfl) (by kernel_rfl) (by kernel_rfl) (by kernel_rfl) (by kernel_rfl) (by kernel_rfl) (fun _ _ _ h => h) (Or.inl ⟨by rfl, ?_⟩) hHeld ?_
        rotate_left
        focus (intro w hSw; (try dsimp only at hSw); go_simp; try (with_reducible rfl))
        try simp only [Act.put, List.setIfInBounds_toArray, List.set_cons_zero, List.set_cons_succ]
        refine wpAnyL_take 12 (i := 2) (oi := ⟨some 79, _, _, _, _, _⟩) (v := ?_) rfl (by kernel_rfl) (by kernel_rfl) (by kernel_rfl) (by kernel_rfl) (by kernel_rfl) (by kernel_rfl) (by kernel_rfl) (fun _ _ _ h => h) (Or.inl ⟨by rfl, ?_⟩) hHeld ?_
        rotate_left
        focus (intro w hSw; (try dsimp only at hSw); go_simp; try (with_reducible rfl))
        try simp only [Act.put, List.setIfInBounds_toArray, List.set_cons_zero, List.set_cons_succ]
        refine wpAnyL_take 12 (i := 3) (oi := ⟨some 80, _, _, _, _, _⟩) (v := ?_) rfl (by kernel_rfl) (by kernel_rfl) (by kernel_rfl) (by kernel_rfl) (by kernel_rfl) (by kernel_rfl) (by kernel_rfl) (fun _ _ _ h => h) (Or.inl ⟨by rfl, ?_⟩) hHeld ?_
        rotate_left
        focus (intro w hSw; (try dsimp only at hSw); go_simp; try (with_reducible rfl))
        try simp only [Act.put, List.setIfInBounds_toArray, List.set_cons_zero, List.set_cons_succ]
        refine wpAnyL_take 12 (i := 4) (oi := ⟨some 81, _, _, _, _, _⟩) (v := ?_) rfl (by kernel_rfl) (by kernel_rfl) (by kernel_rfl) (by kernel_rfl) (by kernel_rfl) (by kernel_rfl) (by kernel_rfl) (fun _ _ _ h => h) (Or.inl ⟨by rfl, ?_⟩) hHeld ?_
        rotate_left
        focus (intro w hSw; (try dsimp only at hSw); go_simp; try (with_reducible rfl))
        try simp only [Act.put, List.setIfInBounds_toArray, List.set_cons_zero, List.set_cons_succ]
        refine wpAnyL_one (i := 5) (o := ⟨some 82, _, _, _, _, _⟩) (by kernel_rfl) rfl (fun K hK => ?_)
        clear hHeld
        go_simp
        refine (HDO.out _ hBd12).mono ?_
        rintro e w13 ⟨E, rfl, hE, hEL, hB13', hECp⟩
        have hB1213 : Below w12.heap.size w12 w13 := hBd12.trans (hB13'.mono hBd12.size)
        have hC13 := HC12'.out.below hB1213
        have hC13c := Lib.hid hC13
        obtain ⟨y0, y1, _, _, _, _, _⟩ := blk7 hC13.box
        have q0 := hC13.box.frozen 0
        have q1 := hC13.box.frozen 1
        go_wp2_with fail
        refine hK.out _ _ (HS12.out _ hB1213) (fun hHeld => ?_)
        clear hK K
        try simp only [Act.put, List.setIfInBounds_toArray, List.set_cons_zero, List.set_cons_succ]
        refine wpAnyL_take 12 (i := 6) (oi := ⟨some 83, _, _, _, _, _⟩) (v := ?_) rfl (by kernel_rfl) (by kernel_rfl) (by kernel_rfl) (by kernel_rfl) (by kernel_rfl) (by kernel_rfl) (by kernel_rfl) (fun _ _ _ h => h) (Or.inl ⟨by rfl, ?_⟩) hHeld ?_
        rotate_left
        focus (intro w hSw; (try dsimp only at hSw); go_simp; try (with_reducible rfl))
        try simp only [Act.put, List.setIfInBounds_toArray, List.set_cons_zero, List.set_cons_succ]
        refine wpAnyL_last (i := 7) (o := ⟨none, _, _, _, _, _⟩) (by kernel_rfl) rfl (by kernel_rfl) (fun K hK => ?_)
        clear hHeld
        go_simp
        go_wp2_with fail
        refine hK.out _ _ ?_
        clear hK K
        try simp only [Act.put, List.setIfInBounds_toArray, List.set_cons_zero, List.set_cons_succ]
        refine wpAnyL_done (by kernel_rfl) ?_ _
        refine NoPanic.normal ?_
        have hC14 := (hC13c.out.dev (.slice E.A E.ps.length E.c) (.slice E.B E.ws.length E.d)).1
        have hh14 : ∀ k, k ≠ w5.heap.size → ((w13.setCell ⟨w5.heap.size, 0, none⟩ (.slice E.A E.ps.length E.c)).setCell ⟨w5.heap.size, 1, none⟩ (.slice E.B E.ws.length E.d)).heap[k]? = w13.heap[k]? := fun k hk => (set_heap _ w5.heap.size 1 _ k hk).trans (set_heap _ w5.heap.size 0 _ k hk)
        have hs14 : ((w13.setCell ⟨w5.heap.size, 0, none⟩ (.slice E.A E.ps.length E.c)).setCell ⟨w5.heap.size, 1, none⟩ (.slice E.B E.ws.length E.d)).heap.size = w13.heap.size := by simp
        have hB1314 : Below X w13 ((w13.setCell ⟨w5.heap.size, 0, none⟩ (.slice E.A E.ps.length E.c)).setCell ⟨w5.heap.size, 1, none⟩ (.slice E.B E.ws.length E.d)) := ((Below.refl X w13).setCell (p := ⟨w5.heap.size, 0, none⟩) (Nat.le_of_lt hX5) _).setCell (p := ⟨w5.heap.size, 1, none⟩) (Nat.le_of_lt hX5) _
        obtain ⟨W14, hW14⟩ : ∃ W14, (w13.setCell ⟨w5.heap.size, 0, none⟩ (.slice E.A E.ps.length E.c)).setCell ⟨w5.heap.size, 1, none⟩ (.slice E.B E.ws.length E.d) = W14 := ⟨_, rfl⟩
        rw [hW14] at hC14 hh14 hs14 hB1314 ⊢
        have hB514 : Below X w5 W14 := (hB12.trans (hB1213.mono (by have := hC14.pl.blk.lt; have := hB12.size; omega))).trans hB1314
        have kr14 := HKR.out.below (hB15.trans (hB514.mono hXw)) HKR.out.lt
        obtain ⟨A12, c12, hv12, hcap12, _, _, _⟩ := own_any hC14.pl.row
        subst hv12
        have HS14 : Hid (∀ W, Below W14.heap.size W14 W → (W.cell? ⟨w5.heap.size, 0, none⟩ = some (.slice E.A E.ps.length E.c) ∧ W.cell? ⟨w5.heap.size, 1, none⟩ = some (.slice E.B E.ws.length E.d) ∧ W.cell? ⟨w5.heap.size, 2, none⟩ = some (.int .i64 (t + 1)) ∧ W.cell? ⟨w5.heap.size, 3, none⟩ = some (.int .i64 f9) ∧ W.cell? ⟨w5.heap.size, 4, none⟩ = some (.int .i64 ls.length) ∧ W.cell? ⟨w5.heap.size, 5, none⟩ = some (.slice AO ys.length cO) ∧ W.cell? ⟨w5.heap.size, 6, none⟩ = some (.slice AI9 ix9.length ci9)) ∧ W.cell? ⟨X, 1, none⟩ = some (.slice A12 l12.length c12)) := Lib.hid fun W hB =>
          ⟨blk7 (hC14.box.below hB hC14.box.lt), ((hC14.pl.blk.below hB hC14.pl.blk.lt).cell 1).trans hC14.pl.at_⟩
        obtain ⟨r0, r1, r2, r3, r4, r5, r6, r7⟩ := blk8 kr14
        have e0 := kr14.frozen 0
        have e1 := kr14.frozen 1
        have e2 := kr14.frozen 2
        have e3 := kr14.frozen 3
        have e4 := kr14.frozen 4
        have e5 := kr14.frozen 5
        have e6 := kr14.frozen 6
        have e7 := kr14.frozen 7
        have HKR14 := Lib.hid kr14
        have HC14 := Lib.hid hC14
        have HE := Lib.hid hE
        have HEL := Lib.hid hEL
        have hBd14 : Below W14.heap.size W14 W14.drew := (Below.refl _ _).drew
        clear hC14 kr14 hC13 hC13c y0 y1 q0 q1 hW14 hE hEL HDO HS12 HC12' HKR12 HX12
        go_wp2_with fail
        refine wp_region_noPanic ?_
        refine wp_region_last 7 (fun W => (W.cell? ⟨w5.heap.size, 0, none⟩ = some (.slice E.A E.ps.length E.c) ∧ W.cell? ⟨w5.heap.size, 1, none⟩ = some (.slice E.B E.ws.length E.d) ∧ W.cell? ⟨w5.heap.size, 2, none⟩ = some (.int .i64 (t + 1)) ∧ W.cell? ⟨w5.heap.size, 3, none⟩ = some (.int .i64 f9) ∧ W.cell? ⟨w5.heap.size, 4, none⟩ = some (.int .i64 ls.length) ∧ W.cell? ⟨w5.heap.size, 5, none⟩ = some (.slice AO ys.length cO) ∧ W.cell? ⟨w5.heap.size, 6, none⟩ = some (.slice AI9 ix9.length ci9)) ∧ W.cell? ⟨X, 1, none⟩ = some (.slice A12 l12.length c12)) (by kernel_rfl) (HS14.out _ hBd14) (fun hHeld => ?_)
        refine wpAnyL_take 12 (i := 0) (oi := ⟨some 84, _, _, _, _, _⟩) (v := ?_) rfl (by kernel_rfl) (by kernel_rfl) (by kernel_rfl) (by kernel_rfl) (by kernel_rfl) (by kernel_rfl) (by kernel_rfl) (fun _ _ _ h => h) (Or.inl ⟨by rfl, ?_⟩) hHeld ?_
        rotate_left
        focus (intro w hSw; (try dsimp only at hSw); go_simp; try (with_reducible rfl))
        try simp only [Act.put, List.setIfInBounds_toArray, List.set_cons_zero, List.set_cons_succ]
        refine wpAnyL_take 12 (i := 1) (oi := ⟨some 85, _, _, _, _, _⟩) (v := ?_) rfl (by kernel_rfl) (by kernel_rfl) (by kernel_rfl) (by kernel_rfl) (by kernel_rfl) (by kernel_rfl) (by kernel_rfl) (fun _ _ _ h => h) (Or.inl ⟨by rfl, ?_⟩) hHeld ?_
        rotate_left
        focus (intro w hSw; (try dsimp only at hSw); go_simp; try (with_reducible rfl))
        try simp only [Act.put, List.setIfInBounds_toArray, List.set_cons_zero, List.set_cons_succ]
        refine wpAnyL_take 12 (i := 2) (oi := ⟨some 86, _, _, _, _, _⟩) (v := ?_) rfl (by kernel_rfl) (by kernel_rfl) (by kernel_rfl) (by kernel_rfl) (by kernel_rfl) (by kernel_rfl) (by kernel_rfl) (fun _ _ _ h => h) (Or.inl ⟨by rfl, ?_⟩) hHeld ?_
        rotate_left
        focus (intro w hSw; (try dsimp only at hSw); go_simp; try (with_reducible rfl))
        try simp only [Act.put, List.setIfInBounds_toArray, List.set_cons_zero, List.set_cons_succ]
        refine wpAnyL_take 12 (i := 3) (oi := ⟨some 87, _, _, _, _, _⟩) (v := ?_) rfl (by kernel_rfl) (by kernel_rfl) (by kernel_rfl) (by kernel_rfl) (by kernel_rfl) (by kernel_rfl) (by kernel_rfl) (fun _ _ _ h => h) (Or.inl ⟨by rfl, ?_⟩) hHeld ?_
        rotate_left
        focus (intro w hSw; (try dsimp only at hSw); go_simp; try (with_reducible rfl))
        try simp only [Act.put, List.setIfInBounds_toArray, List.set_cons_zero, List.set_cons_succ]
        refine wpAnyL_take 12 (i := 4) (oi := ⟨some 88, _, _, _, _, _⟩) (v := ?_) rfl (by kernel_rfl) (by kernel_rfl) (by kernel_rfl) (by kernel_rfl) (by kernel_rfl) (by kernel_rfl) (by kernel_rfl) (fun _ _ _ h => h) (Or.inl ⟨by rfl, ?_⟩) hHeld ?_
        rotate_left
        focus (intro w hSw; (try dsimp only at hSw); go_simp; try (with_reducible rfl))
        try simp only [Act.put, List.setIfInBounds_toArray, List.set_cons_zero, List.set_cons_succ]
        refine wpAnyL_take 12 (i := 5) (oi := ⟨some 89, _, _, _, _, _⟩) (v := ?_) rfl (by kernel_rfl) (by kernel_rfl) (by kernel_rfl) (by kernel_rfl) (by kernel_rfl) (by kernel_rfl) (by kernel_rfl) (fun _ _ _ h => h) (Or.inl ⟨by rfl, ?_⟩) hHeld ?_
        rotate_left
        focus (intro w hSw; (try dsimp only at hSw); go_simp; try (with_reducible rfl))
        try simp only [Act.put, List.setIfInBounds_toArray, List.set_cons_zero, List.set_cons_succ]
        refine wpAnyL_take 12 (i := 6) (oi := ⟨some 90, _, _, _, _, _⟩) (v := ?_) rfl (by kernel_rfl) (by kernel_rfl) (by kernel_rfl) (by kernel_rfl) (by kernel_rfl) (by kernel_rfl) (by kernel_rfl) (fun _ _ _ h => h) (Or.inl ⟨by rfl, ?_⟩) hHeld ?_
        rotate_left
        focus (intro w hSw; (try dsimp only at hSw); go_simp; try (with_reducible rfl))
        try simp only [Act.put, List.setIfInBounds_toArray, List.set_cons_zero, List.set_cons_succ]
        refine wpAnyL_last (i := 7) (o := ⟨none, _, _, _, _, _⟩) (by kernel_rfl) rfl (by kernel_rfl) (fun K hK => ?_)
        clear hHeld
        go_simp
        go_wp2_with fail
        refine hK.out _ _ ?_
        clear hK K
        try simp only [Act.put, List.setIfInBounds_toArray, List.set_cons_zero, List.set_cons_succ]
        refine wpAnyL_done (by kernel_rfl) ?_ _
        refine NoPanic.normal ?_
        obtain ⟨W15, hW15⟩ : ∃ W15, set8 W14 (w.heap.size + 1) (.slice E.A E.ps.length E.c) (.slice E.B E.ws.length E.d) (.int .i64 (t + 1)) (.int .i64 f9) (.int .i64 ls.length) (.slice AO ys.length cO) (.slice AI9 ix9.length ci9) (.slice A12 l12.length c12) = W15 := ⟨_, rfl⟩
        have k15 : Blk W15 (w.heap.size + 1) 65 [.slice E.A E.ps.length E.c, .slice E.B E.ws.length E.d, .int .i64 (t + 1), .int .i64 f9, .int .i64 ls.length, .slice AO ys.length cO, .slice AI9 ix9.length ci9, .slice A12 l12.length c12] := hW15 ▸ set8_blk HKR14.out
        have hh15 : ∀ k, k ≠ w.heap.size + 1 → W15.heap[k]? = W14.heap[k]? := hW15 ▸ set8_heap W14 (w.heap.size + 1) (.slice E.A E.ps.length E.c) (.slice E.B E.ws.length E.d) (.int .i64 (t + 1)) (.int .i64 f9) (.int .i64 ls.length) (.slice AO ys.length cO) (.slice AI9 ix9.length ci9) (.slice A12 l12.length c12)
        have hs15 : W15.heap.size = W14.heap.size := hW15 ▸ set8_size W14 (w.heap.size + 1) (.slice E.A E.ps.length E.c) (.slice E.B E.ws.length E.d) (.int .i64 (t + 1)) (.int .i64 f9) (.int .i64 ls.length) (.slice AO ys.length cO) (.slice AI9 ix9.length ci9) (.slice A12 l12.length c12)
        have hB1415 : Below w.heap.size W14 W15 := hW15 ▸ set8_below W14 w.heap.size (w.heap.size + 1) (.slice E.A E.ps.length E.c) (.slice E.B E.ws.length E.d) (.int .i64 (t + 1)) (.int .i64 f9) (.int .i64 ls.length) (.slice AO ys.length cO) (.slice AI9 ix9.length ci9) (.slice A12 l12.length c12) (Nat.le_succ _)
        dsimp only [set8] at hW15
        rw [hW15]
        clear hW15 r0 r1 r2 r3 r4 r5 r6 r7 e0 e1 e2 e3 e4 e5 e6 e7
        have HK15 := Lib.hid k15.drew
        have HH15 := Lib.hid hh15
        clear k15 hh15
        go_wp2
        obtain ⟨d0, d1, d2, d3, d4, d5, d6, d7⟩ := blk8 HK15.out
        have hRX : w.heap.size + 1 < X := by omega
        have hfrom : ∀ (A : Option Addr) (vs : List Value), RdF X W14 A vs → RdF w.heap.size W15.drew A vs := fun A vs h =>
          (h.stays (w' := W15.drew) (by show W14.heap.size ≤ W15.heap.size; omega) (fun k h1 _ => HH15.out k (by omega))).mono (by omega)
        have HFROM := Lib.hid hfrom
        have hwt0 : E.st.waits = [] := by
          rw [HE.out, HL12.out, lastActs, show (l.map Ac.st ++ wi9) ++ [(true, 0, []), (false, (Ub.mk (t + 1) f9 ls.length).t % 2, (Ub.mk (t + 1) f9 ls.length).octs), (true, 0, [])] = ((l.map Ac.st ++ wi9) ++ [(true, 0, []), (false, (Ub.mk (t + 1) f9 ls.length).t % 2, (Ub.mk (t + 1) f9 ls.length).octs)]) ++ [(true, 0, [])] by simp, doL_snoc]
          rfl
        have hew : E.ws.length = 0 := by
          have h9 := congrArg List.length hwt0
          simpa [Dv.st] using h9
        have hEok : E.st.ok := by rw [HE.out]; exact (doL_ok HOK.out.dev HACT.out).1
        have hix9 : ix9.length ≤ 8192 := by have h9 := (indexed_acts HI9.out).2.2.1; omega
        have hBw15 : Below w.heap.size w W15.drew := ((hB05.trans (hB514.mono (by omega))).trans hB1415).drew
        clear hfrom hB1415
        refine bodyPost_ret (v := stepval E (t + 1) f9 ls.length AO ys.length cO AI9 ix9.length ci9 A12 l12.length c12) ?_ rfl ⟨.inr (.inr (.inr ⟨HOK.out, HOE.out, ⟨E, ⟨t + 1, f9, ls.length⟩, AO, ys, cO, AI9, ix9, ci9⟩, A12, c12, l12, rfl, ?_, ?_, ?_, ?_, ?_, hcap12, hECp⟩)), hBw15⟩
        · clear hBw15 hEok hew hwt0
          simp [results, Tryz.results26, go_sem, d0, d1, d2, d3, d4, d5, d6, d7]
        · refine ⟨⟨fr, l.map Ac.st, wi9, ?_, HI9.out, HL12.out⟩, ?_, ?_, HE.out⟩
          · have h9 := HPL.out
            rw [← HFR0.out, ← HDN.out, ← HSEC.out] at h9
            exact h9
          · rw [HSPU.out]
            rfl
          · show (ls.length : Int) = lp.length
            rw [← HLP.out, List.length_map]
        · refine ⟨?_, HFROM.out _ _ (RdF.of_own HC14.out.row), fun y hy => HFROM.out _ _ (RdF.of_own (HC14.out.data y hy)), fun y hy => HFROM.out _ _ (RdF.of_own (HC14.out.at_ y hy)), HFROM.out _ _ (RdF.of_own HC14.out.ix)⟩
          have h9 : Dv.Lies w12.heap.size w13 E := HEL.out
          refine (h9.stays (W' := W15.drew) (by show w13.heap.size ≤ W15.heap.size; omega) (fun k h1 _ => ?_)).mono hB012.size
          exact (HH15.out k (by have := hB012.size; omega)).trans (hh14 k (by omega))
        · refine ⟨dv_fits hEok (by show E.ws.length ≤ _; omega), by show ys.length ≤ _; omega, fun y hy => ?_, by show ix9.length ≤ _; omega⟩
          obtain ⟨q1, q2, q3, q4⟩ := HYF.out y hy
          obtain ⟨_, cd, ed, hd1, hd2, _, _⟩ := own_any (HC14.out.data y hy)
          obtain ⟨_, ca, ea, ha1, ha2, _, _⟩ := own_any (HC14.out.at_ y hy)
          injection ed with ed1 ed2 ed3
          injection ea with ea1 ea2 ea3
          refine ⟨by unfold maxLen; omega, by omega, by omega, fun h => by rw [ed3]; exact hd2 (by rw [← ed1]; exact h), by omega, q4, fun h => by rw [ea3]; exact ha2 (by rw [← ea1]; exact h), ?_⟩
          obtain ⟨_, e2, _⟩ := HPL.out.facts HOK.out.at_
          have hm : y.d.zs ∈ (ys.map Ob.st).map (·.data) := List.mem_map.2 ⟨y.st, List.mem_map.2 ⟨y, hy, rfl⟩, rfl⟩
          rw [e2, ← HLP.out] at hm
          obtain ⟨p9, hp9, e9⟩ := List.mem_map.1 hm
          obtain ⟨o9, ho9, rfl⟩ := List.mem_map.1 hp9
          rw [← e9]
          exact (HLF.out o9 ho9).octs
        · exact HFROM.out _ _ (RdF.of_own HC14.out.pl.row)
        · exact fun a ha => HFROM.out _ _ (RdF.of_own (HC14.out.pl.data a ha))

end Go.Proofs.YtfeeejigedndcaaGreat
