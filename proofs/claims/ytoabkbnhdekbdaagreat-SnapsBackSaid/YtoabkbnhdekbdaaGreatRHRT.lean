/-
  The reference’s Turn. Conditions: the tenant is as it comes in; texts of at most 2^42 octets.
-/
import Derived.Test.YtoabkbnhdekbdaaGreatRHWB
import Derived.Test.YtoabkbnhdekbdaaGreatRBLD
import Derived.Test.YtoabkbnhdekbdaaGreatREE
import Derived.Test.YtoabkbnhdekbdaaGreatREM
import Derived.Test.YtoabkbnhdekbdaaGreatRSL
import Derived.Test.YtoabkbnhdekbdaaGreatRENN
import Derived.Test.YtoabkbnhdekbdaaGreatREB
import Derived.Test.YtoabkbnhdekbdaaGreatRSX
import Derived.Test.YtoabkbnhdekbdaaGreatRRL
import Derived.Test.YtoabkbnhdekbdaaGreatRHCR
import Derived.Test.YtoabkbnhdekbdaaGreatRRPP
import Derived.Test.YtoabkbnhdekbdaaGreatRTMD
import Derived.Test.YtoabkbnhdekbdaaGreatRHLB
import Derived.Test.YtoabkbnhdekbdaaGreatRTNP
import Derived.Test.YtoabkbnhdekbdaaGreatRTMG
import Derived.Test.YtoabkbnhdekbdaaGreatRHTY
import Derived.Test.YtoabkbnhdekbdaaGreatRTES
import Derived.BigQuiet
import Derived.Deep.DeepCutAuto
import Derived.Test.YtoabkbnhdekbdaaGreatLayH
namespace Go.Proofs.YtoabkbnhdekbdaaGreat
open Go.ChangeShapes Go.WideShapes Go.ChangeAt Go.RowKit
set_option maxRecDepth 100000
set_option linter.unusedSimpArgs false
theorem chS_setP {f : PSet → PSet} {l : List PSet} {j : Nat} {s : PSet} {p : ByteArray} (hr : l.Pairwise fun a b => ltPath a b = true) (hj : l[j]? = some s) (hp : s.path_ = p) : chS p f l = l.set j (f s) := by
  subst hp
  exact chS_set hr hj
set_option maxHeartbeats 4000000 in
theorem refTurn1_any (x : MTenant) (p : ByteArray) (i : Int) (d : ByteArray) (hp : p.size ≤ 4398046511104) (hd : d.size ≤ 140737488351232) (w : World) (hx : x.Good w) (ht : x.Tiny) :
    Calls Tryz.prog 11 #[.agg x.cells.toArray, .string p, .int .i64 1, .int .i64 i, .int .i64 0, .string ⟨#[]⟩, .string d] w fun e w' => AnsG w (writeU x.plain p i d) e w' := by
  obtain ⟨a1, hw1⟩ : ∃ a1, w.alloc (.cells #[.string x.name_, .int .i64 x.quota_, .int .i64 x.next_, .slice x.sets_.A x.sets_.l.length x.sets_.c, .slice x.grants_.A x.grants_.l.length x.grants_.c, .slice x.stages_.A x.stages_.l.length x.stages_.c, .slice x.log_.A x.log_.l.length x.log_.c] 27) = a1 := ⟨_, rfl⟩
  have b1 : Below w.heap.size w a1 := hw1 ▸ (Below.refl _ w).alloc (Nat.le_refl _) _
  have k1 : Blk a1 w.heap.size 27 [.string x.name_, .int .i64 x.quota_, .int .i64 x.next_, .slice x.sets_.A x.sets_.l.length x.sets_.c, .slice x.grants_.A x.grants_.l.length x.grants_.c, .slice x.stages_.A x.stages_.l.length x.stages_.c, .slice x.log_.A x.log_.l.length x.log_.c] := hw1 ▸ Blk.new w _ _
  obtain ⟨a2, hw2⟩ : ∃ a2, a1.alloc (.cells #[.string ⟨#[]⟩, .int .i64 0, .int .i64 0, .slice none 0 0, .slice none 0 0, .slice none 0 0, .slice none 0 0] 27) = a2 := ⟨_, rfl⟩
  have b2 : Below a1.heap.size a1 a2 := hw2 ▸ (Below.refl _ a1).alloc (Nat.le_refl _) _
  have k2 : Blk a2 a1.heap.size 27 [.string ⟨#[]⟩, .int .i64 0, .int .i64 0, .slice none 0 0, .slice none 0 0, .slice none 0 0, .slice none 0 0] := hw2 ▸ Blk.new a1 _ _
  have hX2 : w.heap.size + 1 = a1.heap.size := by rw [← hw1, World.size_alloc]
  have hB1 : Below w.heap.size w a1 := b1
  have hB2 : Below w.heap.size w a2 := hB1.trans (b2.mono hB1.size)
  have k1 := k1.of b2
  have hs2 := hB2.size
  have hs1 := hB1.size
  have ht1 : a1.heap.size ≤ a2.heap.size := b2.size
  have HW1 := Lib.hid hw1
  have HW2 := Lib.hid hw2
  clear hw1 b1 hw2 b2
  have hx2 := hx.below hB2
  have HR := Lib.hid (refAsked_any x p hp a2 hx2 ht)
  have HF := Lib.hid (fun W (hW : Below a2.heap.size a2 W) => refFind_any x p W (hx2.below hW))
  have HO := Lib.hid (fun W (hW : Below a2.heap.size a2 W) => refOwnT_any x W (hx2.below hW))
  have hlk1 := k1.lt
  have hlk2 := k2.lt
  have HG := Lib.hid hx2
  obtain ⟨q0, q1, q2, q3, q4, q5, q6⟩ := k1.all7
  obtain ⟨PP, hPP⟩ : ∃ PP : PTenant × Int, writeU x.plain p i d = PP := ⟨_, rfl⟩
  rw [hPP]
  by_cases hk : askE x.plain p ≠ 0
  · have hc : PP = (noT, askE x.plain p) := by rw [← hPP]; exact write_ask hk
    subst hc
    generalize askE x.plain p = E at *
    clear hPP hx hx2
    go_enter Tryz.func11, Tryz.ntmps11
    go_upto_region 1 with fail
    rw [HW1.out, HW2.out]
    try rw [hX2]
    go_wp2_with fail
    refine HR.out.mono ?_
    rintro e w3 ⟨rfl, hV⟩
    have K2 := k2.of hV
    have hX := hB2.trans (hV.mono hs2)
    obtain ⟨zr0, zr1, zr2, zr3, zr4, zr5, zr6⟩ := K2.all7
    obtain ⟨zrf0, zrf1, zrf2, zrf3, zrf4, zrf5, zrf6⟩ := K2.fz7
    go_wp2
    generalize hwE : World.setCell _ ⟨a1.heap.size, 6, none⟩ _ = wE
    obtain ⟨KE, SE, ZE, BE⟩ := store7 K2 hwE
    obtain ⟨ze0, ze1, ze2, ze3, ze4, ze5, ze6⟩ := KE.all7
    refine bodyPost_ret (v := .tuple #[.agg #[.string ⟨#[]⟩, .int .i64 0, .int .i64 0, .slice none 0 0, .slice none 0 0, .slice none 0 0, .slice none 0 0], .int .i64 E]) (by simp [results, Tryz.results11, go_sem, ze0, ze1, ze2, ze3, ze4, ze5, ze6]) rfl ?_
    exact ansG_no (BE _ _ hX hs1)
  · have hk0 : askE x.plain p = 0 := Classical.not_not.1 hk
    rw [hk0] at HR
    have hh := hasSet_find x p
    by_cases h0 : 0 ≤ findM x p
    · have hpl0 : placeE x.plain p = 0 := by unfold placeE; rw [if_neg hk, if_pos (by rw [hh]; exact decide_eq_true h0)]
      obtain ⟨j, s, hI, hj, hsp, hsa, hok, hip, hnt⟩ := place_ways hpl0
      have hfj : findM x p = j := by rw [← hI]; unfold placeI; rw [if_neg (by rw [hpl0]; decide)]
      rw [hfj] at HF
      have hjl : j < x.sets_.l.length := (List.getElem?_eq_some_iff.1 hj).1
      have hval : PP = (if putE s.body_.l i d.size ≠ 0 then (noT, putE s.body_.l i d.size) else setlP { x.plain with sets_ := chS p (fun s => { s with body_ := putK s.body_ i d }) x.plain.sets_ } : PTenant × Int) := by
        rw [← hPP]
        exact write_some hk0 hsa
      have hris : x.plain.sets_.Pairwise fun a b => ltPath a b = true := (goodL_iff (fun a b c => ltPath_trans a b c)).1 (okT_parts.1 hok).2.2.2 |>.2
      have hchs : chS p (fun s => { s with body_ := putK s.body_ i d }) x.plain.sets_ = x.plain.sets_.set j ((fun s => { s with body_ := putK s.body_ i d }) s.plain) := by
        exact chS_setP hris (j := j) (s := s.plain) (by show (x.sets_.l.map MSet.plain)[j]? = _; rw [List.getElem?_map, hj]; rfl) hsp
      have HCH := Lib.hid hchs
      have HJ := Lib.hid hj
      obtain ⟨E, hE⟩ : ∃ E, putE s.body_.l i d.size = E := ⟨_, rfl⟩
      obtain ⟨R, hR⟩ : ∃ R, putR s.body_.l i d = R := ⟨_, rfl⟩
      have hsg := hx2.gsets_.el s (List.mem_of_getElem? hj)
      have hlenf := hsg.gbody_.len
      have HC := Lib.hid (fun (V : World) (hV : Below a2.heap.size a2 V) => refPut_blk s.body_.A s.body_.c s.body_.l.length s.body_.l rfl (by omega) hsg.gbody_.cap hsg.gbody_.nil (fun z hz => (hsg.gbody_.el z hz).1) i d hd V (hsg.gbody_.rd.below hV))
      rw [hE, hR] at HC
      rw [hE] at hval
      have HE := Lib.hid hE
      have HRR := Lib.hid hR
      have HV := Lib.hid hval
      have HSG := Lib.hid hsg
      clear hPP hh hx hx2 hk hk0 hpl0 hI hj hsp hsa hok hip hnt hfj h0 hris hchs hE hR hval hsg
      go_enter Tryz.func11, Tryz.ntmps11
      go_upto_region 1 with fail
      rw [HW1.out, HW2.out]
      try rw [hX2]
      go_wp2_with fail
      refine HR.out.mono ?_
      rintro e w3 ⟨rfl, hV⟩
      have K1 := k1.of hV
      have K2 := k2.of hV
      obtain ⟨d0, d1, d2, d3, d4, d5, d6⟩ := K1.all7
      go_wp2_with fail
      refine (HF.out _ hV).mono ?_
      rintro e w4 ⟨rfl, hV2⟩
      have hV3 := hV.trans (hV2.mono hV.size)
      have K3 := K1.of hV2
      have K4 := K2.of hV2
      obtain ⟨e0, e1, e2, e3, e4, e5, e6⟩ := K3.all7
      have HOW := Lib.hid (HO.out w4 hV3)
      go_wp2_with fail
      refine HOW.out.mono ?_
      rintro e w5 ⟨y, rfl, hoy, hpy, hV5⟩
      have hs45 := hV5.size
      obtain ⟨w6, hw6⟩ : ∃ w6, w5.alloc (.cells #[.string y.name_, .int .i64 y.quota_, .int .i64 y.next_, .slice y.sets_.A y.sets_.l.length y.sets_.c, .slice y.grants_.A y.grants_.l.length y.grants_.c, .slice y.stages_.A y.stages_.l.length y.stages_.c, .slice y.log_.A y.log_.l.length y.log_.c] 27) = w6 := ⟨_, rfl⟩
      have hV6 : Below w5.heap.size w5 w6 := hw6 ▸ (Below.refl _ w5).alloc (Nat.le_refl _) _
      have kY : Blk w6 w5.heap.size 27 [.string y.name_, .int .i64 y.quota_, .int .i64 y.next_, .slice y.sets_.A y.sets_.l.length y.sets_.c, .slice y.grants_.A y.grants_.l.length y.grants_.c, .slice y.stages_.A y.stages_.l.length y.stages_.c, .slice y.log_.A y.log_.l.length y.log_.c] := hw6 ▸ Blk.new w5 _ _
      have hs56 := hV6.size
      have hV46 := hV5.trans (hV6.mono hs45)
      have hV36 := hV3.trans (hV46.mono hV3.size)
      have K5 := K3.of hV46
      have K6 := K4.of hV46
      have HW6 := Lib.hid hw6
      obtain ⟨b, off, hA, hbl, hcc⟩ := Rd.elem (n := 5) (fun _ => rfl) (by omega) (HG.out.gsets_.rd.below hV36) HJ.out
      have c0 : w6.cell? ⟨b, off + j * 5, none⟩ = some (.string s.path_) := hcc 0 _ rfl
      have c1 : w6.cell? ⟨b, off + j * 5 + 1, none⟩ = some (.string s.origin_) := hcc 1 _ rfl
      have c2 : w6.cell? ⟨b, off + j * 5 + 2, none⟩ = some (.slice s.body_.A s.body_.l.length s.body_.c) := hcc 2 _ rfl
      have c3 : w6.cell? ⟨b, off + j * 5 + 3, none⟩ = some (.slice s.snaps_.A s.snaps_.l.length s.snaps_.c) := hcc 3 _ rfl
      have c4 : w6.cell? ⟨b, off + j * 5 + 4, none⟩ = some (.slice s.own_.A s.own_.l.length s.own_.c) := hcc 4 _ rfl
      clear hcc hw6 e0 e1 e2 e3 e4 e5 e6 d0 d1 d2 d3 d4 d5 d6
      go_upto_region 8 with fail
      rw [HW6.out]
      obtain ⟨h0, h1, h2, h3, h4, h5, h6⟩ := K5.all7
      rw [hA] at h3
      have HA := Lib.hid hA
      clear hA
      obtain ⟨w7, hw7⟩ : ∃ w7, w6.alloc (.cells #[.string s.path_, .string s.origin_, .slice s.body_.A s.body_.l.length s.body_.c, .slice s.snaps_.A s.snaps_.l.length s.snaps_.c, .slice s.own_.A s.own_.l.length s.own_.c] 49) = w7 := ⟨_, rfl⟩
      have hV7 : Below w6.heap.size w6 w7 := hw7 ▸ (Below.refl _ w6).alloc (Nat.le_refl _) _
      have kS : Blk w7 w6.heap.size 49 [.string s.path_, .string s.origin_, .slice s.body_.A s.body_.l.length s.body_.c, .slice s.snaps_.A s.snaps_.l.length s.snaps_.c, .slice s.own_.A s.own_.l.length s.own_.c] := hw7 ▸ Blk.new w6 _ _
      have hs67 := hV7.size
      have hV37 := hV36.trans (hV7.mono hV36.size)
      have kY7 := kY.of hV7
      have K7 := K6.of hV7
      have HW7 := Lib.hid hw7
      have hgy : y.Good w7 := (MTenant.Good.of_own HG.out hpy hoy).below (hV6.trans (hV7.mono hs56))
      have ho7 : OwnTe w4.heap.size w7 y := hoy.below (hV6.trans (hV7.mono hs56))
      have hyl : y.sets_.l.map MSet.plain = x.sets_.l.map MSet.plain := congrArg PTenant.sets_ hpy
      have hjy : j < y.sets_.l.length := by rw [map_len hyl]; exact hjl
      obtain ⟨t, hjt⟩ : ∃ t, y.sets_.l[j]? = some t := ⟨_, qZa hjy⟩
      have htp : t.plain = s.plain := by
        have h9 : (y.sets_.l.map MSet.plain)[j]? = some t.plain := by rw [List.getElem?_map, hjt]; rfl
        rw [hyl, List.getElem?_map, HJ.out] at h9
        simp only [Option.map_some, Option.some.injEq] at h9
        exact h9.symm
      obtain ⟨g, goff, hAy, hgl, hcy⟩ := Rd.elem (n := 5) (fun _ => rfl) (by omega) hgy.gsets_.rd hjt
      have hoff : goff = 0 ∧ w4.heap.size ≤ g := by
        obtain ⟨_, ⟨hv, h0⟩ | ⟨gg, cap, cur, hv, hn, _⟩⟩ := ho7.sets
        · omega
        · injection hv with e1 e2 e3
          rw [hAy] at e1
          injection e1 with e1
          injection e1 with e1 e4
          exact ⟨e4, by omega⟩
      obtain ⟨rfl, hgn⟩ := hoff
      have cy : w7.cell? ⟨g, 0 + j * 5 + 2, none⟩ = some (.slice t.body_.A t.body_.l.length t.body_.c) := hcy 2 _ rfl
      rw [Nat.zero_add] at cy
      have hrow := ho7.sets
      unfold Sl.val at hrow
      rw [hAy] at hrow
      have cfz := own_frozen hrow (j * 5 + 2)
      have HAY := Lib.hid hAy
      have HJT := Lib.hid hjt
      have HTP := Lib.hid htp
      have HYL := Lib.hid hyl
      have HPY := Lib.hid hpy
      have HGY := Lib.hid hgy
      have HO7 := Lib.hid ho7
      have hly := kY7.lt
      have hlS := kS.lt
      clear hw7 hgy ho7 hyl hjt htp hcy hrow hpy hoy
      go_upto_region 12 with fail
      rw [HW7.out]
      clear c0 c1 c2 c3 c4 h0 h1 h2 h3 h4 h5 h6
      obtain ⟨m0, m1, m2, m3, m4, m5, m6⟩ := kY7.all7
      obtain ⟨n0, n1, n2, n3, n4⟩ := kS.all5
      rw [HAY.out] at m3
      refine wp_region_noPanic ?_
      refine wp_region_last 13 (fun W => W.cell? ⟨w5.heap.size, 3, none⟩ = some (.slice (some ⟨g, 0, none⟩) y.sets_.l.length y.sets_.c) ∧ W.cell? ⟨w6.heap.size, 2, none⟩ = some (.slice s.body_.A s.body_.l.length s.body_.c) ∧ W.cell? ⟨g, j * 5 + 2, none⟩ = some (.slice t.body_.A t.body_.l.length t.body_.c) ∧ W.frozen? ⟨g, j * 5 + 2, none⟩ = false) (by kernel_rfl) ⟨m3, n2, cy, cfz⟩ (fun hHeld => ?_)
      refine tkA 16 (i := 0) (oi := ⟨some 56, _, _, _, _, _⟩) rfl hHeld ?_
      try simp only [Act.put, pZa, pZb, pZc]
      refine tkA 16 (i := 1) (oi := ⟨some 57, _, _, _, _, _⟩) rfl hHeld ?_
      try simp only [Act.put, pZa, pZb, pZc]
      refine tkA 16 (i := 2) (oi := ⟨some 58, _, _, _, _, _⟩) rfl hHeld ?_
      try simp only [Act.put, pZa, pZb, pZc]
      refine tkA 16 (i := 3) (oi := ⟨some 59, _, _, _, _, _⟩) rfl hHeld ?_
      try simp only [Act.put, pZa, pZb, pZc]
      refine tkA 16 (i := 4) (oi := ⟨some 60, _, _, _, _, _⟩) rfl hHeld ?_
      try simp only [Act.put, pZa, pZb, pZc]
      refine tkA 16 (i := 5) (oi := ⟨some 61, _, _, _, _, _⟩) rfl hHeld ?_
      try simp only [Act.put, pZa, pZb, pZc]
      refine tkA 16 (i := 6) (oi := ⟨some 62, _, _, _, _, _⟩) rfl hHeld ?_
      try simp only [Act.put, pZa, pZb, pZc]
      clear hHeld
      refine wpAnyL_facts 16 1 7 [(7, 63)] (fun s v w => match s with
        | 63 => ∃ A13 c13, v = .tuple #[.slice A13 R.length c13, .int .i64 E] ∧ w.ownsRow w7.heap.size 103 2 (.slice A13 R.length c13) R.length (R.flatMap bkC)
        | _ => True) (fun w w' => Below w.heap.size w w') (by kernel_rfl) (by kernel_rfl) bZh ⟨?_, trivial⟩ (fun w' hB => ⟨(hB.cell (p := ⟨w5.heap.size, 3, none⟩) hly).trans m3, (hB.cell (p := ⟨w6.heap.size, 2, none⟩) hlS).trans n2, (hB.cell (p := ⟨g, j * 5 + 2, none⟩) hgl).trans cy, (hB.frozen (p := ⟨g, j * 5 + 2, none⟩) hgl).trans cfz⟩) ⟨?_, trivial⟩ ?_
      focus
        intro v w w' h hB
        exact (by obtain ⟨A13, c13, e, hb⟩ := h; exact ⟨A13, c13, e, ownBelow hb hB (Nat.le_refl _)⟩)
      focus
        intro vs w2 hBf hFf o ho K hK
        obtain rfl : (⟨some 63, _, _, _, _, _⟩ : Oper) = o := Option.some.inj ho
        clear ho
        (try simp only [fillL, pZd, pZe, Act.put, pZa, pZb, pZc] at hK ⊢)
        go_simp
        refine (HC.out _ (hV37.trans (((Below.refl w7.heap.size w7).drew.trans hBf).mono hV37.size))).mono ?_
        rintro e w4 ⟨v4, rfl, ho4, hB4⟩
        obtain ⟨A4, c4, rfl, _, _, _, _⟩ := ownAny ho4
        exact hK.out _ _ ⟨⟨A4, c4, rfl, ownBase ho4 ((Below.refl w7.heap.size w7).drew.trans hBf).size⟩, hB4⟩
      intro vs w2 hBf hFf
      (try simp only [fillL, pZd, pZe, Act.put, pZa, pZb, pZc])
      obtain ⟨A13, c13, e13, h13⟩ := (hFf (7, 63) (by simp))
      simp only [e13]
      have hBw : Below w7.heap.size w7 w2 := (Below.refl w7.heap.size w7).drew.trans hBf
      have H13 := Lib.hid h13
      clear h13
      have hHeld : (fun W => W.cell? ⟨w5.heap.size, 3, none⟩ = some (.slice (some ⟨g, 0, none⟩) y.sets_.l.length y.sets_.c) ∧ W.cell? ⟨w6.heap.size, 2, none⟩ = some (.slice s.body_.A s.body_.l.length s.body_.c) ∧ W.cell? ⟨g, j * 5 + 2, none⟩ = some (.slice t.body_.A t.body_.l.length t.body_.c) ∧ W.frozen? ⟨g, j * 5 + 2, none⟩ = false) w2 := ⟨(hBf.cell (p := ⟨w5.heap.size, 3, none⟩) hly).trans m3, (hBf.cell (p := ⟨w6.heap.size, 2, none⟩) hlS).trans n2, (hBf.cell (p := ⟨g, j * 5 + 2, none⟩) hgl).trans cy, (hBf.frozen (p := ⟨g, j * 5 + 2, none⟩) hgl).trans cfz⟩
      refine tkA 16 (i := 8) (oi := ⟨some 55, _, _, _, _, _⟩) rfl hHeld ?_
      try simp only [Act.put, pZa, pZb, pZc]
      refine tkA 16 (i := 9) (oi := ⟨some 64, _, _, _, _, _⟩) rfl hHeld ?_
      try simp only [Act.put, pZa, pZb, pZc]
      refine wpAnyL_takeW (i := 10) (oi := ⟨some 65, _, _, _, _, _⟩) (v := ?_) rfl (by kernel_rfl) (by kernel_rfl) (by kernel_rfl) (by kernel_rfl) (fun _ _ _ h => h) (Or.inl ⟨by rfl, ?_⟩) (.inr hHeld) ?_
      rotate_left
      focus (intro w hSw; (try dsimp only at hSw); go_simp; try (with_reducible rfl))
      try simp only [Act.put, pZa, pZb, pZc]
      refine tkA 16 (i := 11) (oi := ⟨some 66, _, _, _, _, _⟩) rfl hHeld ?_
      try simp only [Act.put, pZa, pZb, pZc]
      refine tkA 16 (i := 12) (oi := ⟨some 67, _, _, _, _, _⟩) rfl hHeld ?_
      try simp only [Act.put, pZa, pZb, pZc]
      refine wpAnyL_last (i := 13) (o := ⟨none, _, _, _, _, _⟩) (by kernel_rfl) rfl (by kernel_rfl) (fun K hK => ?_)
      go_simp
      go_wp2_with fail
      refine hK.out _ _ ?_
      clear hK K
      try simp only [Act.put, pZa, pZb, pZc]
      refine wpAnyL_last (i := 14) (o := ⟨some 16, _, _, _, _, _⟩) (by kernel_rfl) rfl (by kernel_rfl) (fun K hK => ?_)
      go_simp
      refine hK.out _ _ ?_
      clear hK K
      try simp only [Act.put, pZa, pZb, pZc]
      refine wpAnyL_done (by kernel_rfl) ?_ _
      refine NoPanic.normal ?_
      have hrow2 := (HO7.out.below hBw).sets
      unfold Sl.val at hrow2
      rw [HAY.out] at hrow2
      have hgY : w5.heap.size ≠ g := fun e => own_not hrow2 (kY7.of hBw) (by decide) (by rw [e]; rfl)
      have hgR : a1.heap.size ≠ g := fun e => own_not hrow2 (K7.of hBw) (by decide) (by rw [e]; rfl)
      have kY8 := (kY7.of hBw).other (g' := g) hgY (j * 5 + 2) (.slice A13 R.length c13)
      have K8 := (K7.of hBw).other (g' := g) hgR (j * 5 + 2) (.slice A13 R.length c13)
      have hsz37 := hV37.size
      have hbase : w.heap.size ≤ w4.heap.size := Nat.le_trans hs2 hV3.size
      have hwg : w.heap.size ≤ g := Nat.le_trans hbase hgn
      have hX8 : Below w.heap.size w (w2.setCell ⟨g, j * 5 + 2, none⟩ (.slice A13 R.length c13)) := ((hB2.trans ((hV37.trans (hBw.mono hsz37)).mono hs2))).setCell (p := ⟨g, j * 5 + 2, none⟩) hwg _
      have hkp := keeps_setIn hrow2 (j * 5 + 2) (.slice A13 R.length c13)
      have h13' := own_keeps H13.out (by decide) hkp
      have htu : E = 0 → OwnTe w4.heap.size (w2.setCell ⟨g, j * 5 + 2, none⟩ (.slice A13 R.length c13)) ({ y with sets_ := ⟨some ⟨g, 0, none⟩, y.sets_.l.set j (⟨t.path_, t.origin_, ⟨A13, R, c13⟩, t.snaps_, t.own_⟩ : MSet), y.sets_.c⟩ } : MTenant) ∧ ({ y with sets_ := ⟨some ⟨g, 0, none⟩, y.sets_.l.set j (⟨t.path_, t.origin_, ⟨A13, R, c13⟩, t.snaps_, t.own_⟩ : MSet), y.sets_.c⟩ } : MTenant).Good (w2.setCell ⟨g, j * 5 + 2, none⟩ (.slice A13 R.length c13)) := fun h0 => by
        have hE0 : putE s.body_.l i d.size = 0 := by rw [HE.out]; exact h0
        have hRk : R = putK s.body_.l i d := by
          rw [← HRR.out]
          exact if_pos hE0
        have h9 := (HO7.out.eset t (List.mem_of_getElem? HJT.out)).below hBw
        have htg := HGY.out.gsets_.el t (List.mem_of_getElem? HJT.out)
        have hss := MSet.Good.of_own htg rfl (h9.setIn hkp)
        have hgr : SlGood (w2.setCell ⟨g, j * 5 + 2, none⟩ (.slice A13 R.length c13)) bkC goodBk 24 ⟨A13, R, c13⟩ := slGood_of h13' rfl (by rw [hRk]; intro z hz; have h9 := okK_mem (putK_ok hE0) z hz; exact ⟨by omega, by omega, by omega⟩) (by rw [hRk]; have h9 := okK_len (putK_ok hE0); omega)
        exact turned hBw HO7.out HGY.out HAY.out HJT.out (by decide) (by rfl) ⟨ownBase H13.out (by omega), h9.snaps, h9.own, h9.each⟩ ⟨hss.gpath_, hss.gorigin_, hgr, hss.gsnaps_, hss.gown_⟩
      have hpl : E = 0 → ({ y with sets_ := ⟨some ⟨g, 0, none⟩, y.sets_.l.set j (⟨t.path_, t.origin_, ⟨A13, R, c13⟩, t.snaps_, t.own_⟩ : MSet), y.sets_.c⟩ } : MTenant).plain = { x.plain with sets_ := chS p (fun s => { s with body_ := putK s.body_ i d }) x.plain.sets_ } := fun h0 => by
        have hE0 : putE s.body_.l i d.size = 0 := by rw [HE.out]; exact h0
        have hRk : R = putK s.body_.l i d := by
          rw [← HRR.out]
          exact if_pos hE0
        rw [HCH.out]
        show ({ y.plain with sets_ := (y.sets_.l.set j (⟨t.path_, t.origin_, ⟨A13, R, c13⟩, t.snaps_, t.own_⟩ : MSet)).map MSet.plain } : PTenant) = _
        rw [List.map_set, HYL.out, HPY.out, hRk]
        have e1 : (⟨t.path_, t.origin_, ⟨A13, (putK s.body_.l i d), c13⟩, t.snaps_, t.own_⟩ : MSet).plain = (fun s => { s with body_ := putK s.body_ i d }) s.plain := by
          have hb : s.body_.l = t.body_.l := (congrArg PSet.body_ HTP.out).symm
          rw [← HTP.out, hb]
          rfl
        rw [e1]
        rfl
      obtain ⟨w8, hw8⟩ : ∃ w8, w2.setCell ⟨g, j * 5 + 2, none⟩ (.slice A13 R.length c13) = w8 := ⟨_, rfl⟩
      rw [hw8] at kY8 K8 hX8 htu
      have HT := Lib.hid htu
      have HPL := Lib.hid hpl
      have HW8 := Lib.hid hw8
      rw [HAY.out] at kY8
      have hlK := K8.lt
      have hlk9 : a1.heap.size < w4.heap.size := by have := hV3.size; omega
      clear htu hpl hw8 h13' hkp hrow2 m0 m1 m2 m3 m4 m5 m6 n0 n1 n2 n3 n4
      go_upto_region 17 with fail
      try rw [HW8.out]
      by_cases hz : E = 0
      · subst hz
        obtain ⟨hoT, hgT⟩ := HT.out rfl
        have hplT := HPL.out rfl
        have hPE : PP = setlP { x.plain with sets_ := chS p (fun s => { s with body_ := putK s.body_ i d }) x.plain.sets_ } := by rw [HV.out]; exact if_neg (by decide)
        subst hPE
        obtain ⟨Y, hY⟩ : ∃ Y : MTenant, ({ y with sets_ := ⟨some ⟨g, 0, none⟩, y.sets_.l.set j (⟨t.path_, t.origin_, ⟨A13, R, c13⟩, t.snaps_, t.own_⟩ : MSet), y.sets_.c⟩ } : MTenant) = Y := ⟨_, rfl⟩
        have hYc : Y.cells.toArray = #[.string y.name_, .int .i64 y.quota_, .int .i64 y.next_, .slice (some ⟨g, 0, none⟩) y.sets_.l.length y.sets_.c, .slice y.grants_.A y.grants_.l.length y.grants_.c, .slice y.stages_.A y.stages_.l.length y.stages_.c, .slice y.log_.A y.log_.l.length y.log_.c] := by rw [← hY]; simp only [MTenant.cells, List.length_set]
        rw [hY] at hoT hgT hplT
        have HS := Lib.hid (refSettled_any Y w8 hgT)
        rw [hYc] at HS
        obtain ⟨EE, hEE⟩ : ∃ EE, (setlP Y.plain).2 = EE := ⟨_, rfl⟩
        rw [hEE] at HS
        have hEP : (setlP { x.plain with sets_ := chS p (fun s => { s with body_ := putK s.body_ i d }) x.plain.sets_ }).2 = EE := by rw [← hEE, hplT]
        obtain ⟨z, hzz⟩ : ∃ z, setlM Y = z := ⟨_, rfl⟩
        have HEP := Lib.hid hEP
        have HYP := Lib.hid hplT
        rw [hzz] at HS
        clear hY hYc hEE hEP hplT
        obtain ⟨m0, m1, m2, m3, m4, m5, m6⟩ := kY8.all7
        go_wp2_with fail
        refine HS.out.mono ?_
        rintro e w9 ⟨rfl, hV9, hfr⟩
        have hoz : OwnTe w4.heap.size w9 z := hzz ▸ setlM_own (hoT.stays fun b _ hb2 => hfr b hb2)
        have hgz : z.Good w9 := hzz ▸ setlM_good (hgT.below hV9)
        have hpz : z.plain = (setlP Y.plain).1 := hzz ▸ setlM_plain Y
        have K9 := K8.of hV9
        have hX9 := hX8.trans (hV9.mono hX8.size)
        obtain ⟨zr0, zr1, zr2, zr3, zr4, zr5, zr6⟩ := K9.all7
        obtain ⟨zrf0, zrf1, zrf2, zrf3, zrf4, zrf5, zrf6⟩ := K9.fz7
        go_wp2
        generalize hwE : World.setCell _ ⟨a1.heap.size, 6, none⟩ _ = wE
        obtain ⟨KE, SE, ZE, BE⟩ := store7 K9 hwE
        obtain ⟨ze0, ze1, ze2, ze3, ze4, ze5, ze6⟩ := KE.all7
        refine bodyPost_ret (v := .tuple #[.agg #[.string z.name_, .int .i64 z.quota_, .int .i64 z.next_, .slice z.sets_.A z.sets_.l.length z.sets_.c, .slice z.grants_.A z.grants_.l.length z.grants_.c, .slice z.stages_.A z.stages_.l.length z.stages_.c, .slice z.log_.A z.log_.l.length z.log_.c], .int .i64 EE]) (by simp [results, Tryz.results11, go_sem, ze0, ze1, ze2, ze3, ze4, ze5, ze6]) rfl ?_
        rw [HYP.out] at hpz
        exact ⟨z, by rw [HEP.out], MTenant.Good.of_own hgz rfl (hoz.store hlk9 SE), hpz, BE _ _ hX9 hs1⟩
      · have hPE : PP = (noT, E) := by rw [HV.out]; exact if_pos hz
        subst hPE
        obtain ⟨zr0, zr1, zr2, zr3, zr4, zr5, zr6⟩ := K8.all7
        obtain ⟨zrf0, zrf1, zrf2, zrf3, zrf4, zrf5, zrf6⟩ := K8.fz7
        go_wp2
        generalize hwE : World.setCell _ ⟨a1.heap.size, 6, none⟩ _ = wE
        obtain ⟨KE, SE, ZE, BE⟩ := store7 K8 hwE
        obtain ⟨ze0, ze1, ze2, ze3, ze4, ze5, ze6⟩ := KE.all7
        refine bodyPost_ret (v := .tuple #[.agg #[.string ⟨#[]⟩, .int .i64 0, .int .i64 0, .slice none 0 0, .slice none 0 0, .slice none 0 0, .slice none 0 0], .int .i64 E]) (by simp [results, Tryz.results11, go_sem, ze0, ze1, ze2, ze3, ze4, ze5, ze6]) rfl ?_
        exact ansG_no (BE _ _ hX8 hs1)
    · have hpl : hasSet x.plain p = false := by rw [hh]; simpa using h0
      have hsn := hasSet_no.1 hpl
      have hc : PP = (noT, 71) := by
        rw [← hPP]
        exact write_none hk0 hsn
      subst hc
      generalize findM x p = F at *
      clear hPP hpl hsn hh hx hx2 hk hk0
      go_enter Tryz.func11, Tryz.ntmps11
      go_upto_region 1 with fail
      rw [HW1.out, HW2.out]
      try rw [hX2]
      go_wp2_with fail
      refine HR.out.mono ?_
      rintro e w3 ⟨rfl, hV⟩
      have K1 := k1.of hV
      have K2 := k2.of hV
      obtain ⟨d0, d1, d2, d3, d4, d5, d6⟩ := K1.all7
      go_wp2_with fail
      refine (HF.out _ hV).mono ?_
      rintro e w4 ⟨rfl, hV2⟩
      have hV3 := hV.trans (hV2.mono hV.size)
      have K3 := K1.of hV2
      have K4 := K2.of hV2
      have hX := hB2.trans (hV3.mono hs2)
      obtain ⟨zr0, zr1, zr2, zr3, zr4, zr5, zr6⟩ := K4.all7
      obtain ⟨zrf0, zrf1, zrf2, zrf3, zrf4, zrf5, zrf6⟩ := K4.fz7
      go_wp2
      generalize hwE : World.setCell _ ⟨a1.heap.size, 6, none⟩ _ = wE
      obtain ⟨KE, SE, ZE, BE⟩ := store7 K4 hwE
      obtain ⟨ze0, ze1, ze2, ze3, ze4, ze5, ze6⟩ := KE.all7
      refine bodyPost_ret (v := .tuple #[.agg #[.string ⟨#[]⟩, .int .i64 0, .int .i64 0, .slice none 0 0, .slice none 0 0, .slice none 0 0, .slice none 0 0], .int .i64 71]) (by simp [results, Tryz.results11, go_sem, ze0, ze1, ze2, ze3, ze4, ze5, ze6]) rfl ?_
      exact ansG_no (BE _ _ hX hs1)
theorem snapT_is {x : MTenant} {p n : ByteArray} {j : Nat} {s : MSet} (hok : okT x.plain = true) (hj : x.sets_.l[j]? = some s) (hsp : s.path_ = p) : snapT x.plain p n = { x.plain with sets_ := x.plain.sets_.set j { s.plain with snaps_ := s.plain.snaps_ ++ [{ name_ := n, guid_ := snapG x.plain p, tags_ := [], body_ := s.plain.body_, own_ := s.plain.own_ }] }, next_ := snapG x.plain p + 1 } := by
  unfold snapT mapP
  rw [← map_turn (f := fun y : PSet => { y with snaps_ := y.snaps_ ++ [{ name_ := n, guid_ := snapG x.plain p, tags_ := [], body_ := y.body_, own_ := y.own_ }] }) hok (j := j) (s := s.plain) (by show (x.sets_.l.map MSet.plain)[j]? = _; rw [List.getElem?_map, hj]; rfl) hsp]
  rfl
theorem snap_at17 {x y : MTenant} {p n : ByteArray} {j : Nat} {s : MSet} (hok : okT x.plain = true) (hj : x.sets_.l[j]? = some s) (hsp : s.path_ = p) (hy : y.plain = snapT x.plain p n) : ∃ (c : MSet) (z : MSnap), y.sets_.l[j]? = some c ∧ c.body_.l = s.body_.l ∧ c.own_.l = s.own_.l ∧ c.snaps_.l.getLast? = some z ∧ z.body_.l = c.body_.l := by
  have hl : y.sets_.l.map MSet.plain = x.plain.sets_.set j { s.plain with snaps_ := s.plain.snaps_ ++ [{ name_ := n, guid_ := snapG x.plain p, tags_ := [], body_ := s.plain.body_, own_ := s.plain.own_ }] } := by
    show y.plain.sets_ = _
    rw [hy, snapT_is hok hj hsp]
  have hjx : j < x.plain.sets_.length := by
    rw [show x.plain.sets_ = x.sets_.l.map MSet.plain from rfl, List.length_map]
    exact (List.getElem?_eq_some_iff.1 hj).1
  have h1 : (y.sets_.l.map MSet.plain)[j]? = some { s.plain with snaps_ := s.plain.snaps_ ++ [{ name_ := n, guid_ := snapG x.plain p, tags_ := [], body_ := s.plain.body_, own_ := s.plain.own_ }] } := by
    rw [hl, List.getElem?_set_self hjx]
  rw [List.getElem?_map] at h1
  rcases hc : y.sets_.l[j]? with _ | c
  · rw [hc] at h1
    cases h1
  · rw [hc] at h1
    simp only [Option.map_some, Option.some.injEq] at h1
    have e1 : c.body_.l = s.body_.l := congrArg PSet.body_ h1
    have e2 : c.own_.l = s.own_.l := congrArg PSet.own_ h1
    have e3 : c.snaps_.l.map MSnap.plain = s.plain.snaps_ ++ [{ name_ := n, guid_ := snapG x.plain p, tags_ := [], body_ := s.plain.body_, own_ := s.plain.own_ }] := congrArg PSet.snaps_ h1
    have e4 : (c.snaps_.l.getLast?).map MSnap.plain = some { name_ := n, guid_ := snapG x.plain p, tags_ := [], body_ := s.plain.body_, own_ := s.plain.own_ } := by
      rw [← List.getLast?_map, e3, List.getLast?_append]
      rfl
    rcases hz : c.snaps_.l.getLast? with _ | z
    · rw [hz] at e4
      cases e4
    · rw [hz] at e4
      simp only [Option.map_some, Option.some.injEq] at e4
      have e5 : z.body_.l = s.body_.l := congrArg PSnap.body_ e4
      exact ⟨c, z, rfl, e1, e2, hz, e5.trans e1.symm⟩
set_option maxHeartbeats 4000000 in
theorem back17_walk (x : MTenant) (p n : ByteArray) (i : Int) (d : ByteArray) (hp : p.size ≤ 140737488351232) (hn : n.size ≤ 140737488351232) (hd : d.size ≤ 140737488351232) (w : World) (hx : x.Good w) :
    Calls Tryz.prog 6 #[.agg x.cells.toArray, .string p, .string n, .int .i64 i, .string d] w fun e w' => e = .returned (.bool true) ∧ Below w.heap.size w w' := by
  obtain ⟨a1, hw1⟩ : ∃ a1, w.alloc (.cells #[.string x.name_, .int .i64 x.quota_, .int .i64 x.next_, .slice x.sets_.A x.sets_.l.length x.sets_.c, .slice x.grants_.A x.grants_.l.length x.grants_.c, .slice x.stages_.A x.stages_.l.length x.stages_.c, .slice x.log_.A x.log_.l.length x.log_.c] 27) = a1 := ⟨_, rfl⟩
  have b1 : Below w.heap.size w a1 := hw1 ▸ (Below.refl _ w).alloc (Nat.le_refl _) _
  have k1 : Blk a1 w.heap.size 27 [.string x.name_, .int .i64 x.quota_, .int .i64 x.next_, .slice x.sets_.A x.sets_.l.length x.sets_.c, .slice x.grants_.A x.grants_.l.length x.grants_.c, .slice x.stages_.A x.stages_.l.length x.stages_.c, .slice x.log_.A x.log_.l.length x.log_.c] := hw1 ▸ Blk.new w _ _
  have hB1 : Below w.heap.size w a1 := b1
  have hs1 := hB1.size
  have HW1 := Lib.hid hw1
  clear hw1 b1
  have hx1 := hx.below hB1
  have HX1 := Lib.hid hx1
  have HA := Lib.hid (alive17_any a1)
  obtain ⟨X0, hX0⟩ : ∃ X, snapshotP x.plain p n = X := ⟨_, rfl⟩
  have H1 : Hid (∀ W, x.Good W → Calls Tryz.prog 24 #[.agg x.cells.toArray, .string p, .string n] W fun e w' => ∃ y : MTenant, e = .returned (.tuple #[.agg y.cells.toArray, .int .i64 X0.2.1, .int .i64 X0.2.2]) ∧ y.Good w' ∧ y.plain = X0.1 ∧ Below W.heap.size W w') := Lib.hid fun W hW => by
    have h9 := snapshot_any x p n hp hn W hW
    rw [hX0] at h9
    exact h9.mono fun e w' ⟨y, h1, _, h3, h4, h5⟩ => ⟨y, h1, h3, h4, h5⟩
  have HX0 := Lib.hid hX0
  clear hX0 hx
  go_enter Tryz.func6, Tryz.ntmps6
  go_upto_region 1 with fail
  rw [HW1.out]
  have hlk0 := k1.lt
  have G2 := Lib.hid (HA.out)
  go_wp2_with fail
  refine G2.out.mono ?_
  rintro e v2 ⟨rfl, hV2⟩
  clear G2
  have hU_3 : Below a1.heap.size a1 v2 := (Below.refl a1.heap.size a1).trans ((hV2).mono (Below.refl a1.heap.size a1).size)
  have k1 := k1.of hV2
  have hx1 := hx1.below hV2
  obtain ⟨q1_k1_0, q1_k1_1, q1_k1_2, q1_k1_3, q1_k1_4, q1_k1_5, q1_k1_6⟩ := k1.all7
  have G4 := Lib.hid (H1.out v2 hx1)
  go_wp2_with fail
  refine G4.out.mono ?_
  rintro e v4 ⟨y, rfl, hgy, hpy, hV4⟩
  clear G4
  have hU_5 : Below a1.heap.size a1 v4 := hU_3.trans ((hV4).mono hU_3.size)
  have k1 := k1.of hV4
  have hx1 := hx1.below hV4
  clear q1_k1_0 q1_k1_1 q1_k1_2 q1_k1_3 q1_k1_4 q1_k1_5 q1_k1_6
  have HGY := Lib.hid hgy
  have hD := Below.refl v4.heap.size v4
  have hUv0 := hU_5
  obtain ⟨z6, hz6⟩ : ∃ z, v4.alloc (.cells #[.string y.name_, .int .i64 y.quota_, .int .i64 y.next_, .slice y.sets_.A y.sets_.l.length y.sets_.c, .slice y.grants_.A y.grants_.l.length y.grants_.c, .slice y.stages_.A y.stages_.l.length y.stages_.c, .slice y.log_.A y.log_.l.length y.log_.c] 27) = z := ⟨_, rfl⟩
  have hAz6 : Below v4.heap.size v4 z6 := hz6 ▸ (Below.refl _ v4).alloc (Nat.le_refl _) _
  have ky : Blk z6 v4.heap.size 27 [.string y.name_, .int .i64 y.quota_, .int .i64 y.next_, .slice y.sets_.A y.sets_.l.length y.sets_.c, .slice y.grants_.A y.grants_.l.length y.grants_.c, .slice y.stages_.A y.stages_.l.length y.stages_.c, .slice y.log_.A y.log_.l.length y.log_.c] := hz6 ▸ Blk.new v4 _ _
  have HZz6 := Lib.hid hz6
  clear hz6
  have hU_7 : Below a1.heap.size a1 z6 := hU_5.trans ((hAz6).mono hU_5.size)
  have k1 := k1.of hAz6
  have hx1 := hx1.below hAz6
  have hgy := hgy.below hAz6
  have hD := hD.trans ((hAz6).mono hD.size)
  by_cases hz : X0.2.2 = 0
  · skip
    have hq0 : snapE x.plain p n = 0 ∨ True := .inr trivial
    obtain ⟨hXe, hok2, hc2⟩ := snapshot_may (show (snapshotP x.plain p n).2.2 = 0 by rw [HX0.out]; exact hz)
    have hE : snapE x.plain p n = 0 := by
      by_cases h8 : snapE x.plain p n = 0
      · exact h8
      · have h9 : (snapshotP x.plain p n).2.2 = snapE x.plain p n := by unfold snapshotP; rw [if_pos h8]
        rw [HX0.out, hz] at h9
        exact h9.symm
    obtain ⟨hok, hip, hin, s0, hsa, _⟩ := snapE_ways hE
    obtain ⟨j, s, hFj, hj, hsp, _⟩ : ∃ (j : Nat) (s : MSet), findM x p = j ∧ x.sets_.l[j]? = some s ∧ s.path_ = p ∧ setAt x.plain p = some s.plain := by
      rcases set_ways x p with ⟨_, b⟩ | h9
      · rw [b] at hsa
        cases hsa
      · exact h9
    rw [HX0.out] at hXe
    have hpy : y.plain = snapT x.plain p n := by rw [hpy, hXe]
    rw [hz]
    obtain ⟨W1, hW1⟩ : ∃ W, writeP (snapT x.plain p n) p i d = W := ⟨_, rfl⟩
    have hp42 : p.size ≤ 4398046511104 := by have := path_len hip; omega
    have HF : Hid (∀ W, x.Good W → Calls Tryz.prog 36 #[.agg x.cells.toArray, .string p] W fun e w' => e = .returned (.int .i64 (j : Int)) ∧ Below W.heap.size W w') := Lib.hid fun W hW => by
      have h9 := refFind_any x p W hW
      rwa [hFj] at h9
    have H2 : Hid (∀ W, y.Good W → Calls Tryz.prog 11 #[.agg y.cells.toArray, .string p, .int .i64 1, .int .i64 i, .int .i64 0, .string ⟨#[]⟩, .string d] W fun e w' => AnsG W W1 e w') := Lib.hid fun W hW => by
      have h9 := refTurn1_any y p i d hp42 hd W hW (tiny_of (by rw [hpy]; exact hok2))
      rw [hpy, write_isP, hW1] at h9
      exact h9
    have h1 := (show (snapshotP x.plain p n).2.2 = 0 by rw [HX0.out]; exact hz)
    have H3 : Hid (∀ (b : MTenant) W, b.Good W → (b.plain = snapT x.plain p n ∨ (b.plain = W1.1 ∧ W1.2 = 0)) → Calls Tryz.prog 28 #[.agg b.cells.toArray, .string p, .string n] W fun e w' => ∃ c : MTenant, e = .returned (.tuple #[.agg c.cells.toArray, .int .i64 0]) ∧ c.Good w' ∧ c.plain = snapT x.plain p n ∧ Below W.heap.size W w') := Lib.hid fun b W hW hb => by
      have h9 := rollback_any b p n hp W hW
      have hr : rollP b.plain p n = (snapT x.plain p n, 0) := by
        rcases hb with hb | ⟨hb, hb0⟩
        · rw [hb]
          exact back_now h1
        · rw [hb, ← hW1]
          exact back_written h1 (by rw [hW1]; exact hb0)
      rw [hr] at h9
      exact h9.mono fun e w' ⟨c, a1, _, a3, a4, a5⟩ => ⟨c, a1, a3, a4, a5⟩
    have HJ := Lib.hid hj
    have HSN : Hid (∀ c : MTenant, c.plain = snapT x.plain p n → ∃ (c' : MSet) (z : MSnap), c.sets_.l[j]? = some c' ∧ c'.body_.l = s.body_.l ∧ c'.own_.l = s.own_.l ∧ c'.snaps_.l.getLast? = some z ∧ z.body_.l = c'.body_.l) := Lib.hid fun c hc => snap_at17 hok hj hsp hc
    have HPY := Lib.hid hpy
    have hjl : j < x.sets_.l.length := (List.getElem?_eq_some_iff.1 hj).1
    clear hq0 hXe hok2 hc2 hE hok hip hin hsa hFj hj hsp hpy hW1 h1 hz H1 HX0 HA hp hn hd hp42
    go_upto_region 4 with fail
    rw [HZz6.out]
    go_upto_region 6 with fail
    obtain ⟨q2_k1_0, q2_k1_1, q2_k1_2, q2_k1_3, q2_k1_4, q2_k1_5, q2_k1_6⟩ := k1.all7
    have G8 := Lib.hid (HF.out z6 hx1)
    go_wp2_with fail
    refine G8.out.mono ?_
    rintro e v8 ⟨rfl, hV8⟩
    clear G8
    have hU_9 : Below a1.heap.size a1 v8 := hU_7.trans ((hV8).mono hU_7.size)
    have k1 := k1.of hV8
    have ky := ky.of hV8
    have hx1 := hx1.below hV8
    have hgy := hgy.below hV8
    have hD := hD.trans ((hV8).mono hD.size)
    clear q2_k1_0 q2_k1_1 q2_k1_2 q2_k1_3 q2_k1_4 q2_k1_5 q2_k1_6
    go_upto_region 7 with fail
    obtain ⟨q3_ky_0, q3_ky_1, q3_ky_2, q3_ky_3, q3_ky_4, q3_ky_5, q3_ky_6⟩ := ky.all7
    have G10 := Lib.hid (H2.out v8 hgy)
    go_wp2_with fail
    refine G10.out.mono ?_
    rintro e v10 ⟨b, rfl, hgb, hpb, hV10⟩
    clear G10
    have hU_11 : Below a1.heap.size a1 v10 := hU_9.trans ((hV10).mono hU_9.size)
    have k1 := k1.of hV10
    have ky := ky.of hV10
    have hx1 := hx1.below hV10
    have hgy := hgy.below hV10
    have hD := hD.trans ((hV10).mono hD.size)
    clear q3_ky_0 q3_ky_1 q3_ky_2 q3_ky_3 q3_ky_4 q3_ky_5 q3_ky_6
    have leB := hD.size
    obtain ⟨z12, hz12⟩ : ∃ z, v10.alloc (.cells #[.string b.name_, .int .i64 b.quota_, .int .i64 b.next_, .slice b.sets_.A b.sets_.l.length b.sets_.c, .slice b.grants_.A b.grants_.l.length b.grants_.c, .slice b.stages_.A b.stages_.l.length b.stages_.c, .slice b.log_.A b.log_.l.length b.log_.c] 27) = z := ⟨_, rfl⟩
    have hAz12 : Below v10.heap.size v10 z12 := hz12 ▸ (Below.refl _ v10).alloc (Nat.le_refl _) _
    have kb : Blk z12 v10.heap.size 27 [.string b.name_, .int .i64 b.quota_, .int .i64 b.next_, .slice b.sets_.A b.sets_.l.length b.sets_.c, .slice b.grants_.A b.grants_.l.length b.grants_.c, .slice b.stages_.A b.stages_.l.length b.stages_.c, .slice b.log_.A b.log_.l.length b.log_.c] := hz12 ▸ Blk.new v10 _ _
    have HZz12 := Lib.hid hz12
    clear hz12
    have hU_13 : Below a1.heap.size a1 z12 := hU_11.trans ((hAz12).mono hU_11.size)
    have k1 := k1.of hAz12
    have ky := ky.of hAz12
    have hx1 := hx1.below hAz12
    have hgy := hgy.below hAz12
    have hgb := hgb.below hAz12
    have hD := hD.trans ((hAz12).mono hD.size)
    go_upto_region 8 with fail
    rw [HZz12.out]
    by_cases hz2 : W1.2 = 0
    · skip
      have hbw : b.plain = snapT x.plain p n ∨ (b.plain = W1.1 ∧ W1.2 = 0) := .inr ⟨hpb, hz2⟩
      have hq2 : (W1.2 == 0) = true := beq_iff_eq.2 hz2
      clear hz2
      go_upto_region 10 with fail
      obtain ⟨q4_kb_0, q4_kb_1, q4_kb_2, q4_kb_3, q4_kb_4, q4_kb_5, q4_kb_6⟩ := kb.all7
      have G14 := Lib.hid (H3.out b z12 hgb hbw)
      go_wp2_with fail
      refine G14.out.mono ?_
      rintro e v14 ⟨c, rfl, hgc, hpc, hV14⟩
      clear G14
      have hU_15 : Below a1.heap.size a1 v14 := hU_13.trans ((hV14).mono hU_13.size)
      have k1 := k1.of hV14
      have ky := ky.of hV14
      have kb := kb.of hV14
      have hx1 := hx1.below hV14
      have hgy := hgy.below hV14
      have hgb := hgb.below hV14
      have hD := hD.trans ((hV14).mono hD.size)
      clear q4_kb_0 q4_kb_1 q4_kb_2 q4_kb_3 q4_kb_4 q4_kb_5 q4_kb_6
      obtain ⟨z16, hz16⟩ : ∃ z, v14.alloc (.cells #[.string c.name_, .int .i64 c.quota_, .int .i64 c.next_, .slice c.sets_.A c.sets_.l.length c.sets_.c, .slice c.grants_.A c.grants_.l.length c.grants_.c, .slice c.stages_.A c.stages_.l.length c.stages_.c, .slice c.log_.A c.log_.l.length c.log_.c] 27) = z := ⟨_, rfl⟩
      have hAz16 : Below v14.heap.size v14 z16 := hz16 ▸ (Below.refl _ v14).alloc (Nat.le_refl _) _
      have kc : Blk z16 v14.heap.size 27 [.string c.name_, .int .i64 c.quota_, .int .i64 c.next_, .slice c.sets_.A c.sets_.l.length c.sets_.c, .slice c.grants_.A c.grants_.l.length c.grants_.c, .slice c.stages_.A c.stages_.l.length c.stages_.c, .slice c.log_.A c.log_.l.length c.log_.c] := hz16 ▸ Blk.new v14 _ _
      have HZz16 := Lib.hid hz16
      clear hz16
      have hU_17 : Below a1.heap.size a1 z16 := hU_15.trans ((hAz16).mono hU_15.size)
      have k1 := k1.of hAz16
      have ky := ky.of hAz16
      have kb := kb.of hAz16
      have hx1 := hx1.below hAz16
      have hgy := hgy.below hAz16
      have hgb := hgb.below hAz16
      have hgc := hgc.below hAz16
      have hD := hD.trans ((hAz16).mono hD.size)
      go_upto_region 11 with fail
      rw [HZz16.out]
      obtain ⟨c', z, hc1, hc2, hc3, hc4, hc5⟩ := HSN.out c hpc
      have hcl : j < c.sets_.l.length := (List.getElem?_eq_some_iff.1 hc1).1
      have hcG := hgc.gsets_.el c' (List.mem_of_getElem? hc1)
      have hsG := hx1.gsets_.el s (List.mem_of_getElem? HJ.out)
      have HS1 : Hid (∀ W, Below z16.heap.size z16 W → Calls Tryz.prog 37 #[.slice c'.body_.A c'.body_.l.length c'.body_.c, .slice s.body_.A s.body_.l.length s.body_.c] W fun e w' => e = .returned (.bool true) ∧ Below W.heap.size W w') := Lib.hid fun W hW => by
        have h9 := refSame_true c'.body_.A s.body_.A c'.body_.c s.body_.c s.body_.l (by have := hsG.gbody_.len; omega) W (by rw [← hc2]; exact hcG.gbody_.rd.below hW) (hsG.gbody_.rd.below hW)
        rwa [hc2]
      have HS2 : Hid (∀ W, Below z16.heap.size z16 W → Calls Tryz.prog 38 #[.slice c'.own_.A c'.own_.l.length c'.own_.c, .slice s.own_.A s.own_.l.length s.own_.c] W fun e w' => e = .returned (.bool true) ∧ Below W.heap.size W w') := Lib.hid fun W hW => by
        have h9 := refPr_true c'.own_.A s.own_.A c'.own_.c s.own_.c s.own_.l (by have := hsG.gown_.len; omega) W (by rw [← hc3]; exact hcG.gown_.rd.below hW) (hsG.gown_.rd.below hW)
        rwa [hc3]
      have HS3 : Hid (∀ W, Below z16.heap.size z16 W → Calls Tryz.prog 39 #[.agg c'.cells.toArray] W fun e w' => e = .returned (.int .i64 0) ∧ Below W.heap.size W w') := Lib.hid fun W hW => refChanged_no c' z hc4 hc5 W (hcG.below hW)
      obtain ⟨bc, oc, hAc, hbc, hcc⟩ := Rd.elem (n := 5) (fun _ => rfl) (by omega) hgc.gsets_.rd hc1
      obtain ⟨bt, ot, hAt, hbt, htt⟩ := Rd.elem (n := 5) (fun _ => rfl) (by omega) hx1.gsets_.rd HJ.out
      have hlx := hx1.gsets_.len
      have hlc := hgc.gsets_.len
      have d0 : z16.cell? ⟨bc, oc + j * 5, none⟩ = some (.string c'.path_) := hcc 0 _ rfl
      have d1 : z16.cell? ⟨bc, oc + j * 5 + 1, none⟩ = some (.string c'.origin_) := hcc 1 _ rfl
      have d2 : z16.cell? ⟨bc, oc + j * 5 + 2, none⟩ = some (.slice c'.body_.A c'.body_.l.length c'.body_.c) := hcc 2 _ rfl
      have d3 : z16.cell? ⟨bc, oc + j * 5 + 3, none⟩ = some (.slice c'.snaps_.A c'.snaps_.l.length c'.snaps_.c) := hcc 3 _ rfl
      have d4 : z16.cell? ⟨bc, oc + j * 5 + 4, none⟩ = some (.slice c'.own_.A c'.own_.l.length c'.own_.c) := hcc 4 _ rfl
      have f2 : z16.cell? ⟨bt, ot + j * 5 + 2, none⟩ = some (.slice s.body_.A s.body_.l.length s.body_.c) := htt 2 _ rfl
      have f4 : z16.cell? ⟨bt, ot + j * 5 + 4, none⟩ = some (.slice s.own_.A s.own_.l.length s.own_.c) := htt 4 _ rfl
      obtain ⟨q5_kc_0, q5_kc_1, q5_kc_2, q5_kc_3, q5_kc_4, q5_kc_5, q5_kc_6⟩ := kc.all7
      obtain ⟨q5_k1_0, q5_k1_1, q5_k1_2, q5_k1_3, q5_k1_4, q5_k1_5, q5_k1_6⟩ := k1.all7
      rw [hAc] at q5_kc_3
      rw [hAt] at q5_k1_3
      have hlkc := kc.lt
      have hlk1 := k1.lt
      have hBd : Below z16.heap.size z16 z16.drew := (Below.refl _ _).drew
      have HSF := Lib.hid (fun (W : World) (hB : Below z16.heap.size z16 W) => (⟨(hB.cell (p := ⟨v14.heap.size, 3, none⟩) hlkc).trans q5_kc_3, (hB.cell (p := ⟨w.heap.size, 3, none⟩) hlk1).trans q5_k1_3, (hB.cell (p := ⟨bc, oc + j * 5, none⟩) hbc).trans d0, (hB.cell (p := ⟨bc, oc + j * 5 + 1, none⟩) hbc).trans d1, (hB.cell (p := ⟨bc, oc + j * 5 + 2, none⟩) hbc).trans d2, (hB.cell (p := ⟨bc, oc + j * 5 + 3, none⟩) hbc).trans d3, (hB.cell (p := ⟨bc, oc + j * 5 + 4, none⟩) hbc).trans d4, (hB.cell (p := ⟨bt, ot + j * 5 + 2, none⟩) hbt).trans f2, (hB.cell (p := ⟨bt, ot + j * 5 + 4, none⟩) hbt).trans f4⟩ : W.cell? ⟨v14.heap.size, 3, none⟩ = some (.slice (some ⟨bc, oc, none⟩) c.sets_.l.length c.sets_.c) ∧ W.cell? ⟨w.heap.size, 3, none⟩ = some (.slice (some ⟨bt, ot, none⟩) x.sets_.l.length x.sets_.c) ∧ W.cell? ⟨bc, oc + j * 5, none⟩ = some (.string c'.path_) ∧ W.cell? ⟨bc, oc + j * 5 + 1, none⟩ = some (.string c'.origin_) ∧ W.cell? ⟨bc, oc + j * 5 + 2, none⟩ = some (.slice c'.body_.A c'.body_.l.length c'.body_.c) ∧ W.cell? ⟨bc, oc + j * 5 + 3, none⟩ = some (.slice c'.snaps_.A c'.snaps_.l.length c'.snaps_.c) ∧ W.cell? ⟨bc, oc + j * 5 + 4, none⟩ = some (.slice c'.own_.A c'.own_.l.length c'.own_.c) ∧ W.cell? ⟨bt, ot + j * 5 + 2, none⟩ = some (.slice s.body_.A s.body_.l.length s.body_.c) ∧ W.cell? ⟨bt, ot + j * 5 + 4, none⟩ = some (.slice s.own_.A s.own_.l.length s.own_.c)))
      clear hcc htt hc1 hc2 hc3 hc4 hc5 hcG hsG hAc hAt
      refine wp_region_noPanic ?_
      refine wp_region_last 38 (fun W => W.cell? ⟨v14.heap.size, 3, none⟩ = some (.slice (some ⟨bc, oc, none⟩) c.sets_.l.length c.sets_.c) ∧ W.cell? ⟨w.heap.size, 3, none⟩ = some (.slice (some ⟨bt, ot, none⟩) x.sets_.l.length x.sets_.c) ∧ W.cell? ⟨bc, oc + j * 5, none⟩ = some (.string c'.path_) ∧ W.cell? ⟨bc, oc + j * 5 + 1, none⟩ = some (.string c'.origin_) ∧ W.cell? ⟨bc, oc + j * 5 + 2, none⟩ = some (.slice c'.body_.A c'.body_.l.length c'.body_.c) ∧ W.cell? ⟨bc, oc + j * 5 + 3, none⟩ = some (.slice c'.snaps_.A c'.snaps_.l.length c'.snaps_.c) ∧ W.cell? ⟨bc, oc + j * 5 + 4, none⟩ = some (.slice c'.own_.A c'.own_.l.length c'.own_.c) ∧ W.cell? ⟨bt, ot + j * 5 + 2, none⟩ = some (.slice s.body_.A s.body_.l.length s.body_.c) ∧ W.cell? ⟨bt, ot + j * 5 + 4, none⟩ = some (.slice s.own_.A s.own_.l.length s.own_.c)) (by kernel_rfl) (HSF.out _ hBd) (fun hHeld => ?_)
      refine tkA 12 (i := 0) (oi := ⟨some 52, _, _, _, _, _⟩) rfl hHeld ?_
      try simp only [Act.put, pZa, pZb, pZc]
      refine tkA 12 (i := 1) (oi := ⟨some 53, _, _, _, _, _⟩) rfl hHeld ?_
      try simp only [Act.put, pZa, pZb, pZc]
      refine tkA 12 (i := 2) (oi := ⟨some 54, _, _, _, _, _⟩) rfl hHeld ?_
      try simp only [Act.put, pZa, pZb, pZc]
      refine tkA 12 (i := 3) (oi := ⟨some 55, _, _, _, _, _⟩) rfl hHeld ?_
      try simp only [Act.put, pZa, pZb, pZc]
      refine tkA 12 (i := 4) (oi := ⟨some 56, _, _, _, _, _⟩) rfl hHeld ?_
      try simp only [Act.put, pZa, pZb, pZc]
      refine tkA 12 (i := 5) (oi := ⟨some 57, _, _, _, _, _⟩) rfl hHeld ?_
      try simp only [Act.put, pZa, pZb, pZc]
      refine tkA 12 (i := 6) (oi := ⟨some 58, _, _, _, _, _⟩) rfl hHeld ?_
      try simp only [Act.put, pZa, pZb, pZc]
      refine tkA 12 (i := 7) (oi := ⟨some 59, _, _, _, _, _⟩) rfl hHeld ?_
      try simp only [Act.put, pZa, pZb, pZc]
      refine tkA 12 (i := 8) (oi := ⟨some 60, _, _, _, _, _⟩) rfl hHeld ?_
      try simp only [Act.put, pZa, pZb, pZc]
      refine tkA 12 (i := 9) (oi := ⟨some 61, _, _, _, _, _⟩) rfl hHeld ?_
      try simp only [Act.put, pZa, pZb, pZc]
      refine tkA 12 (i := 10) (oi := ⟨some 62, _, _, _, _, _⟩) rfl hHeld ?_
      try simp only [Act.put, pZa, pZb, pZc]
      refine tkA 12 (i := 11) (oi := ⟨some 63, _, _, _, _, _⟩) rfl hHeld ?_
      try simp only [Act.put, pZa, pZb, pZc]
      refine tkA 12 (i := 12) (oi := ⟨some 64, _, _, _, _, _⟩) rfl hHeld ?_
      try simp only [Act.put, pZa, pZb, pZc]
      refine tkA 12 (i := 13) (oi := ⟨some 65, _, _, _, _, _⟩) rfl hHeld ?_
      try simp only [Act.put, pZa, pZb, pZc]
      refine tkA 12 (i := 14) (oi := ⟨some 66, _, _, _, _, _⟩) rfl hHeld ?_
      try simp only [Act.put, pZa, pZb, pZc]
      refine wpAnyL_one (i := 15) (o := ⟨some 67, _, _, _, _, _⟩) (by kernel_rfl) rfl (fun K hK => ?_)
      clear hHeld
      go_simp
      refine (HS1.out _ hBd).mono ?_
      rintro e r1 ⟨rfl, hR1⟩
      have hBe := hBd.trans (hR1.mono hBd.size)
      go_wp2_with fail
      refine hK.out _ _ (HSF.out _ hBe) (fun hHeld => ?_)
      clear hK K
      try simp only [Act.put, pZa, pZb, pZc]
      refine tkA 12 (i := 16) (oi := ⟨some 68, _, _, _, _, _⟩) rfl hHeld ?_
      try simp only [Act.put, pZa, pZb, pZc]
      refine tkA 12 (i := 17) (oi := ⟨some 69, _, _, _, _, _⟩) rfl hHeld ?_
      try simp only [Act.put, pZa, pZb, pZc]
      refine tkA 12 (i := 18) (oi := ⟨some 70, _, _, _, _, _⟩) rfl hHeld ?_
      try simp only [Act.put, pZa, pZb, pZc]
      refine tkA 12 (i := 19) (oi := ⟨some 71, _, _, _, _, _⟩) rfl hHeld ?_
      try simp only [Act.put, pZa, pZb, pZc]
      refine tkA 12 (i := 20) (oi := ⟨some 72, _, _, _, _, _⟩) rfl hHeld ?_
      try simp only [Act.put, pZa, pZb, pZc]
      refine tkA 12 (i := 21) (oi := ⟨some 73, _, _, _, _, _⟩) rfl hHeld ?_
      try simp only [Act.put, pZa, pZb, pZc]
      refine tkA 12 (i := 22) (oi := ⟨some 74, _, _, _, _, _⟩) rfl hHeld ?_
      try simp only [Act.put, pZa, pZb, pZc]
      refine tkA 12 (i := 23) (oi := ⟨some 75, _, _, _, _, _⟩) rfl hHeld ?_
      try simp only [Act.put, pZa, pZb, pZc]
      refine tkA 12 (i := 24) (oi := ⟨some 76, _, _, _, _, _⟩) rfl hHeld ?_
      try simp only [Act.put, pZa, pZb, pZc]
      refine tkA 12 (i := 25) (oi := ⟨some 77, _, _, _, _, _⟩) rfl hHeld ?_
      try simp only [Act.put, pZa, pZb, pZc]
      refine tkA 12 (i := 26) (oi := ⟨some 78, _, _, _, _, _⟩) rfl hHeld ?_
      try simp only [Act.put, pZa, pZb, pZc]
      refine tkA 12 (i := 27) (oi := ⟨some 79, _, _, _, _, _⟩) rfl hHeld ?_
      try simp only [Act.put, pZa, pZb, pZc]
      refine tkA 12 (i := 28) (oi := ⟨some 80, _, _, _, _, _⟩) rfl hHeld ?_
      try simp only [Act.put, pZa, pZb, pZc]
      refine tkA 12 (i := 29) (oi := ⟨some 81, _, _, _, _, _⟩) rfl hHeld ?_
      try simp only [Act.put, pZa, pZb, pZc]
      refine wpAnyL_one (i := 30) (o := ⟨some 82, _, _, _, _, _⟩) (by kernel_rfl) rfl (fun K hK => ?_)
      clear hHeld
      go_simp
      refine (HS2.out _ hBe).mono ?_
      rintro e r2 ⟨rfl, hR2⟩
      have hBf := hBe.trans (hR2.mono hBe.size)
      go_wp2_with fail
      refine hK.out _ _ (HSF.out _ hBf) (fun hHeld => ?_)
      clear hK K
      try simp only [Act.put, pZa, pZb, pZc]
      refine tkA 12 (i := 31) (oi := ⟨some 83, _, _, _, _, _⟩) rfl hHeld ?_
      try simp only [Act.put, pZa, pZb, pZc]
      refine tkA 12 (i := 32) (oi := ⟨some 84, _, _, _, _, _⟩) rfl hHeld ?_
      try simp only [Act.put, pZa, pZb, pZc]
      refine tkA 12 (i := 33) (oi := ⟨some 85, _, _, _, _, _⟩) rfl hHeld ?_
      try simp only [Act.put, pZa, pZb, pZc]
      refine tkA 12 (i := 34) (oi := ⟨some 86, _, _, _, _, _⟩) rfl hHeld ?_
      try simp only [Act.put, pZa, pZb, pZc]
      refine tkA 12 (i := 35) (oi := ⟨some 87, _, _, _, _, _⟩) rfl hHeld ?_
      try simp only [Act.put, pZa, pZb, pZc]
      refine tkA 12 (i := 36) (oi := ⟨some 88, _, _, _, _, _⟩) rfl hHeld ?_
      try simp only [Act.put, pZa, pZb, pZc]
      refine tkA 12 (i := 37) (oi := ⟨some 89, _, _, _, _, _⟩) rfl hHeld ?_
      try simp only [Act.put, pZa, pZb, pZc]
      refine wpAnyL_last (i := 38) (o := ⟨some 90, _, _, _, _, _⟩) (by kernel_rfl) rfl (by kernel_rfl) (fun K hK => ?_)
      clear hHeld
      go_simp
      refine (HS3.out _ hBf).mono ?_
      rintro e r3 ⟨rfl, hR3⟩
      have hBg := hBf.trans (hR3.mono hBf.size)
      go_wp2_with fail
      refine hK.out _ _ ?_
      clear hK K
      try simp only [Act.put, pZa, pZb, pZc]
      refine wpAnyL_takeW (i := 39) (oi := ⟨some 91, _, _, _, _, _⟩) (v := ?_) rfl (by kernel_rfl) (by kernel_rfl) (by kernel_rfl) (by kernel_rfl) (fun _ _ _ h => h) (Or.inl ⟨by rfl, ?_⟩) (.inl (by kernel_rfl)) ?_
      rotate_left
      focus (intro w hSw; (try dsimp only at hSw); go_simp; try (with_reducible rfl))
      try simp only [Act.put, pZa, pZb, pZc]
      refine wpAnyL_takeW (i := 40) (oi := ⟨some 92, _, _, _, _, _⟩) (v := ?_) rfl (by kernel_rfl) (by kernel_rfl) (by kernel_rfl) (by kernel_rfl) (fun _ _ _ h => h) (Or.inl ⟨by rfl, ?_⟩) (.inl (by kernel_rfl)) ?_
      rotate_left
      focus (intro w hSw; (try dsimp only at hSw); go_simp; try (with_reducible rfl))
      try simp only [Act.put, pZa, pZb, pZc]
      refine wpAnyL_takeW (i := 41) (oi := ⟨some 10, _, _, _, _, _⟩) (v := ?_) rfl (by kernel_rfl) (by kernel_rfl) (by kernel_rfl) (by kernel_rfl) (fun _ _ _ h => h) (Or.inl ⟨by rfl, ?_⟩) (.inl (by kernel_rfl)) ?_
      rotate_left
      focus (intro w hSw; (try dsimp only at hSw); go_simp; try (with_reducible rfl))
      try simp only [Act.put, pZa, pZb, pZc]
      refine wpAnyL_done (by kernel_rfl) ?_ _
      refine NoPanic.normal ?_
      clear q5_kc_0 q5_kc_1 q5_kc_2 q5_kc_3 q5_kc_4 q5_kc_5 q5_kc_6 q5_k1_0 q5_k1_1 q5_k1_2 q5_k1_3 q5_k1_4 q5_k1_5 q5_k1_6 d0 d1 d2 d3 d4 f2 f4
      go_wp2
      go_ret
      exact ⟨rfl, hB1.trans (((hU_17).trans (hBg.mono (hU_17).size)).mono hs1)⟩
    · skip
      have hbw : y.plain = snapT x.plain p n ∨ (y.plain = W1.1 ∧ W1.2 = 0) := .inl HPY.out
      have hq2 : (W1.2 == 0) = false := beq_eq_false_iff_ne.2 hz2
      clear hz2
      obtain ⟨q6_ky_0, q6_ky_1, q6_ky_2, q6_ky_3, q6_ky_4, q6_ky_5, q6_ky_6⟩ := ky.all7
      obtain ⟨zb0, zb1, zb2, zb3, zb4, zb5, zb6⟩ := kb.all7
      obtain ⟨zbf0, zbf1, zbf2, zbf3, zbf4, zbf5, zbf6⟩ := kb.fz7
      go_upto_region 10 with fail
      generalize hwS : World.setCell _ ⟨v10.heap.size, 6, none⟩ _ = wS
      obtain ⟨kS, SS, ZS, BS⟩ := store7 kb hwS
      have hlb := kb.lt
      clear q6_ky_0 q6_ky_1 q6_ky_2 q6_ky_3 q6_ky_4 q6_ky_5 q6_ky_6
      have leU := (hU_13).size
      have hUS : Below a1.heap.size a1 wS := BS _ _ (hU_13) (Nat.le_trans hUv0.size leB)
      have hDS : Below v4.heap.size v4 wS := BS _ _ hD leB
      have hx1 := HX1.out.below hUS
      have hgy := HGY.out.below hDS
      have hne1 : w.heap.size ≠ v10.heap.size := by have := leB; have := hUv0.size; have := hlk0; omega
      have k1 := k1.sameT (SS _ hne1)
      have kb := kS
      clear hwS zb0 zb1 zb2 zb3 zb4 zb5 zb6 zbf0 zbf1 zbf2 zbf3 zbf4 zbf5 zbf6 ky kS hD hgb
      obtain ⟨q7_kb_0, q7_kb_1, q7_kb_2, q7_kb_3, q7_kb_4, q7_kb_5, q7_kb_6⟩ := kb.all7
      have G64 := Lib.hid (H3.out y wS hgy hbw)
      go_wp2_with fail
      refine G64.out.mono ?_
      rintro e v64 ⟨c, rfl, hgc, hpc, hV64⟩
      clear G64
      have hU_65 : Below a1.heap.size a1 v64 := hUS.trans ((hV64).mono hUS.size)
      have k1 := k1.of hV64
      have kb := kb.of hV64
      have hx1 := hx1.below hV64
      have hgy := hgy.below hV64
      clear q7_kb_0 q7_kb_1 q7_kb_2 q7_kb_3 q7_kb_4 q7_kb_5 q7_kb_6
      obtain ⟨z66, hz66⟩ : ∃ z, v64.alloc (.cells #[.string c.name_, .int .i64 c.quota_, .int .i64 c.next_, .slice c.sets_.A c.sets_.l.length c.sets_.c, .slice c.grants_.A c.grants_.l.length c.grants_.c, .slice c.stages_.A c.stages_.l.length c.stages_.c, .slice c.log_.A c.log_.l.length c.log_.c] 27) = z := ⟨_, rfl⟩
      have hAz66 : Below v64.heap.size v64 z66 := hz66 ▸ (Below.refl _ v64).alloc (Nat.le_refl _) _
      have kc : Blk z66 v64.heap.size 27 [.string c.name_, .int .i64 c.quota_, .int .i64 c.next_, .slice c.sets_.A c.sets_.l.length c.sets_.c, .slice c.grants_.A c.grants_.l.length c.grants_.c, .slice c.stages_.A c.stages_.l.length c.stages_.c, .slice c.log_.A c.log_.l.length c.log_.c] := hz66 ▸ Blk.new v64 _ _
      have HZz66 := Lib.hid hz66
      clear hz66
      have hU_67 : Below a1.heap.size a1 z66 := hU_65.trans ((hAz66).mono hU_65.size)
      have k1 := k1.of hAz66
      have kb := kb.of hAz66
      have hx1 := hx1.below hAz66
      have hgy := hgy.below hAz66
      have hgc := hgc.below hAz66
      go_upto_region 11 with fail
      rw [HZz66.out]
      obtain ⟨c', z, hc1, hc2, hc3, hc4, hc5⟩ := HSN.out c hpc
      have hcl : j < c.sets_.l.length := (List.getElem?_eq_some_iff.1 hc1).1
      have hcG := hgc.gsets_.el c' (List.mem_of_getElem? hc1)
      have hsG := hx1.gsets_.el s (List.mem_of_getElem? HJ.out)
      have HS1 : Hid (∀ W, Below z66.heap.size z66 W → Calls Tryz.prog 37 #[.slice c'.body_.A c'.body_.l.length c'.body_.c, .slice s.body_.A s.body_.l.length s.body_.c] W fun e w' => e = .returned (.bool true) ∧ Below W.heap.size W w') := Lib.hid fun W hW => by
        have h9 := refSame_true c'.body_.A s.body_.A c'.body_.c s.body_.c s.body_.l (by have := hsG.gbody_.len; omega) W (by rw [← hc2]; exact hcG.gbody_.rd.below hW) (hsG.gbody_.rd.below hW)
        rwa [hc2]
      have HS2 : Hid (∀ W, Below z66.heap.size z66 W → Calls Tryz.prog 38 #[.slice c'.own_.A c'.own_.l.length c'.own_.c, .slice s.own_.A s.own_.l.length s.own_.c] W fun e w' => e = .returned (.bool true) ∧ Below W.heap.size W w') := Lib.hid fun W hW => by
        have h9 := refPr_true c'.own_.A s.own_.A c'.own_.c s.own_.c s.own_.l (by have := hsG.gown_.len; omega) W (by rw [← hc3]; exact hcG.gown_.rd.below hW) (hsG.gown_.rd.below hW)
        rwa [hc3]
      have HS3 : Hid (∀ W, Below z66.heap.size z66 W → Calls Tryz.prog 39 #[.agg c'.cells.toArray] W fun e w' => e = .returned (.int .i64 0) ∧ Below W.heap.size W w') := Lib.hid fun W hW => refChanged_no c' z hc4 hc5 W (hcG.below hW)
      obtain ⟨bc, oc, hAc, hbc, hcc⟩ := Rd.elem (n := 5) (fun _ => rfl) (by omega) hgc.gsets_.rd hc1
      obtain ⟨bt, ot, hAt, hbt, htt⟩ := Rd.elem (n := 5) (fun _ => rfl) (by omega) hx1.gsets_.rd HJ.out
      have hlx := hx1.gsets_.len
      have hlc := hgc.gsets_.len
      have d0 : z66.cell? ⟨bc, oc + j * 5, none⟩ = some (.string c'.path_) := hcc 0 _ rfl
      have d1 : z66.cell? ⟨bc, oc + j * 5 + 1, none⟩ = some (.string c'.origin_) := hcc 1 _ rfl
      have d2 : z66.cell? ⟨bc, oc + j * 5 + 2, none⟩ = some (.slice c'.body_.A c'.body_.l.length c'.body_.c) := hcc 2 _ rfl
      have d3 : z66.cell? ⟨bc, oc + j * 5 + 3, none⟩ = some (.slice c'.snaps_.A c'.snaps_.l.length c'.snaps_.c) := hcc 3 _ rfl
      have d4 : z66.cell? ⟨bc, oc + j * 5 + 4, none⟩ = some (.slice c'.own_.A c'.own_.l.length c'.own_.c) := hcc 4 _ rfl
      have f2 : z66.cell? ⟨bt, ot + j * 5 + 2, none⟩ = some (.slice s.body_.A s.body_.l.length s.body_.c) := htt 2 _ rfl
      have f4 : z66.cell? ⟨bt, ot + j * 5 + 4, none⟩ = some (.slice s.own_.A s.own_.l.length s.own_.c) := htt 4 _ rfl
      obtain ⟨q8_kc_0, q8_kc_1, q8_kc_2, q8_kc_3, q8_kc_4, q8_kc_5, q8_kc_6⟩ := kc.all7
      obtain ⟨q8_k1_0, q8_k1_1, q8_k1_2, q8_k1_3, q8_k1_4, q8_k1_5, q8_k1_6⟩ := k1.all7
      rw [hAc] at q8_kc_3
      rw [hAt] at q8_k1_3
      have hlkc := kc.lt
      have hlk1 := k1.lt
      have hBd : Below z66.heap.size z66 z66.drew := (Below.refl _ _).drew
      have HSF := Lib.hid (fun (W : World) (hB : Below z66.heap.size z66 W) => (⟨(hB.cell (p := ⟨v64.heap.size, 3, none⟩) hlkc).trans q8_kc_3, (hB.cell (p := ⟨w.heap.size, 3, none⟩) hlk1).trans q8_k1_3, (hB.cell (p := ⟨bc, oc + j * 5, none⟩) hbc).trans d0, (hB.cell (p := ⟨bc, oc + j * 5 + 1, none⟩) hbc).trans d1, (hB.cell (p := ⟨bc, oc + j * 5 + 2, none⟩) hbc).trans d2, (hB.cell (p := ⟨bc, oc + j * 5 + 3, none⟩) hbc).trans d3, (hB.cell (p := ⟨bc, oc + j * 5 + 4, none⟩) hbc).trans d4, (hB.cell (p := ⟨bt, ot + j * 5 + 2, none⟩) hbt).trans f2, (hB.cell (p := ⟨bt, ot + j * 5 + 4, none⟩) hbt).trans f4⟩ : W.cell? ⟨v64.heap.size, 3, none⟩ = some (.slice (some ⟨bc, oc, none⟩) c.sets_.l.length c.sets_.c) ∧ W.cell? ⟨w.heap.size, 3, none⟩ = some (.slice (some ⟨bt, ot, none⟩) x.sets_.l.length x.sets_.c) ∧ W.cell? ⟨bc, oc + j * 5, none⟩ = some (.string c'.path_) ∧ W.cell? ⟨bc, oc + j * 5 + 1, none⟩ = some (.string c'.origin_) ∧ W.cell? ⟨bc, oc + j * 5 + 2, none⟩ = some (.slice c'.body_.A c'.body_.l.length c'.body_.c) ∧ W.cell? ⟨bc, oc + j * 5 + 3, none⟩ = some (.slice c'.snaps_.A c'.snaps_.l.length c'.snaps_.c) ∧ W.cell? ⟨bc, oc + j * 5 + 4, none⟩ = some (.slice c'.own_.A c'.own_.l.length c'.own_.c) ∧ W.cell? ⟨bt, ot + j * 5 + 2, none⟩ = some (.slice s.body_.A s.body_.l.length s.body_.c) ∧ W.cell? ⟨bt, ot + j * 5 + 4, none⟩ = some (.slice s.own_.A s.own_.l.length s.own_.c)))
      clear hcc htt hc1 hc2 hc3 hc4 hc5 hcG hsG hAc hAt
      refine wp_region_noPanic ?_
      refine wp_region_last 38 (fun W => W.cell? ⟨v64.heap.size, 3, none⟩ = some (.slice (some ⟨bc, oc, none⟩) c.sets_.l.length c.sets_.c) ∧ W.cell? ⟨w.heap.size, 3, none⟩ = some (.slice (some ⟨bt, ot, none⟩) x.sets_.l.length x.sets_.c) ∧ W.cell? ⟨bc, oc + j * 5, none⟩ = some (.string c'.path_) ∧ W.cell? ⟨bc, oc + j * 5 + 1, none⟩ = some (.string c'.origin_) ∧ W.cell? ⟨bc, oc + j * 5 + 2, none⟩ = some (.slice c'.body_.A c'.body_.l.length c'.body_.c) ∧ W.cell? ⟨bc, oc + j * 5 + 3, none⟩ = some (.slice c'.snaps_.A c'.snaps_.l.length c'.snaps_.c) ∧ W.cell? ⟨bc, oc + j * 5 + 4, none⟩ = some (.slice c'.own_.A c'.own_.l.length c'.own_.c) ∧ W.cell? ⟨bt, ot + j * 5 + 2, none⟩ = some (.slice s.body_.A s.body_.l.length s.body_.c) ∧ W.cell? ⟨bt, ot + j * 5 + 4, none⟩ = some (.slice s.own_.A s.own_.l.length s.own_.c)) (by kernel_rfl) (HSF.out _ hBd) (fun hHeld => ?_)
      refine tkA 12 (i := 0) (oi := ⟨some 52, _, _, _, _, _⟩) rfl hHeld ?_
      try simp only [Act.put, pZa, pZb, pZc]
      refine tkA 12 (i := 1) (oi := ⟨some 53, _, _, _, _, _⟩) rfl hHeld ?_
      try simp only [Act.put, pZa, pZb, pZc]
      refine tkA 12 (i := 2) (oi := ⟨some 54, _, _, _, _, _⟩) rfl hHeld ?_
      try simp only [Act.put, pZa, pZb, pZc]
      refine tkA 12 (i := 3) (oi := ⟨some 55, _, _, _, _, _⟩) rfl hHeld ?_
      try simp only [Act.put, pZa, pZb, pZc]
      refine tkA 12 (i := 4) (oi := ⟨some 56, _, _, _, _, _⟩) rfl hHeld ?_
      try simp only [Act.put, pZa, pZb, pZc]
      refine tkA 12 (i := 5) (oi := ⟨some 57, _, _, _, _, _⟩) rfl hHeld ?_
      try simp only [Act.put, pZa, pZb, pZc]
      refine tkA 12 (i := 6) (oi := ⟨some 58, _, _, _, _, _⟩) rfl hHeld ?_
      try simp only [Act.put, pZa, pZb, pZc]
      refine tkA 12 (i := 7) (oi := ⟨some 59, _, _, _, _, _⟩) rfl hHeld ?_
      try simp only [Act.put, pZa, pZb, pZc]
      refine tkA 12 (i := 8) (oi := ⟨some 60, _, _, _, _, _⟩) rfl hHeld ?_
      try simp only [Act.put, pZa, pZb, pZc]
      refine tkA 12 (i := 9) (oi := ⟨some 61, _, _, _, _, _⟩) rfl hHeld ?_
      try simp only [Act.put, pZa, pZb, pZc]
      refine tkA 12 (i := 10) (oi := ⟨some 62, _, _, _, _, _⟩) rfl hHeld ?_
      try simp only [Act.put, pZa, pZb, pZc]
      refine tkA 12 (i := 11) (oi := ⟨some 63, _, _, _, _, _⟩) rfl hHeld ?_
      try simp only [Act.put, pZa, pZb, pZc]
      refine tkA 12 (i := 12) (oi := ⟨some 64, _, _, _, _, _⟩) rfl hHeld ?_
      try simp only [Act.put, pZa, pZb, pZc]
      refine tkA 12 (i := 13) (oi := ⟨some 65, _, _, _, _, _⟩) rfl hHeld ?_
      try simp only [Act.put, pZa, pZb, pZc]
      refine tkA 12 (i := 14) (oi := ⟨some 66, _, _, _, _, _⟩) rfl hHeld ?_
      try simp only [Act.put, pZa, pZb, pZc]
      refine wpAnyL_one (i := 15) (o := ⟨some 67, _, _, _, _, _⟩) (by kernel_rfl) rfl (fun K hK => ?_)
      clear hHeld
      go_simp
      refine (HS1.out _ hBd).mono ?_
      rintro e r1 ⟨rfl, hR1⟩
      have hBe := hBd.trans (hR1.mono hBd.size)
      go_wp2_with fail
      refine hK.out _ _ (HSF.out _ hBe) (fun hHeld => ?_)
      clear hK K
      try simp only [Act.put, pZa, pZb, pZc]
      refine tkA 12 (i := 16) (oi := ⟨some 68, _, _, _, _, _⟩) rfl hHeld ?_
      try simp only [Act.put, pZa, pZb, pZc]
      refine tkA 12 (i := 17) (oi := ⟨some 69, _, _, _, _, _⟩) rfl hHeld ?_
      try simp only [Act.put, pZa, pZb, pZc]
      refine tkA 12 (i := 18) (oi := ⟨some 70, _, _, _, _, _⟩) rfl hHeld ?_
      try simp only [Act.put, pZa, pZb, pZc]
      refine tkA 12 (i := 19) (oi := ⟨some 71, _, _, _, _, _⟩) rfl hHeld ?_
      try simp only [Act.put, pZa, pZb, pZc]
      refine tkA 12 (i := 20) (oi := ⟨some 72, _, _, _, _, _⟩) rfl hHeld ?_
      try simp only [Act.put, pZa, pZb, pZc]
      refine tkA 12 (i := 21) (oi := ⟨some 73, _, _, _, _, _⟩) rfl hHeld ?_
      try simp only [Act.put, pZa, pZb, pZc]
      refine tkA 12 (i := 22) (oi := ⟨some 74, _, _, _, _, _⟩) rfl hHeld ?_
      try simp only [Act.put, pZa, pZb, pZc]
      refine tkA 12 (i := 23) (oi := ⟨some 75, _, _, _, _, _⟩) rfl hHeld ?_
      try simp only [Act.put, pZa, pZb, pZc]
      refine tkA 12 (i := 24) (oi := ⟨some 76, _, _, _, _, _⟩) rfl hHeld ?_
      try simp only [Act.put, pZa, pZb, pZc]
      refine tkA 12 (i := 25) (oi := ⟨some 77, _, _, _, _, _⟩) rfl hHeld ?_
      try simp only [Act.put, pZa, pZb, pZc]
      refine tkA 12 (i := 26) (oi := ⟨some 78, _, _, _, _, _⟩) rfl hHeld ?_
      try simp only [Act.put, pZa, pZb, pZc]
      refine tkA 12 (i := 27) (oi := ⟨some 79, _, _, _, _, _⟩) rfl hHeld ?_
      try simp only [Act.put, pZa, pZb, pZc]
      refine tkA 12 (i := 28) (oi := ⟨some 80, _, _, _, _, _⟩) rfl hHeld ?_
      try simp only [Act.put, pZa, pZb, pZc]
      refine tkA 12 (i := 29) (oi := ⟨some 81, _, _, _, _, _⟩) rfl hHeld ?_
      try simp only [Act.put, pZa, pZb, pZc]
      refine wpAnyL_one (i := 30) (o := ⟨some 82, _, _, _, _, _⟩) (by kernel_rfl) rfl (fun K hK => ?_)
      clear hHeld
      go_simp
      refine (HS2.out _ hBe).mono ?_
      rintro e r2 ⟨rfl, hR2⟩
      have hBf := hBe.trans (hR2.mono hBe.size)
      go_wp2_with fail
      refine hK.out _ _ (HSF.out _ hBf) (fun hHeld => ?_)
      clear hK K
      try simp only [Act.put, pZa, pZb, pZc]
      refine tkA 12 (i := 31) (oi := ⟨some 83, _, _, _, _, _⟩) rfl hHeld ?_
      try simp only [Act.put, pZa, pZb, pZc]
      refine tkA 12 (i := 32) (oi := ⟨some 84, _, _, _, _, _⟩) rfl hHeld ?_
      try simp only [Act.put, pZa, pZb, pZc]
      refine tkA 12 (i := 33) (oi := ⟨some 85, _, _, _, _, _⟩) rfl hHeld ?_
      try simp only [Act.put, pZa, pZb, pZc]
      refine tkA 12 (i := 34) (oi := ⟨some 86, _, _, _, _, _⟩) rfl hHeld ?_
      try simp only [Act.put, pZa, pZb, pZc]
      refine tkA 12 (i := 35) (oi := ⟨some 87, _, _, _, _, _⟩) rfl hHeld ?_
      try simp only [Act.put, pZa, pZb, pZc]
      refine tkA 12 (i := 36) (oi := ⟨some 88, _, _, _, _, _⟩) rfl hHeld ?_
      try simp only [Act.put, pZa, pZb, pZc]
      refine tkA 12 (i := 37) (oi := ⟨some 89, _, _, _, _, _⟩) rfl hHeld ?_
      try simp only [Act.put, pZa, pZb, pZc]
      refine wpAnyL_last (i := 38) (o := ⟨some 90, _, _, _, _, _⟩) (by kernel_rfl) rfl (by kernel_rfl) (fun K hK => ?_)
      clear hHeld
      go_simp
      refine (HS3.out _ hBf).mono ?_
      rintro e r3 ⟨rfl, hR3⟩
      have hBg := hBf.trans (hR3.mono hBf.size)
      go_wp2_with fail
      refine hK.out _ _ ?_
      clear hK K
      try simp only [Act.put, pZa, pZb, pZc]
      refine wpAnyL_takeW (i := 39) (oi := ⟨some 91, _, _, _, _, _⟩) (v := ?_) rfl (by kernel_rfl) (by kernel_rfl) (by kernel_rfl) (by kernel_rfl) (fun _ _ _ h => h) (Or.inl ⟨by rfl, ?_⟩) (.inl (by kernel_rfl)) ?_
      rotate_left
      focus (intro w hSw; (try dsimp only at hSw); go_simp; try (with_reducible rfl))
      try simp only [Act.put, pZa, pZb, pZc]
      refine wpAnyL_takeW (i := 40) (oi := ⟨some 92, _, _, _, _, _⟩) (v := ?_) rfl (by kernel_rfl) (by kernel_rfl) (by kernel_rfl) (by kernel_rfl) (fun _ _ _ h => h) (Or.inl ⟨by rfl, ?_⟩) (.inl (by kernel_rfl)) ?_
      rotate_left
      focus (intro w hSw; (try dsimp only at hSw); go_simp; try (with_reducible rfl))
      try simp only [Act.put, pZa, pZb, pZc]
      refine wpAnyL_takeW (i := 41) (oi := ⟨some 10, _, _, _, _, _⟩) (v := ?_) rfl (by kernel_rfl) (by kernel_rfl) (by kernel_rfl) (by kernel_rfl) (fun _ _ _ h => h) (Or.inl ⟨by rfl, ?_⟩) (.inl (by kernel_rfl)) ?_
      rotate_left
      focus (intro w hSw; (try dsimp only at hSw); go_simp; try (with_reducible rfl))
      try simp only [Act.put, pZa, pZb, pZc]
      refine wpAnyL_done (by kernel_rfl) ?_ _
      refine NoPanic.normal ?_
      clear q8_kc_0 q8_kc_1 q8_kc_2 q8_kc_3 q8_kc_4 q8_kc_5 q8_kc_6 q8_k1_0 q8_k1_1 q8_k1_2 q8_k1_3 q8_k1_4 q8_k1_5 q8_k1_6 d0 d1 d2 d3 d4 f2 f4
      go_wp2
      go_ret
      exact ⟨rfl, hB1.trans (((hU_67).trans (hBg.mono (hU_67).size)).mono hs1)⟩
  · have hq : (X0.2.2 == 0) = false := beq_eq_false_iff_ne.2 hz
    clear hz
    go_upto_region 4 with fail
    rw [HZz6.out]
    go_wp2
    go_ret
    exact ⟨rfl, hB1.trans ((hU_7).mono hs1)⟩
end Go.Proofs.YtoabkbnhdekbdaaGreat
