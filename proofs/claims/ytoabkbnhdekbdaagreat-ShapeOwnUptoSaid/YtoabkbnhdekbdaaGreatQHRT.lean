/-
  The reference’s Turn. Conditions: the tenant is as it comes in; texts of at most 2^42 octets.
-/
import Derived.Test.YtoabkbnhdekbdaaGreatQHWB
import Derived.Test.YtoabkbnhdekbdaaGreatQBLA
import Derived.Test.YtoabkbnhdekbdaaGreatQMP
import Derived.Test.YtoabkbnhdekbdaaGreatQEM
import Derived.Test.YtoabkbnhdekbdaaGreatQSL
import Derived.Test.YtoabkbnhdekbdaaGreatQCS
import Derived.Test.YtoabkbnhdekbdaaGreatQEB
import Derived.Test.YtoabkbnhdekbdaaGreatQSX
import Derived.Test.YtoabkbnhdekbdaaGreatQRL
import Derived.Test.YtoabkbnhdekbdaaGreatQHCR
import Derived.Test.YtoabkbnhdekbdaaGreatQRPP
import Derived.Test.YtoabkbnhdekbdaaGreatQTMD
import Derived.Test.YtoabkbnhdekbdaaGreatQHLB
import Derived.Test.YtoabkbnhdekbdaaGreatQTNP
import Derived.Test.YtoabkbnhdekbdaaGreatQTMG
import Derived.Test.YtoabkbnhdekbdaaGreatQTCU
import Derived.BigQuiet
import Derived.Deep.DeepCutAuto
import Derived.Test.YtoabkbnhdekbdaaGreatLayH
namespace Go.Proofs.YtoabkbnhdekbdaaGreat
open Go.ChangeShapes Go.WideShapes Go.ChangeAt Go.RowKit
set_option maxRecDepth 100000
set_option linter.unusedSimpArgs false
theorem chS_setP {f : PSet → PSet} {l : List PSet} {j : Nat} {s : PSet} {p : ByteArray} (hr : l.Pairwise fun a b => ltPath a b = true) (hj : l[j]? = some s) (hp : s.path_ = p) : chS p f l = l.set j (f s) := by
  subst hp
  exact chS_set hr hj
set_option maxHeartbeats 4000000 in
theorem refTurn1_any (x : MTenant) (p : ByteArray) (i : Int) (d : ByteArray) (hp : p.size ≤ 4398046511104) (hd : d.size ≤ 140737488351232) (w : World) (hx : x.Good w) (ht : x.Tiny) :
    Calls Tryz.prog 11 #[.agg x.cells.toArray, .string p, .int .i64 1, .int .i64 i, .int .i64 0, .string ⟨#[]⟩, .string d] w fun e w' => AnsG w (writeU x.plain p i d) e w' := by
  obtain ⟨a1, hw1⟩ : ∃ a1, w.alloc (.cells #[.string x.name_, .int .i64 x.quota_, .int .i64 x.next_, .slice x.sets_.A x.sets_.l.length x.sets_.c, .slice x.grants_.A x.grants_.l.length x.grants_.c, .slice x.stages_.A x.stages_.l.length x.stages_.c, .slice x.log_.A x.log_.l.length x.log_.c] 27) = a1 := ⟨_, rfl⟩
  have b1 : Below w.heap.size w a1 := hw1 ▸ (Below.refl _ w).alloc (Nat.le_refl _) _
  have k1 : Blk a1 w.heap.size 27 [.string x.name_, .int .i64 x.quota_, .int .i64 x.next_, .slice x.sets_.A x.sets_.l.length x.sets_.c, .slice x.grants_.A x.grants_.l.length x.grants_.c, .slice x.stages_.A x.stages_.l.length x.stages_.c, .slice x.log_.A x.log_.l.length x.log_.c] := hw1 ▸ Blk.new w _ _
  obtain ⟨a2, hw2⟩ : ∃ a2, a1.alloc (.cells #[.string ⟨#[]⟩, .int .i64 0, .int .i64 0, .slice none 0 0, .slice none 0 0, .slice none 0 0, .slice none 0 0] 27) = a2 := ⟨_, rfl⟩
  have b2 : Below a1.heap.size a1 a2 := hw2 ▸ (Below.refl _ a1).alloc (Nat.le_refl _) _
  have k2 : Blk a2 a1.heap.size 27 [.string ⟨#[]⟩, .int .i64 0, .int .i64 0, .slice none 0 0, .slice none 0 0, .slice none 0 0, .slice none 0 0] := hw2 ▸ Blk.new a1 _ _
  have hX2 : w.heap.size + 1 = a1.heap.size := by rw [← hw1, World.size_alloc]
  have hB1 : Below w.heap.size w a1 := b1
  have hB2 : Below w.heap.size w a2 := hB1.trans (b2.mono hB1.size)
  have k1 := k1.of b2
  have hs2 := hB2.size
  have hs1 := hB1.size
  have ht1 : a1.heap.size ≤ a2.heap.size := b2.size
  have HW1 := Lib.hid hw1
  have HW2 := Lib.hid hw2
  clear hw1 b1 hw2 b2
  have hx2 := hx.below hB2
  have HR := Lib.hid (refAsked_any x p hp a2 hx2 ht)
  have HF := Lib.hid (fun W (hW : Below a2.heap.size a2 W) => refFind_any x p W (hx2.below hW))
  have HO := Lib.hid (fun W (hW : Below a2.heap.size a2 W) => refOwnT_any x W (hx2.below hW))
  have hlk1 := k1.lt
  have hlk2 := k2.lt
  have HG := Lib.hid hx2
  obtain ⟨q0, q1, q2, q3, q4, q5, q6⟩ := k1.all7
  obtain ⟨PP, hPP⟩ : ∃ PP : PTenant × Int, writeU x.plain p i d = PP := ⟨_, rfl⟩
  rw [hPP]
  by_cases hk : askE x.plain p ≠ 0
  · have hc : PP = (noT, askE x.plain p) := by rw [← hPP]; exact write_ask hk
    subst hc
    generalize askE x.plain p = E at *
    clear hPP hx hx2
    go_enter Tryz.func11, Tryz.ntmps11
    go_upto_region 1 with fail
    rw [HW1.out, HW2.out]
    try rw [hX2]
    go_wp2_with fail
    refine HR.out.mono ?_
    rintro e w3 ⟨rfl, hV⟩
    have K2 := k2.of hV
    have hX := hB2.trans (hV.mono hs2)
    obtain ⟨zr0, zr1, zr2, zr3, zr4, zr5, zr6⟩ := K2.all7
    obtain ⟨zrf0, zrf1, zrf2, zrf3, zrf4, zrf5, zrf6⟩ := K2.fz7
    go_wp2
    generalize hwE : World.setCell _ ⟨a1.heap.size, 6, none⟩ _ = wE
    obtain ⟨KE, SE, ZE, BE⟩ := store7 K2 hwE
    obtain ⟨ze0, ze1, ze2, ze3, ze4, ze5, ze6⟩ := KE.all7
    refine bodyPost_ret (v := .tuple #[.agg #[.string ⟨#[]⟩, .int .i64 0, .int .i64 0, .slice none 0 0, .slice none 0 0, .slice none 0 0, .slice none 0 0], .int .i64 E]) (by simp [results, Tryz.results11, go_sem, ze0, ze1, ze2, ze3, ze4, ze5, ze6]) rfl ?_
    exact ansG_no (BE _ _ hX hs1)
  · have hk0 : askE x.plain p = 0 := Classical.not_not.1 hk
    rw [hk0] at HR
    have hh := hasSet_find x p
    by_cases h0 : 0 ≤ findM x p
    · have hpl0 : placeE x.plain p = 0 := by unfold placeE; rw [if_neg hk, if_pos (by rw [hh]; exact decide_eq_true h0)]
      obtain ⟨j, s, hI, hj, hsp, hsa, hok, hip, hnt⟩ := place_ways hpl0
      have hfj : findM x p = j := by rw [← hI]; unfold placeI; rw [if_neg (by rw [hpl0]; decide)]
      rw [hfj] at HF
      have hjl : j < x.sets_.l.length := (List.getElem?_eq_some_iff.1 hj).1
      have hval : PP = (if putE s.body_.l i d.size ≠ 0 then (noT, putE s.body_.l i d.size) else setlP { x.plain with sets_ := chS p (fun s => { s with body_ := putK s.body_ i d }) x.plain.sets_ } : PTenant × Int) := by
        rw [← hPP]
        exact write_some hk0 hsa
      have hris : x.plain.sets_.Pairwise fun a b => ltPath a b = true := (goodL_iff (fun a b c => ltPath_trans a b c)).1 (okT_parts.1 hok).2.2.2 |>.2
      have hchs : chS p (fun s => { s with body_ := putK s.body_ i d }) x.plain.sets_ = x.plain.sets_.set j ((fun s => { s with body_ := putK s.body_ i d }) s.plain) := by
        exact chS_setP hris (j := j) (s := s.plain) (by show (x.sets_.l.map MSet.plain)[j]? = _; rw [List.getElem?_map, hj]; rfl) hsp
      have HCH := Lib.hid hchs
      have HJ := Lib.hid hj
      obtain ⟨E, hE⟩ : ∃ E, putE s.body_.l i d.size = E := ⟨_, rfl⟩
      obtain ⟨R, hR⟩ : ∃ R, putR s.body_.l i d = R := ⟨_, rfl⟩
      have hsg := hx2.gsets_.el s (List.mem_of_getElem? hj)
      have hlenf := hsg.gbody_.len
      have HC := Lib.hid (fun (V : World) (hV : Below a2.heap.size a2 V) => refPut_blk s.body_.A s.body_.c s.body_.l.length s.body_.l rfl (by omega) hsg.gbody_.cap hsg.gbody_.nil (fun z hz => (hsg.gbody_.el z hz).1) i d hd V (hsg.gbody_.rd.below hV))
      rw [hE, hR] at HC
      rw [hE] at hval
      have HE := Lib.hid hE
      have HRR := Lib.hid hR
      have HV := Lib.hid hval
      have HSG := Lib.hid hsg
      clear hPP hh hx hx2 hk hk0 hpl0 hI hj hsp hsa hok hip hnt hfj h0 hris hchs hE hR hval hsg
      go_enter Tryz.func11, Tryz.ntmps11
      go_upto_region 1 with fail
      rw [HW1.out, HW2.out]
      try rw [hX2]
      go_wp2_with fail
      refine HR.out.mono ?_
      rintro e w3 ⟨rfl, hV⟩
      have K1 := k1.of hV
      have K2 := k2.of hV
      obtain ⟨d0, d1, d2, d3, d4, d5, d6⟩ := K1.all7
      go_wp2_with fail
      refine (HF.out _ hV).mono ?_
      rintro e w4 ⟨rfl, hV2⟩
      have hV3 := hV.trans (hV2.mono hV.size)
      have K3 := K1.of hV2
      have K4 := K2.of hV2
      obtain ⟨e0, e1, e2, e3, e4, e5, e6⟩ := K3.all7
      have HOW := Lib.hid (HO.out w4 hV3)
      go_wp2_with fail
      refine HOW.out.mono ?_
      rintro e w5 ⟨y, rfl, hoy, hpy, hV5⟩
      have hs45 := hV5.size
      obtain ⟨w6, hw6⟩ : ∃ w6, w5.alloc (.cells #[.string y.name_, .int .i64 y.quota_, .int .i64 y.next_, .slice y.sets_.A y.sets_.l.length y.sets_.c, .slice y.grants_.A y.grants_.l.length y.grants_.c, .slice y.stages_.A y.stages_.l.length y.stages_.c, .slice y.log_.A y.log_.l.length y.log_.c] 27) = w6 := ⟨_, rfl⟩
      have hV6 : Below w5.heap.size w5 w6 := hw6 ▸ (Below.refl _ w5).alloc (Nat.le_refl _) _
      have kY : Blk w6 w5.heap.size 27 [.string y.name_, .int .i64 y.quota_, .int .i64 y.next_, .slice y.sets_.A y.sets_.l.length y.sets_.c, .slice y.grants_.A y.grants_.l.length y.grants_.c, .slice y.stages_.A y.stages_.l.length y.stages_.c, .slice y.log_.A y.log_.l.length y.log_.c] := hw6 ▸ Blk.new w5 _ _
      have hs56 := hV6.size
      have hV46 := hV5.trans (hV6.mono hs45)
      have hV36 := hV3.trans (hV46.mono hV3.size)
      have K5 := K3.of hV46
      have K6 := K4.of hV46
      have HW6 := Lib.hid hw6
      obtain ⟨b, off, hA, hbl, hcc⟩ := Rd.elem (n := 5) (fun _ => rfl) (by omega) (HG.out.gsets_.rd.below hV36) HJ.out
      have c0 : w6.cell? ⟨b, off + j * 5, none⟩ = some (.string s.path_) := hcc 0 _ rfl
      have c1 : w6.cell? ⟨b, off + j * 5 + 1, none⟩ = some (.string s.origin_) := hcc 1 _ rfl
      have c2 : w6.cell? ⟨b, off + j * 5 + 2, none⟩ = some (.slice s.body_.A s.body_.l.length s.body_.c) := hcc 2 _ rfl
      have c3 : w6.cell? ⟨b, off + j * 5 + 3, none⟩ = some (.slice s.snaps_.A s.snaps_.l.length s.snaps_.c) := hcc 3 _ rfl
      have c4 : w6.cell? ⟨b, off + j * 5 + 4, none⟩ = some (.slice s.own_.A s.own_.l.length s.own_.c) := hcc 4 _ rfl
      clear hcc hw6 e0 e1 e2 e3 e4 e5 e6 d0 d1 d2 d3 d4 d5 d6
      go_upto_region 8 with fail
      rw [HW6.out]
      obtain ⟨h0, h1, h2, h3, h4, h5, h6⟩ := K5.all7
      rw [hA] at h3
      have HA := Lib.hid hA
      clear hA
      obtain ⟨w7, hw7⟩ : ∃ w7, w6.alloc (.cells #[.string s.path_, .string s.origin_, .slice s.body_.A s.body_.l.length s.body_.c, .slice s.snaps_.A s.snaps_.l.length s.snaps_.c, .slice s.own_.A s.own_.l.length s.own_.c] 49) = w7 := ⟨_, rfl⟩
      have hV7 : Below w6.heap.size w6 w7 := hw7 ▸ (Below.refl _ w6).alloc (Nat.le_refl _) _
      have kS : Blk w7 w6.heap.size 49 [.string s.path_, .string s.origin_, .slice s.body_.A s.body_.l.length s.body_.c, .slice s.snaps_.A s.snaps_.l.length s.snaps_.c, .slice s.own_.A s.own_.l.length s.own_.c] := hw7 ▸ Blk.new w6 _ _
      have hs67 := hV7.size
      have hV37 := hV36.trans (hV7.mono hV36.size)
      have kY7 := kY.of hV7
      have K7 := K6.of hV7
      have HW7 := Lib.hid hw7
      have hgy : y.Good w7 := (MTenant.Good.of_own HG.out hpy hoy).below (hV6.trans (hV7.mono hs56))
      have ho7 : OwnTe w4.heap.size w7 y := hoy.below (hV6.trans (hV7.mono hs56))
      have hyl : y.sets_.l.map MSet.plain = x.sets_.l.map MSet.plain := congrArg PTenant.sets_ hpy
      have hjy : j < y.sets_.l.length := by rw [map_len hyl]; exact hjl
      obtain ⟨t, hjt⟩ : ∃ t, y.sets_.l[j]? = some t := ⟨_, qZa hjy⟩
      have htp : t.plain = s.plain := by
        have h9 : (y.sets_.l.map MSet.plain)[j]? = some t.plain := by rw [List.getElem?_map, hjt]; rfl
        rw [hyl, List.getElem?_map, HJ.out] at h9
        simp only [Option.map_some, Option.some.injEq] at h9
        exact h9.symm
      obtain ⟨g, goff, hAy, hgl, hcy⟩ := Rd.elem (n := 5) (fun _ => rfl) (by omega) hgy.gsets_.rd hjt
      have hoff : goff = 0 ∧ w4.heap.size ≤ g := by
        obtain ⟨_, ⟨hv, h0⟩ | ⟨gg, cap, cur, hv, hn, _⟩⟩ := ho7.sets
        · omega
        · injection hv with e1 e2 e3
          rw [hAy] at e1
          injection e1 with e1
          injection e1 with e1 e4
          exact ⟨e4, by omega⟩
      obtain ⟨rfl, hgn⟩ := hoff
      have cy : w7.cell? ⟨g, 0 + j * 5 + 2, none⟩ = some (.slice t.body_.A t.body_.l.length t.body_.c) := hcy 2 _ rfl
      rw [Nat.zero_add] at cy
      have hrow := ho7.sets
      unfold Sl.val at hrow
      rw [hAy] at hrow
      have cfz := own_frozen hrow (j * 5 + 2)
      have HAY := Lib.hid hAy
      have HJT := Lib.hid hjt
      have HTP := Lib.hid htp
      have HYL := Lib.hid hyl
      have HPY := Lib.hid hpy
      have HGY := Lib.hid hgy
      have HO7 := Lib.hid ho7
      have hly := kY7.lt
      have hlS := kS.lt
      clear hw7 hgy ho7 hyl hjt htp hcy hrow hpy hoy
      go_upto_region 12 with fail
      rw [HW7.out]
      clear c0 c1 c2 c3 c4 h0 h1 h2 h3 h4 h5 h6
      obtain ⟨m0, m1, m2, m3, m4, m5, m6⟩ := kY7.all7
      obtain ⟨n0, n1, n2, n3, n4⟩ := kS.all5
      rw [HAY.out] at m3
      refine wp_region_noPanic ?_
      refine wp_region_last 13 (fun W => W.cell? ⟨w5.heap.size, 3, none⟩ = some (.slice (some ⟨g, 0, none⟩) y.sets_.l.length y.sets_.c) ∧ W.cell? ⟨w6.heap.size, 2, none⟩ = some (.slice s.body_.A s.body_.l.length s.body_.c) ∧ W.cell? ⟨g, j * 5 + 2, none⟩ = some (.slice t.body_.A t.body_.l.length t.body_.c) ∧ W.frozen? ⟨g, j * 5 + 2, none⟩ = false) (by kernel_rfl) ⟨m3, n2, cy, cfz⟩ (fun hHeld => ?_)
      refine tkA 16 (i := 0) (oi := ⟨some 56, _, _, _, _, _⟩) rfl hHeld ?_
      try simp only [Act.put, pZa, pZb, pZc]
      refine tkA 16 (i := 1) (oi := ⟨some 57, _, _, _, _, _⟩) rfl hHeld ?_
      try simp only [Act.put, pZa, pZb, pZc]
      refine tkA 16 (i := 2) (oi := ⟨some 58, _, _, _, _, _⟩) rfl hHeld ?_
      try simp only [Act.put, pZa, pZb, pZc]
      refine tkA 16 (i := 3) (oi := ⟨some 59, _, _, _, _, _⟩) rfl hHeld ?_
      try simp only [Act.put, pZa, pZb, pZc]
      refine tkA 16 (i := 4) (oi := ⟨some 60, _, _, _, _, _⟩) rfl hHeld ?_
      try simp only [Act.put, pZa, pZb, pZc]
      refine tkA 16 (i := 5) (oi := ⟨some 61, _, _, _, _, _⟩) rfl hHeld ?_
      try simp only [Act.put, pZa, pZb, pZc]
      refine tkA 16 (i := 6) (oi := ⟨some 62, _, _, _, _, _⟩) rfl hHeld ?_
      try simp only [Act.put, pZa, pZb, pZc]
      clear hHeld
      refine wpAnyL_facts 16 1 7 [(7, 63)] (fun s v w => match s with
        | 63 => ∃ A13 c13, v = .tuple #[.slice A13 R.length c13, .int .i64 E] ∧ w.ownsRow w7.heap.size 103 2 (.slice A13 R.length c13) R.length (R.flatMap bkC)
        | _ => True) (fun w w' => Below w.heap.size w w') (by kernel_rfl) (by kernel_rfl) bZh ⟨?_, trivial⟩ (fun w' hB => ⟨(hB.cell (p := ⟨w5.heap.size, 3, none⟩) hly).trans m3, (hB.cell (p := ⟨w6.heap.size, 2, none⟩) hlS).trans n2, (hB.cell (p := ⟨g, j * 5 + 2, none⟩) hgl).trans cy, (hB.frozen (p := ⟨g, j * 5 + 2, none⟩) hgl).trans cfz⟩) ⟨?_, trivial⟩ ?_
      focus
        intro v w w' h hB
        exact (by obtain ⟨A13, c13, e, hb⟩ := h; exact ⟨A13, c13, e, ownBelow hb hB (Nat.le_refl _)⟩)
      focus
        intro vs w2 hBf hFf o ho K hK
        obtain rfl : (⟨some 63, _, _, _, _, _⟩ : Oper) = o := Option.some.inj ho
        clear ho
        (try simp only [fillL, pZd, pZe, Act.put, pZa, pZb, pZc] at hK ⊢)
        go_simp
        refine (HC.out _ (hV37.trans (((Below.refl w7.heap.size w7).drew.trans hBf).mono hV37.size))).mono ?_
        rintro e w4 ⟨v4, rfl, ho4, hB4⟩
        obtain ⟨A4, c4, rfl, _, _, _, _⟩ := ownAny ho4
        exact hK.out _ _ ⟨⟨A4, c4, rfl, ownBase ho4 ((Below.refl w7.heap.size w7).drew.trans hBf).size⟩, hB4⟩
      intro vs w2 hBf hFf
      (try simp only [fillL, pZd, pZe, Act.put, pZa, pZb, pZc])
      obtain ⟨A13, c13, e13, h13⟩ := (hFf (7, 63) (by simp))
      simp only [e13]
      have hBw : Below w7.heap.size w7 w2 := (Below.refl w7.heap.size w7).drew.trans hBf
      have H13 := Lib.hid h13
      clear h13
      have hHeld : (fun W => W.cell? ⟨w5.heap.size, 3, none⟩ = some (.slice (some ⟨g, 0, none⟩) y.sets_.l.length y.sets_.c) ∧ W.cell? ⟨w6.heap.size, 2, none⟩ = some (.slice s.body_.A s.body_.l.length s.body_.c) ∧ W.cell? ⟨g, j * 5 + 2, none⟩ = some (.slice t.body_.A t.body_.l.length t.body_.c) ∧ W.frozen? ⟨g, j * 5 + 2, none⟩ = false) w2 := ⟨(hBf.cell (p := ⟨w5.heap.size, 3, none⟩) hly).trans m3, (hBf.cell (p := ⟨w6.heap.size, 2, none⟩) hlS).trans n2, (hBf.cell (p := ⟨g, j * 5 + 2, none⟩) hgl).trans cy, (hBf.frozen (p := ⟨g, j * 5 + 2, none⟩) hgl).trans cfz⟩
      refine tkA 16 (i := 8) (oi := ⟨some 55, _, _, _, _, _⟩) rfl hHeld ?_
      try simp only [Act.put, pZa, pZb, pZc]
      refine tkA 16 (i := 9) (oi := ⟨some 64, _, _, _, _, _⟩) rfl hHeld ?_
      try simp only [Act.put, pZa, pZb, pZc]
      refine wpAnyL_takeW (i := 10) (oi := ⟨some 65, _, _, _, _, _⟩) (v := ?_) rfl (by kernel_rfl) (by kernel_rfl) (by kernel_rfl) (by kernel_rfl) (fun _ _ _ h => h) (Or.inl ⟨by rfl, ?_⟩) (.inr hHeld) ?_
      rotate_left
      focus (intro w hSw; (try dsimp only at hSw); go_simp; try (with_reducible rfl))
      try simp only [Act.put, pZa, pZb, pZc]
      refine tkA 16 (i := 11) (oi := ⟨some 66, _, _, _, _, _⟩) rfl hHeld ?_
      try simp only [Act.put, pZa, pZb, pZc]
      refine tkA 16 (i := 12) (oi := ⟨some 67, _, _, _, _, _⟩) rfl hHeld ?_
      try simp only [Act.put, pZa, pZb, pZc]
      refine wpAnyL_last (i := 13) (o := ⟨none, _, _, _, _, _⟩) (by kernel_rfl) rfl (by kernel_rfl) (fun K hK => ?_)
      go_simp
      go_wp2_with fail
      refine hK.out _ _ ?_
      clear hK K
      try simp only [Act.put, pZa, pZb, pZc]
      refine wpAnyL_last (i := 14) (o := ⟨some 16, _, _, _, _, _⟩) (by kernel_rfl) rfl (by kernel_rfl) (fun K hK => ?_)
      go_simp
      refine hK.out _ _ ?_
      clear hK K
      try simp only [Act.put, pZa, pZb, pZc]
      refine wpAnyL_done (by kernel_rfl) ?_ _
      refine NoPanic.normal ?_
      have hrow2 := (HO7.out.below hBw).sets
      unfold Sl.val at hrow2
      rw [HAY.out] at hrow2
      have hgY : w5.heap.size ≠ g := fun e => own_not hrow2 (kY7.of hBw) (by decide) (by rw [e]; rfl)
      have hgR : a1.heap.size ≠ g := fun e => own_not hrow2 (K7.of hBw) (by decide) (by rw [e]; rfl)
      have kY8 := (kY7.of hBw).other (g' := g) hgY (j * 5 + 2) (.slice A13 R.length c13)
      have K8 := (K7.of hBw).other (g' := g) hgR (j * 5 + 2) (.slice A13 R.length c13)
      have hsz37 := hV37.size
      have hbase : w.heap.size ≤ w4.heap.size := Nat.le_trans hs2 hV3.size
      have hwg : w.heap.size ≤ g := Nat.le_trans hbase hgn
      have hX8 : Below w.heap.size w (w2.setCell ⟨g, j * 5 + 2, none⟩ (.slice A13 R.length c13)) := ((hB2.trans ((hV37.trans (hBw.mono hsz37)).mono hs2))).setCell (p := ⟨g, j * 5 + 2, none⟩) hwg _
      have hkp := keeps_setIn hrow2 (j * 5 + 2) (.slice A13 R.length c13)
      have h13' := own_keeps H13.out (by decide) hkp
      have htu : E = 0 → OwnTe w4.heap.size (w2.setCell ⟨g, j * 5 + 2, none⟩ (.slice A13 R.length c13)) ({ y with sets_ := ⟨some ⟨g, 0, none⟩, y.sets_.l.set j (⟨t.path_, t.origin_, ⟨A13, R, c13⟩, t.snaps_, t.own_⟩ : MSet), y.sets_.c⟩ } : MTenant) ∧ ({ y with sets_ := ⟨some ⟨g, 0, none⟩, y.sets_.l.set j (⟨t.path_, t.origin_, ⟨A13, R, c13⟩, t.snaps_, t.own_⟩ : MSet), y.sets_.c⟩ } : MTenant).Good (w2.setCell ⟨g, j * 5 + 2, none⟩ (.slice A13 R.length c13)) := fun h0 => by
        have hE0 : putE s.body_.l i d.size = 0 := by rw [HE.out]; exact h0
        have hRk : R = putK s.body_.l i d := by
          rw [← HRR.out]
          exact if_pos hE0
        have h9 := (HO7.out.eset t (List.mem_of_getElem? HJT.out)).below hBw
        have htg := HGY.out.gsets_.el t (List.mem_of_getElem? HJT.out)
        have hss := MSet.Good.of_own htg rfl (h9.setIn hkp)
        have hgr : SlGood (w2.setCell ⟨g, j * 5 + 2, none⟩ (.slice A13 R.length c13)) bkC goodBk 24 ⟨A13, R, c13⟩ := slGood_of h13' rfl (by rw [hRk]; intro z hz; have h9 := okK_mem (putK_ok hE0) z hz; exact ⟨by omega, by omega, by omega⟩) (by rw [hRk]; have h9 := okK_len (putK_ok hE0); omega)
        exact turned hBw HO7.out HGY.out HAY.out HJT.out (by decide) (by rfl) ⟨ownBase H13.out (by omega), h9.snaps, h9.own, h9.each⟩ ⟨hss.gpath_, hss.gorigin_, hgr, hss.gsnaps_, hss.gown_⟩
      have hpl : E = 0 → ({ y with sets_ := ⟨some ⟨g, 0, none⟩, y.sets_.l.set j (⟨t.path_, t.origin_, ⟨A13, R, c13⟩, t.snaps_, t.own_⟩ : MSet), y.sets_.c⟩ } : MTenant).plain = { x.plain with sets_ := chS p (fun s => { s with body_ := putK s.body_ i d }) x.plain.sets_ } := fun h0 => by
        have hE0 : putE s.body_.l i d.size = 0 := by rw [HE.out]; exact h0
        have hRk : R = putK s.body_.l i d := by
          rw [← HRR.out]
          exact if_pos hE0
        rw [HCH.out]
        show ({ y.plain with sets_ := (y.sets_.l.set j (⟨t.path_, t.origin_, ⟨A13, R, c13⟩, t.snaps_, t.own_⟩ : MSet)).map MSet.plain } : PTenant) = _
        rw [List.map_set, HYL.out, HPY.out, hRk]
        have e1 : (⟨t.path_, t.origin_, ⟨A13, (putK s.body_.l i d), c13⟩, t.snaps_, t.own_⟩ : MSet).plain = (fun s => { s with body_ := putK s.body_ i d }) s.plain := by
          have hb : s.body_.l = t.body_.l := (congrArg PSet.body_ HTP.out).symm
          rw [← HTP.out, hb]
          rfl
        rw [e1]
        rfl
      obtain ⟨w8, hw8⟩ : ∃ w8, w2.setCell ⟨g, j * 5 + 2, none⟩ (.slice A13 R.length c13) = w8 := ⟨_, rfl⟩
      rw [hw8] at kY8 K8 hX8 htu
      have HT := Lib.hid htu
      have HPL := Lib.hid hpl
      have HW8 := Lib.hid hw8
      rw [HAY.out] at kY8
      have hlK := K8.lt
      have hlk9 : a1.heap.size < w4.heap.size := by have := hV3.size; omega
      clear htu hpl hw8 h13' hkp hrow2 m0 m1 m2 m3 m4 m5 m6 n0 n1 n2 n3 n4
      go_upto_region 17 with fail
      try rw [HW8.out]
      by_cases hz : E = 0
      · subst hz
        obtain ⟨hoT, hgT⟩ := HT.out rfl
        have hplT := HPL.out rfl
        have hPE : PP = setlP { x.plain with sets_ := chS p (fun s => { s with body_ := putK s.body_ i d }) x.plain.sets_ } := by rw [HV.out]; exact if_neg (by decide)
        subst hPE
        obtain ⟨Y, hY⟩ : ∃ Y : MTenant, ({ y with sets_ := ⟨some ⟨g, 0, none⟩, y.sets_.l.set j (⟨t.path_, t.origin_, ⟨A13, R, c13⟩, t.snaps_, t.own_⟩ : MSet), y.sets_.c⟩ } : MTenant) = Y := ⟨_, rfl⟩
        have hYc : Y.cells.toArray = #[.string y.name_, .int .i64 y.quota_, .int .i64 y.next_, .slice (some ⟨g, 0, none⟩) y.sets_.l.length y.sets_.c, .slice y.grants_.A y.grants_.l.length y.grants_.c, .slice y.stages_.A y.stages_.l.length y.stages_.c, .slice y.log_.A y.log_.l.length y.log_.c] := by rw [← hY]; simp only [MTenant.cells, List.length_set]
        rw [hY] at hoT hgT hplT
        have HS := Lib.hid (refSettled_any Y w8 hgT)
        rw [hYc] at HS
        obtain ⟨EE, hEE⟩ : ∃ EE, (setlP Y.plain).2 = EE := ⟨_, rfl⟩
        rw [hEE] at HS
        have hEP : (setlP { x.plain with sets_ := chS p (fun s => { s with body_ := putK s.body_ i d }) x.plain.sets_ }).2 = EE := by rw [← hEE, hplT]
        obtain ⟨z, hzz⟩ : ∃ z, setlM Y = z := ⟨_, rfl⟩
        have HEP := Lib.hid hEP
        have HYP := Lib.hid hplT
        rw [hzz] at HS
        clear hY hYc hEE hEP hplT
        obtain ⟨m0, m1, m2, m3, m4, m5, m6⟩ := kY8.all7
        go_wp2_with fail
        refine HS.out.mono ?_
        rintro e w9 ⟨rfl, hV9, hfr⟩
        have hoz : OwnTe w4.heap.size w9 z := hzz ▸ setlM_own (hoT.stays fun b _ hb2 => hfr b hb2)
        have hgz : z.Good w9 := hzz ▸ setlM_good (hgT.below hV9)
        have hpz : z.plain = (setlP Y.plain).1 := hzz ▸ setlM_plain Y
        have K9 := K8.of hV9
        have hX9 := hX8.trans (hV9.mono hX8.size)
        obtain ⟨zr0, zr1, zr2, zr3, zr4, zr5, zr6⟩ := K9.all7
        obtain ⟨zrf0, zrf1, zrf2, zrf3, zrf4, zrf5, zrf6⟩ := K9.fz7
        go_wp2
        generalize hwE : World.setCell _ ⟨a1.heap.size, 6, none⟩ _ = wE
        obtain ⟨KE, SE, ZE, BE⟩ := store7 K9 hwE
        obtain ⟨ze0, ze1, ze2, ze3, ze4, ze5, ze6⟩ := KE.all7
        refine bodyPost_ret (v := .tuple #[.agg #[.string z.name_, .int .i64 z.quota_, .int .i64 z.next_, .slice z.sets_.A z.sets_.l.length z.sets_.c, .slice z.grants_.A z.grants_.l.length z.grants_.c, .slice z.stages_.A z.stages_.l.length z.stages_.c, .slice z.log_.A z.log_.l.length z.log_.c], .int .i64 EE]) (by simp [results, Tryz.results11, go_sem, ze0, ze1, ze2, ze3, ze4, ze5, ze6]) rfl ?_
        rw [HYP.out] at hpz
        exact ⟨z, by rw [HEP.out], MTenant.Good.of_own hgz rfl (hoz.store hlk9 SE), hpz, BE _ _ hX9 hs1⟩
      · have hPE : PP = (noT, E) := by rw [HV.out]; exact if_pos hz
        subst hPE
        obtain ⟨zr0, zr1, zr2, zr3, zr4, zr5, zr6⟩ := K8.all7
        obtain ⟨zrf0, zrf1, zrf2, zrf3, zrf4, zrf5, zrf6⟩ := K8.fz7
        go_wp2
        generalize hwE : World.setCell _ ⟨a1.heap.size, 6, none⟩ _ = wE
        obtain ⟨KE, SE, ZE, BE⟩ := store7 K8 hwE
        obtain ⟨ze0, ze1, ze2, ze3, ze4, ze5, ze6⟩ := KE.all7
        refine bodyPost_ret (v := .tuple #[.agg #[.string ⟨#[]⟩, .int .i64 0, .int .i64 0, .slice none 0 0, .slice none 0 0, .slice none 0 0, .slice none 0 0], .int .i64 E]) (by simp [results, Tryz.results11, go_sem, ze0, ze1, ze2, ze3, ze4, ze5, ze6]) rfl ?_
        exact ansG_no (BE _ _ hX8 hs1)
    · have hpl : hasSet x.plain p = false := by rw [hh]; simpa using h0
      have hsn := hasSet_no.1 hpl
      have hc : PP = (noT, 71) := by
        rw [← hPP]
        exact write_none hk0 hsn
      subst hc
      generalize findM x p = F at *
      clear hPP hpl hsn hh hx hx2 hk hk0
      go_enter Tryz.func11, Tryz.ntmps11
      go_upto_region 1 with fail
      rw [HW1.out, HW2.out]
      try rw [hX2]
      go_wp2_with fail
      refine HR.out.mono ?_
      rintro e w3 ⟨rfl, hV⟩
      have K1 := k1.of hV
      have K2 := k2.of hV
      obtain ⟨d0, d1, d2, d3, d4, d5, d6⟩ := K1.all7
      go_wp2_with fail
      refine (HF.out _ hV).mono ?_
      rintro e w4 ⟨rfl, hV2⟩
      have hV3 := hV.trans (hV2.mono hV.size)
      have K3 := K1.of hV2
      have K4 := K2.of hV2
      have hX := hB2.trans (hV3.mono hs2)
      obtain ⟨zr0, zr1, zr2, zr3, zr4, zr5, zr6⟩ := K4.all7
      obtain ⟨zrf0, zrf1, zrf2, zrf3, zrf4, zrf5, zrf6⟩ := K4.fz7
      go_wp2
      generalize hwE : World.setCell _ ⟨a1.heap.size, 6, none⟩ _ = wE
      obtain ⟨KE, SE, ZE, BE⟩ := store7 K4 hwE
      obtain ⟨ze0, ze1, ze2, ze3, ze4, ze5, ze6⟩ := KE.all7
      refine bodyPost_ret (v := .tuple #[.agg #[.string ⟨#[]⟩, .int .i64 0, .int .i64 0, .slice none 0 0, .slice none 0 0, .slice none 0 0, .slice none 0 0], .int .i64 71]) (by simp [results, Tryz.results11, go_sem, ze0, ze1, ze2, ze3, ze4, ze5, ze6]) rfl ?_
      exact ansG_no (BE _ _ hX hs1)
theorem Blk.same {W W' : World} {R : Nat} {t : TypeId} {C : List Value} (h : Blk W R t C) (e : W'.heap[R]? = W.heap[R]?) : Blk W' R t C := e.trans h
theorem MTenant.Good.stays {W W' : World} {n : Nat} {y : MTenant} (h : y.Good W) (ho : OwnTe n W y) (hk : ∀ b, n ≤ b → b < W.heap.size → W'.heap[b]? = W.heap[b]?) : y.Good W' := h.of_own rfl (ho.stays hk)
set_option maxHeartbeats 4000000 in
theorem owns16_walk (x : MTenant) (p : ByteArray) (i : Int) (d : ByteArray) (hp : p.size ≤ 4398046511104) (hd : d.size ≤ 140737488351232) (w : World) (hx : x.Good w) (ht : x.Tiny) (hl : (x.sets_.l.length + 1) * 104 ≤ 140737488351232) :
    Calls Tryz.prog 4 #[.agg x.cells.toArray, .string p, .int .i64 i, .string d] w fun e w' => e = .returned (.bool true) ∧ Below w.heap.size w w' := by
  have hp2 : p.size ≤ 140737488351232 := Nat.le_trans hp (by decide)
  obtain ⟨P1, hP1⟩ : ∃ P, writeU x.plain p i d = P := ⟨_, rfl⟩
  obtain ⟨P2, hP2⟩ : ∃ P, createU x.plain p = P := ⟨_, rfl⟩
  obtain ⟨P3, hP3⟩ : ∃ P, withP x.plain (newP p) = P := ⟨_, rfl⟩
  obtain ⟨a1, hw1⟩ : ∃ a1, w.alloc (.cells #[.string x.name_, .int .i64 x.quota_, .int .i64 x.next_, .slice x.sets_.A x.sets_.l.length x.sets_.c, .slice x.grants_.A x.grants_.l.length x.grants_.c, .slice x.stages_.A x.stages_.l.length x.stages_.c, .slice x.log_.A x.log_.l.length x.log_.c] 27) = a1 := ⟨_, rfl⟩
  have b1 : Below w.heap.size w a1 := hw1 ▸ (Below.refl _ w).alloc (Nat.le_refl _) _
  have k1 : Blk a1 w.heap.size 27 [.string x.name_, .int .i64 x.quota_, .int .i64 x.next_, .slice x.sets_.A x.sets_.l.length x.sets_.c, .slice x.grants_.A x.grants_.l.length x.grants_.c, .slice x.stages_.A x.stages_.l.length x.stages_.c, .slice x.log_.A x.log_.l.length x.log_.c] := hw1 ▸ Blk.new w _ _
  have hB1 : Below w.heap.size w a1 := b1
  have hs1 := hB1.size
  have HW1 := Lib.hid hw1
  clear hw1 b1
  have hx1 := hx.below hB1
  have HA := Lib.hid (alive16_any a1)
  have HN := Lib.hid (fun n W => num16_any n W)
  have HO : Hid (∀ W, Below a1.heap.size a1 W → Calls Tryz.prog 18 #[.agg x.cells.toArray] W fun e w' => ∃ y : MTenant, e = .returned (.agg y.cells.toArray) ∧ OwnTe W.heap.size w' y ∧ y.Good w' ∧ y.plain = x.plain ∧ Below W.heap.size W w') := Lib.hid fun W hW => (refOwnT_any x W (hx1.below hW)).mono fun e w' ⟨y, h1, h2, h3, h4⟩ => ⟨y, h1, h2, (hx1.below hW).of_own h3 h2, h3, h4⟩
  have H1 : Hid (∀ (y : MTenant) W, y.plain = x.plain → y.Good W → Calls Tryz.prog 10 #[.agg y.cells.toArray, .string p, .int .i64 i, .string d] W fun e w' => AnsT W P1 e w') := Lib.hid fun y W hy hW => by
    have h9 := write_any y p i d hp2 hd W hW
    rw [hy, hP1] at h9
    exact h9
  have H2 : Hid (∀ (y : MTenant) W, y.plain = x.plain → y.Good W → Calls Tryz.prog 19 #[.agg y.cells.toArray, .string p] W fun e w' => AnsT W P2 e w') := Lib.hid fun y W hy hW => by
    have h9 := create_any y p hp2 W hW
    rw [hy, hP2] at h9
    exact h9
  have H3 : Hid (∀ (y : MTenant) W, y.plain = x.plain → y.Good W → x.Good W → Calls Tryz.prog 15 #[.agg y.cells.toArray, .agg x.cells.toArray] W fun e w' => e = .returned (.bool true) ∧ Below W.heap.size W w') := Lib.hid fun y W hy hW hX => refTe y x hy.symm W hW hX
  have H4 : Hid (∀ W, x.Good W → Calls Tryz.prog 11 #[.agg x.cells.toArray, .string p, .int .i64 1, .int .i64 i, .int .i64 0, .string ⟨#[]⟩, .string d] W fun e w' => AnsG W P1 e w') := Lib.hid fun W hW => by
    have h9 := refTurn1_any x p i d hp hd W hW ht
    rw [hP1] at h9
    exact h9
  have H5 : Hid (∀ W, x.Good W → Calls Tryz.prog 21 #[.agg x.cells.toArray, .string p] W fun e w' => AnsG W P2 e w') := Lib.hid fun W hW => by
    have h9 := refCreate_any x p hp W hW ht
    rw [← create_eq, hP2] at h9
    exact h9
  have H6 : Hid (∀ W, x.Good W → Calls Tryz.prog 22 #[.agg x.cells.toArray, .agg #[.string p, .string ⟨#[]⟩, .slice none 0 0, .slice none 0 0, .slice none 0 0]] W fun e w' => ∃ y : MTenant, e = .returned (.agg y.cells.toArray) ∧ y.Good w' ∧ y.plain = P3 ∧ Below W.heap.size W w') := Lib.hid fun W hW => by
    have h9 := refWith_any x (⟨p, ByteArray.empty, ⟨none, [], 0⟩, ⟨none, [], 0⟩, ⟨none, [], 0⟩⟩ : MSet) W hW (newM_good p hp2 W) (newM_own p) hl
    exact h9.mono fun e w' ⟨y, h1, h2, h3, h4, h5⟩ => ⟨y, h1, h3, h4.trans hP3, h5⟩
  have H7 : Hid (∀ W, x.Good W → Calls Tryz.prog 23 #[.agg x.cells.toArray, .agg #[.string p, .string ⟨#[]⟩, .slice none 0 0, .slice none 0 0, .slice none 0 0]] W fun e w' => ∃ y : MTenant, e = .returned (.agg y.cells.toArray) ∧ y.Good w' ∧ y.plain = P3 ∧ Below W.heap.size W w') := Lib.hid fun W hW => by
    have h9 := with_any x (⟨p, ByteArray.empty, ⟨none, [], 0⟩, ⟨none, [], 0⟩, ⟨none, [], 0⟩⟩ : MSet) W hW (newM_good p hp2 W) hl
    exact h9.mono fun e w' ⟨y, h1, h2, h3, h4, h5⟩ => ⟨y, h1, h3, h4.trans hP3, h5⟩
  have HX := Lib.hid hx
  clear hP1 hP2 hP3 hx ht hp hp2 hd hl
  go_enter Tryz.func4, Tryz.ntmps4
  go_upto_region 1 with fail
  rw [HW1.out]
  have G2 := Lib.hid (HA.out)
  go_wp2_with fail
  refine G2.out.mono ?_
  rintro e v2 ⟨rfl, hV2⟩
  clear G2
  have hU_3 : Below a1.heap.size a1 v2 := (Below.refl a1.heap.size a1).trans ((hV2).mono (Below.refl a1.heap.size a1).size)
  have k1 := k1.of hV2
  have hx1 := hx1.below hV2
  obtain ⟨q1_k1_0, q1_k1_1, q1_k1_2, q1_k1_3, q1_k1_4, q1_k1_5, q1_k1_6⟩ := k1.all7
  have hN0 := hU_3.size
  have hN0a : w.heap.size < v2.heap.size := Nat.lt_of_lt_of_le k1.lt (Nat.le_refl _)
  have G4 := Lib.hid (HO.out v2 hU_3)
  go_wp2_with fail
  refine G4.out.mono ?_
  rintro e v4 ⟨y, rfl, hoy, hgy, hpy, hV4⟩
  clear G4
  have hU_5 : Below a1.heap.size a1 v4 := hU_3.trans ((hV4).mono hU_3.size)
  have k1 := k1.of hV4
  have hx1 := hx1.below hV4
  have hgY := hgy
  have hoY := hoy
  clear q1_k1_0 q1_k1_1 q1_k1_2 q1_k1_3 q1_k1_4 q1_k1_5 q1_k1_6
  have hD := Below.refl v4.heap.size v4
  have hsD := hD.size
  have le_y := hsD
  obtain ⟨z6, hz6⟩ : ∃ z, v4.alloc (.cells #[.string y.name_, .int .i64 y.quota_, .int .i64 y.next_, .slice y.sets_.A y.sets_.l.length y.sets_.c, .slice y.grants_.A y.grants_.l.length y.grants_.c, .slice y.stages_.A y.stages_.l.length y.stages_.c, .slice y.log_.A y.log_.l.length y.log_.c] 27) = z := ⟨_, rfl⟩
  have hAz6 : Below v4.heap.size v4 z6 := hz6 ▸ (Below.refl _ v4).alloc (Nat.le_refl _) _
  have ky : Blk z6 v4.heap.size 27 [.string y.name_, .int .i64 y.quota_, .int .i64 y.next_, .slice y.sets_.A y.sets_.l.length y.sets_.c, .slice y.grants_.A y.grants_.l.length y.grants_.c, .slice y.stages_.A y.stages_.l.length y.stages_.c, .slice y.log_.A y.log_.l.length y.log_.c] := hz6 ▸ Blk.new v4 _ _
  have HZz6 := Lib.hid hz6
  clear hz6
  have hU_7 : Below a1.heap.size a1 z6 := hU_5.trans ((hAz6).mono hU_5.size)
  have k1 := k1.of hAz6
  have hx1 := hx1.below hAz6
  have hgy := hgy.below hAz6
  have hoy := hoy.below hAz6
  have hD := hD.trans ((hAz6).mono hsD)
  have hsD := hD.size
  go_upto_region 4 with fail
  rw [HZz6.out]
  obtain ⟨q2_ky_0, q2_ky_1, q2_ky_2, q2_ky_3, q2_ky_4, q2_ky_5, q2_ky_6⟩ := ky.all7
  have lo_a := hsD
  have G8 := Lib.hid (H1.out y z6 hpy hgy)
  go_wp2_with fail
  refine G8.out.mono ?_
  rintro e v8 ⟨a, rfl, hoa, hga, hpa, hV8⟩
  clear G8
  have hU_9 : Below a1.heap.size a1 v8 := hU_7.trans ((hV8).mono hU_7.size)
  have k1 := k1.of hV8
  have ky := ky.of hV8
  have hx1 := hx1.below hV8
  have hgy := hgy.below hV8
  have hoy := hoy.below hV8
  have hD := hD.trans ((hV8).mono hsD)
  have hsD := hD.size
  clear q2_ky_0 q2_ky_1 q2_ky_2 q2_ky_3 q2_ky_4 q2_ky_5 q2_ky_6
  have le_a := hsD
  obtain ⟨z10, hz10⟩ : ∃ z, v8.alloc (.cells #[.string a.name_, .int .i64 a.quota_, .int .i64 a.next_, .slice a.sets_.A a.sets_.l.length a.sets_.c, .slice a.grants_.A a.grants_.l.length a.grants_.c, .slice a.stages_.A a.stages_.l.length a.stages_.c, .slice a.log_.A a.log_.l.length a.log_.c] 27) = z := ⟨_, rfl⟩
  have hAz10 : Below v8.heap.size v8 z10 := hz10 ▸ (Below.refl _ v8).alloc (Nat.le_refl _) _
  have ka : Blk z10 v8.heap.size 27 [.string a.name_, .int .i64 a.quota_, .int .i64 a.next_, .slice a.sets_.A a.sets_.l.length a.sets_.c, .slice a.grants_.A a.grants_.l.length a.grants_.c, .slice a.stages_.A a.stages_.l.length a.stages_.c, .slice a.log_.A a.log_.l.length a.log_.c] := hz10 ▸ Blk.new v8 _ _
  have HZz10 := Lib.hid hz10
  clear hz10
  have hU_11 : Below a1.heap.size a1 z10 := hU_9.trans ((hAz10).mono hU_9.size)
  have k1 := k1.of hAz10
  have ky := ky.of hAz10
  have hx1 := hx1.below hAz10
  have hgy := hgy.below hAz10
  have hga := hga.below hAz10
  have hoy := hoy.below hAz10
  have hoa := hoa.below hAz10
  have hD := hD.trans ((hAz10).mono hsD)
  have hsD := hD.size
  go_upto_region 5 with fail
  rw [HZz10.out]
  obtain ⟨q3_ky_0, q3_ky_1, q3_ky_2, q3_ky_3, q3_ky_4, q3_ky_5, q3_ky_6⟩ := ky.all7
  have lo_b := hsD
  have G12 := Lib.hid (H2.out y z10 hpy hgy)
  go_wp2_with fail
  refine G12.out.mono ?_
  rintro e v12 ⟨b, rfl, hob, hgb, hpb, hV12⟩
  clear G12
  have hU_13 : Below a1.heap.size a1 v12 := hU_11.trans ((hV12).mono hU_11.size)
  have k1 := k1.of hV12
  have ky := ky.of hV12
  have ka := ka.of hV12
  have hx1 := hx1.below hV12
  have hgy := hgy.below hV12
  have hga := hga.below hV12
  have hoy := hoy.below hV12
  have hoa := hoa.below hV12
  have hD := hD.trans ((hV12).mono hsD)
  have hsD := hD.size
  clear q3_ky_0 q3_ky_1 q3_ky_2 q3_ky_3 q3_ky_4 q3_ky_5 q3_ky_6
  have le_b := hsD
  obtain ⟨z14, hz14⟩ : ∃ z, v12.alloc (.cells #[.string b.name_, .int .i64 b.quota_, .int .i64 b.next_, .slice b.sets_.A b.sets_.l.length b.sets_.c, .slice b.grants_.A b.grants_.l.length b.grants_.c, .slice b.stages_.A b.stages_.l.length b.stages_.c, .slice b.log_.A b.log_.l.length b.log_.c] 27) = z := ⟨_, rfl⟩
  have hAz14 : Below v12.heap.size v12 z14 := hz14 ▸ (Below.refl _ v12).alloc (Nat.le_refl _) _
  have kb : Blk z14 v12.heap.size 27 [.string b.name_, .int .i64 b.quota_, .int .i64 b.next_, .slice b.sets_.A b.sets_.l.length b.sets_.c, .slice b.grants_.A b.grants_.l.length b.grants_.c, .slice b.stages_.A b.stages_.l.length b.stages_.c, .slice b.log_.A b.log_.l.length b.log_.c] := hz14 ▸ Blk.new v12 _ _
  have HZz14 := Lib.hid hz14
  clear hz14
  have hU_15 : Below a1.heap.size a1 z14 := hU_13.trans ((hAz14).mono hU_13.size)
  have k1 := k1.of hAz14
  have ky := ky.of hAz14
  have ka := ka.of hAz14
  have hx1 := hx1.below hAz14
  have hgy := hgy.below hAz14
  have hga := hga.below hAz14
  have hgb := hgb.below hAz14
  have hoy := hoy.below hAz14
  have hoa := hoa.below hAz14
  have hob := hob.below hAz14
  have hD := hD.trans ((hAz14).mono hsD)
  have hsD := hD.size
  go_upto_region 6 with fail
  rw [HZz14.out]
  obtain ⟨q4_ky_0, q4_ky_1, q4_ky_2, q4_ky_3, q4_ky_4, q4_ky_5, q4_ky_6⟩ := ky.all7
  obtain ⟨q4_k1_0, q4_k1_1, q4_k1_2, q4_k1_3, q4_k1_4, q4_k1_5, q4_k1_6⟩ := k1.all7
  have G16 := Lib.hid (H3.out y z14 hpy hgy hx1)
  go_wp2_with fail
  refine G16.out.mono ?_
  rintro e v16 ⟨rfl, hV16⟩
  clear G16
  have hU_17 : Below a1.heap.size a1 v16 := hU_15.trans ((hV16).mono hU_15.size)
  have k1 := k1.of hV16
  have ky := ky.of hV16
  have ka := ka.of hV16
  have kb := kb.of hV16
  have hx1 := hx1.below hV16
  have hgy := hgy.below hV16
  have hga := hga.below hV16
  have hgb := hgb.below hV16
  have hoy := hoy.below hV16
  have hoa := hoa.below hV16
  have hob := hob.below hV16
  have hD := hD.trans ((hV16).mono hsD)
  have hsD := hD.size
  clear q4_ky_0 q4_ky_1 q4_ky_2 q4_ky_3 q4_ky_4 q4_ky_5 q4_ky_6 q4_k1_0 q4_k1_1 q4_k1_2 q4_k1_3 q4_k1_4 q4_k1_5 q4_k1_6
  go_upto_region 7 with fail
  obtain ⟨q5_ky_0, q5_ky_1, q5_ky_2, q5_ky_3, q5_ky_4, q5_ky_5, q5_ky_6⟩ := ky.all7
  have HS := Lib.hid (spoilT_any y v2.heap.size v4 v16 hgY hoY hD (hV4).size)
  have hlk1 := k1.lt
  have hN1 : w.heap.size < v2.heap.size := hN0a
  go_wp2_with fail
  refine HS.out.mono ?_
  rintro e v18 ⟨⟨r, rfl⟩, hVS, hKS⟩
  clear q5_ky_0 q5_ky_1 q5_ky_2 q5_ky_3 q5_ky_4 q5_ky_5 q5_ky_6
  have hUS : Below a1.heap.size a1 v18 := (hU_17).trans (hVS.mono hN0)
  have hBX : Below w.heap.size w v18 := hB1.trans (hUS.mono hs1)
  have hx1 := HX.out.below hBX
  have k1 := k1.below hVS hN1
  have ka := ka.same (hKS _ le_a ka.lt)
  have kb := kb.same (hKS _ le_b kb.lt)
  have hga := hga.stays hoa fun b hb hl => hKS b (Nat.le_trans lo_a hb) hl
  have hgb := hgb.stays hob fun b hb hl => hKS b (Nat.le_trans lo_b hb) hl
  clear hgy hoy ky hoa hob hD hsD HS
  go_upto_region 8 with fail
  obtain ⟨q6_k1_0, q6_k1_1, q6_k1_2, q6_k1_3, q6_k1_4, q6_k1_5, q6_k1_6⟩ := k1.all7
  have G19 := Lib.hid (H4.out v18 hx1)
  go_wp2_with fail
  refine G19.out.mono ?_
  rintro e v19 ⟨c, rfl, hgc, hpc, hV19⟩
  clear G19
  have hU_20 : Below a1.heap.size a1 v19 := hUS.trans ((hV19).mono hUS.size)
  have k1 := k1.of hV19
  have ka := ka.of hV19
  have kb := kb.of hV19
  have hx1 := hx1.below hV19
  have hga := hga.below hV19
  have hgb := hgb.below hV19
  clear q6_k1_0 q6_k1_1 q6_k1_2 q6_k1_3 q6_k1_4 q6_k1_5 q6_k1_6
  obtain ⟨z21, hz21⟩ : ∃ z, v19.alloc (.cells #[.string c.name_, .int .i64 c.quota_, .int .i64 c.next_, .slice c.sets_.A c.sets_.l.length c.sets_.c, .slice c.grants_.A c.grants_.l.length c.grants_.c, .slice c.stages_.A c.stages_.l.length c.stages_.c, .slice c.log_.A c.log_.l.length c.log_.c] 27) = z := ⟨_, rfl⟩
  have hAz21 : Below v19.heap.size v19 z21 := hz21 ▸ (Below.refl _ v19).alloc (Nat.le_refl _) _
  have kc : Blk z21 v19.heap.size 27 [.string c.name_, .int .i64 c.quota_, .int .i64 c.next_, .slice c.sets_.A c.sets_.l.length c.sets_.c, .slice c.grants_.A c.grants_.l.length c.grants_.c, .slice c.stages_.A c.stages_.l.length c.stages_.c, .slice c.log_.A c.log_.l.length c.log_.c] := hz21 ▸ Blk.new v19 _ _
  have HZz21 := Lib.hid hz21
  clear hz21
  have hU_22 : Below a1.heap.size a1 z21 := hU_20.trans ((hAz21).mono hU_20.size)
  have k1 := k1.of hAz21
  have ka := ka.of hAz21
  have kb := kb.of hAz21
  have hx1 := hx1.below hAz21
  have hga := hga.below hAz21
  have hgb := hgb.below hAz21
  have hgc := hgc.below hAz21
  go_upto_region 9 with fail
  rw [HZz21.out]
  obtain ⟨q7_k1_0, q7_k1_1, q7_k1_2, q7_k1_3, q7_k1_4, q7_k1_5, q7_k1_6⟩ := k1.all7
  have G23 := Lib.hid (H5.out z21 hx1)
  go_wp2_with fail
  refine G23.out.mono ?_
  rintro e v23 ⟨d, rfl, hgd, hpd, hV23⟩
  clear G23
  have hU_24 : Below a1.heap.size a1 v23 := hU_22.trans ((hV23).mono hU_22.size)
  have k1 := k1.of hV23
  have ka := ka.of hV23
  have kb := kb.of hV23
  have kc := kc.of hV23
  have hx1 := hx1.below hV23
  have hga := hga.below hV23
  have hgb := hgb.below hV23
  have hgc := hgc.below hV23
  clear q7_k1_0 q7_k1_1 q7_k1_2 q7_k1_3 q7_k1_4 q7_k1_5 q7_k1_6
  obtain ⟨z25, hz25⟩ : ∃ z, v23.alloc (.cells #[.string d.name_, .int .i64 d.quota_, .int .i64 d.next_, .slice d.sets_.A d.sets_.l.length d.sets_.c, .slice d.grants_.A d.grants_.l.length d.grants_.c, .slice d.stages_.A d.stages_.l.length d.stages_.c, .slice d.log_.A d.log_.l.length d.log_.c] 27) = z := ⟨_, rfl⟩
  have hAz25 : Below v23.heap.size v23 z25 := hz25 ▸ (Below.refl _ v23).alloc (Nat.le_refl _) _
  have kd : Blk z25 v23.heap.size 27 [.string d.name_, .int .i64 d.quota_, .int .i64 d.next_, .slice d.sets_.A d.sets_.l.length d.sets_.c, .slice d.grants_.A d.grants_.l.length d.grants_.c, .slice d.stages_.A d.stages_.l.length d.stages_.c, .slice d.log_.A d.log_.l.length d.log_.c] := hz25 ▸ Blk.new v23 _ _
  have HZz25 := Lib.hid hz25
  clear hz25
  have hU_26 : Below a1.heap.size a1 z25 := hU_24.trans ((hAz25).mono hU_24.size)
  have k1 := k1.of hAz25
  have ka := ka.of hAz25
  have kb := kb.of hAz25
  have kc := kc.of hAz25
  have hx1 := hx1.below hAz25
  have hga := hga.below hAz25
  have hgb := hgb.below hAz25
  have hgc := hgc.below hAz25
  have hgd := hgd.below hAz25
  go_upto_region 10 with fail
  rw [HZz25.out]
  obtain ⟨q8_k1_0, q8_k1_1, q8_k1_2, q8_k1_3, q8_k1_4, q8_k1_5, q8_k1_6⟩ := k1.all7
  have G27 := Lib.hid (H6.out z25 hx1)
  go_wp2_with fail
  refine G27.out.mono ?_
  rintro e v27 ⟨m, rfl, hgm, hpm, hV27⟩
  clear G27
  have hU_28 : Below a1.heap.size a1 v27 := hU_26.trans ((hV27).mono hU_26.size)
  have k1 := k1.of hV27
  have ka := ka.of hV27
  have kb := kb.of hV27
  have kc := kc.of hV27
  have kd := kd.of hV27
  have hx1 := hx1.below hV27
  have hga := hga.below hV27
  have hgb := hgb.below hV27
  have hgc := hgc.below hV27
  have hgd := hgd.below hV27
  clear q8_k1_0 q8_k1_1 q8_k1_2 q8_k1_3 q8_k1_4 q8_k1_5 q8_k1_6
  obtain ⟨z29, hz29⟩ : ∃ z, v27.alloc (.cells #[.string m.name_, .int .i64 m.quota_, .int .i64 m.next_, .slice m.sets_.A m.sets_.l.length m.sets_.c, .slice m.grants_.A m.grants_.l.length m.grants_.c, .slice m.stages_.A m.stages_.l.length m.stages_.c, .slice m.log_.A m.log_.l.length m.log_.c] 27) = z := ⟨_, rfl⟩
  have hAz29 : Below v27.heap.size v27 z29 := hz29 ▸ (Below.refl _ v27).alloc (Nat.le_refl _) _
  have km : Blk z29 v27.heap.size 27 [.string m.name_, .int .i64 m.quota_, .int .i64 m.next_, .slice m.sets_.A m.sets_.l.length m.sets_.c, .slice m.grants_.A m.grants_.l.length m.grants_.c, .slice m.stages_.A m.stages_.l.length m.stages_.c, .slice m.log_.A m.log_.l.length m.log_.c] := hz29 ▸ Blk.new v27 _ _
  have HZz29 := Lib.hid hz29
  clear hz29
  have hU_30 : Below a1.heap.size a1 z29 := hU_28.trans ((hAz29).mono hU_28.size)
  have k1 := k1.of hAz29
  have ka := ka.of hAz29
  have kb := kb.of hAz29
  have kc := kc.of hAz29
  have kd := kd.of hAz29
  have hx1 := hx1.below hAz29
  have hga := hga.below hAz29
  have hgb := hgb.below hAz29
  have hgc := hgc.below hAz29
  have hgd := hgd.below hAz29
  have hgm := hgm.below hAz29
  go_upto_region 11 with fail
  rw [HZz29.out]
  have hlk_a := ka.lt
  have hlk_b := kb.lt
  have hlk_c := kc.lt
  have hlk_d := kd.lt
  have hlk_m := km.lt
  have hlk_1 := k1.lt
  obtain ⟨q9_ka_0, q9_ka_1, q9_ka_2, q9_ka_3, q9_ka_4, q9_ka_5, q9_ka_6⟩ := ka.all7
  obtain ⟨q9_kb_0, q9_kb_1, q9_kb_2, q9_kb_3, q9_kb_4, q9_kb_5, q9_kb_6⟩ := kb.all7
  obtain ⟨q9_kc_0, q9_kc_1, q9_kc_2, q9_kc_3, q9_kc_4, q9_kc_5, q9_kc_6⟩ := kc.all7
  obtain ⟨q9_kd_0, q9_kd_1, q9_kd_2, q9_kd_3, q9_kd_4, q9_kd_5, q9_kd_6⟩ := kd.all7
  obtain ⟨q9_km_0, q9_km_1, q9_km_2, q9_km_3, q9_km_4, q9_km_5, q9_km_6⟩ := km.all7
  obtain ⟨q9_k1_0, q9_k1_1, q9_k1_2, q9_k1_3, q9_k1_4, q9_k1_5, q9_k1_6⟩ := k1.all7
  have HSF := Lib.hid (fun (W : World) (hB : Below z29.heap.size z29 W) => (⟨(hB.cell (p := ⟨v8.heap.size, 0, none⟩) hlk_a).trans q9_ka_0, (hB.cell (p := ⟨v8.heap.size, 1, none⟩) hlk_a).trans q9_ka_1, (hB.cell (p := ⟨v8.heap.size, 2, none⟩) hlk_a).trans q9_ka_2, (hB.cell (p := ⟨v8.heap.size, 3, none⟩) hlk_a).trans q9_ka_3, (hB.cell (p := ⟨v8.heap.size, 4, none⟩) hlk_a).trans q9_ka_4, (hB.cell (p := ⟨v8.heap.size, 5, none⟩) hlk_a).trans q9_ka_5, (hB.cell (p := ⟨v8.heap.size, 6, none⟩) hlk_a).trans q9_ka_6, (hB.cell (p := ⟨v12.heap.size, 0, none⟩) hlk_b).trans q9_kb_0, (hB.cell (p := ⟨v12.heap.size, 1, none⟩) hlk_b).trans q9_kb_1, (hB.cell (p := ⟨v12.heap.size, 2, none⟩) hlk_b).trans q9_kb_2, (hB.cell (p := ⟨v12.heap.size, 3, none⟩) hlk_b).trans q9_kb_3, (hB.cell (p := ⟨v12.heap.size, 4, none⟩) hlk_b).trans q9_kb_4, (hB.cell (p := ⟨v12.heap.size, 5, none⟩) hlk_b).trans q9_kb_5, (hB.cell (p := ⟨v12.heap.size, 6, none⟩) hlk_b).trans q9_kb_6, (hB.cell (p := ⟨v19.heap.size, 0, none⟩) hlk_c).trans q9_kc_0, (hB.cell (p := ⟨v19.heap.size, 1, none⟩) hlk_c).trans q9_kc_1, (hB.cell (p := ⟨v19.heap.size, 2, none⟩) hlk_c).trans q9_kc_2, (hB.cell (p := ⟨v19.heap.size, 3, none⟩) hlk_c).trans q9_kc_3, (hB.cell (p := ⟨v19.heap.size, 4, none⟩) hlk_c).trans q9_kc_4, (hB.cell (p := ⟨v19.heap.size, 5, none⟩) hlk_c).trans q9_kc_5, (hB.cell (p := ⟨v19.heap.size, 6, none⟩) hlk_c).trans q9_kc_6, (hB.cell (p := ⟨v23.heap.size, 0, none⟩) hlk_d).trans q9_kd_0, (hB.cell (p := ⟨v23.heap.size, 1, none⟩) hlk_d).trans q9_kd_1, (hB.cell (p := ⟨v23.heap.size, 2, none⟩) hlk_d).trans q9_kd_2, (hB.cell (p := ⟨v23.heap.size, 3, none⟩) hlk_d).trans q9_kd_3, (hB.cell (p := ⟨v23.heap.size, 4, none⟩) hlk_d).trans q9_kd_4, (hB.cell (p := ⟨v23.heap.size, 5, none⟩) hlk_d).trans q9_kd_5, (hB.cell (p := ⟨v23.heap.size, 6, none⟩) hlk_d).trans q9_kd_6, (hB.cell (p := ⟨v27.heap.size, 0, none⟩) hlk_m).trans q9_km_0, (hB.cell (p := ⟨v27.heap.size, 1, none⟩) hlk_m).trans q9_km_1, (hB.cell (p := ⟨v27.heap.size, 2, none⟩) hlk_m).trans q9_km_2, (hB.cell (p := ⟨v27.heap.size, 3, none⟩) hlk_m).trans q9_km_3, (hB.cell (p := ⟨v27.heap.size, 4, none⟩) hlk_m).trans q9_km_4, (hB.cell (p := ⟨v27.heap.size, 5, none⟩) hlk_m).trans q9_km_5, (hB.cell (p := ⟨v27.heap.size, 6, none⟩) hlk_m).trans q9_km_6, (hB.cell (p := ⟨w.heap.size, 0, none⟩) hlk_1).trans q9_k1_0, (hB.cell (p := ⟨w.heap.size, 1, none⟩) hlk_1).trans q9_k1_1, (hB.cell (p := ⟨w.heap.size, 2, none⟩) hlk_1).trans q9_k1_2, (hB.cell (p := ⟨w.heap.size, 3, none⟩) hlk_1).trans q9_k1_3, (hB.cell (p := ⟨w.heap.size, 4, none⟩) hlk_1).trans q9_k1_4, (hB.cell (p := ⟨w.heap.size, 5, none⟩) hlk_1).trans q9_k1_5, (hB.cell (p := ⟨w.heap.size, 6, none⟩) hlk_1).trans q9_k1_6⟩ : W.cell? ⟨v8.heap.size, 0, none⟩ = some (.string a.name_) ∧ W.cell? ⟨v8.heap.size, 1, none⟩ = some (.int .i64 a.quota_) ∧ W.cell? ⟨v8.heap.size, 2, none⟩ = some (.int .i64 a.next_) ∧ W.cell? ⟨v8.heap.size, 3, none⟩ = some (.slice a.sets_.A a.sets_.l.length a.sets_.c) ∧ W.cell? ⟨v8.heap.size, 4, none⟩ = some (.slice a.grants_.A a.grants_.l.length a.grants_.c) ∧ W.cell? ⟨v8.heap.size, 5, none⟩ = some (.slice a.stages_.A a.stages_.l.length a.stages_.c) ∧ W.cell? ⟨v8.heap.size, 6, none⟩ = some (.slice a.log_.A a.log_.l.length a.log_.c) ∧ W.cell? ⟨v12.heap.size, 0, none⟩ = some (.string b.name_) ∧ W.cell? ⟨v12.heap.size, 1, none⟩ = some (.int .i64 b.quota_) ∧ W.cell? ⟨v12.heap.size, 2, none⟩ = some (.int .i64 b.next_) ∧ W.cell? ⟨v12.heap.size, 3, none⟩ = some (.slice b.sets_.A b.sets_.l.length b.sets_.c) ∧ W.cell? ⟨v12.heap.size, 4, none⟩ = some (.slice b.grants_.A b.grants_.l.length b.grants_.c) ∧ W.cell? ⟨v12.heap.size, 5, none⟩ = some (.slice b.stages_.A b.stages_.l.length b.stages_.c) ∧ W.cell? ⟨v12.heap.size, 6, none⟩ = some (.slice b.log_.A b.log_.l.length b.log_.c) ∧ W.cell? ⟨v19.heap.size, 0, none⟩ = some (.string c.name_) ∧ W.cell? ⟨v19.heap.size, 1, none⟩ = some (.int .i64 c.quota_) ∧ W.cell? ⟨v19.heap.size, 2, none⟩ = some (.int .i64 c.next_) ∧ W.cell? ⟨v19.heap.size, 3, none⟩ = some (.slice c.sets_.A c.sets_.l.length c.sets_.c) ∧ W.cell? ⟨v19.heap.size, 4, none⟩ = some (.slice c.grants_.A c.grants_.l.length c.grants_.c) ∧ W.cell? ⟨v19.heap.size, 5, none⟩ = some (.slice c.stages_.A c.stages_.l.length c.stages_.c) ∧ W.cell? ⟨v19.heap.size, 6, none⟩ = some (.slice c.log_.A c.log_.l.length c.log_.c) ∧ W.cell? ⟨v23.heap.size, 0, none⟩ = some (.string d.name_) ∧ W.cell? ⟨v23.heap.size, 1, none⟩ = some (.int .i64 d.quota_) ∧ W.cell? ⟨v23.heap.size, 2, none⟩ = some (.int .i64 d.next_) ∧ W.cell? ⟨v23.heap.size, 3, none⟩ = some (.slice d.sets_.A d.sets_.l.length d.sets_.c) ∧ W.cell? ⟨v23.heap.size, 4, none⟩ = some (.slice d.grants_.A d.grants_.l.length d.grants_.c) ∧ W.cell? ⟨v23.heap.size, 5, none⟩ = some (.slice d.stages_.A d.stages_.l.length d.stages_.c) ∧ W.cell? ⟨v23.heap.size, 6, none⟩ = some (.slice d.log_.A d.log_.l.length d.log_.c) ∧ W.cell? ⟨v27.heap.size, 0, none⟩ = some (.string m.name_) ∧ W.cell? ⟨v27.heap.size, 1, none⟩ = some (.int .i64 m.quota_) ∧ W.cell? ⟨v27.heap.size, 2, none⟩ = some (.int .i64 m.next_) ∧ W.cell? ⟨v27.heap.size, 3, none⟩ = some (.slice m.sets_.A m.sets_.l.length m.sets_.c) ∧ W.cell? ⟨v27.heap.size, 4, none⟩ = some (.slice m.grants_.A m.grants_.l.length m.grants_.c) ∧ W.cell? ⟨v27.heap.size, 5, none⟩ = some (.slice m.stages_.A m.stages_.l.length m.stages_.c) ∧ W.cell? ⟨v27.heap.size, 6, none⟩ = some (.slice m.log_.A m.log_.l.length m.log_.c) ∧ W.cell? ⟨w.heap.size, 0, none⟩ = some (.string x.name_) ∧ W.cell? ⟨w.heap.size, 1, none⟩ = some (.int .i64 x.quota_) ∧ W.cell? ⟨w.heap.size, 2, none⟩ = some (.int .i64 x.next_) ∧ W.cell? ⟨w.heap.size, 3, none⟩ = some (.slice x.sets_.A x.sets_.l.length x.sets_.c) ∧ W.cell? ⟨w.heap.size, 4, none⟩ = some (.slice x.grants_.A x.grants_.l.length x.grants_.c) ∧ W.cell? ⟨w.heap.size, 5, none⟩ = some (.slice x.stages_.A x.stages_.l.length x.stages_.c) ∧ W.cell? ⟨w.heap.size, 6, none⟩ = some (.slice x.log_.A x.log_.l.length x.log_.c)))
  have hBd : Below z29.heap.size z29 z29.drew := (Below.refl _ _).drew
  have HGa := Lib.hid hga
  have HGb := Lib.hid hgb
  have HGc := Lib.hid hgc
  have HGd := Lib.hid hgd
  have HGm := Lib.hid hgm
  have HG1 := Lib.hid hx1
  have hsW := (hU_30).size
  refine wp_region_noPanic ?_
  refine wp_region_last 29 (fun W => W.cell? ⟨v8.heap.size, 0, none⟩ = some (.string a.name_) ∧ W.cell? ⟨v8.heap.size, 1, none⟩ = some (.int .i64 a.quota_) ∧ W.cell? ⟨v8.heap.size, 2, none⟩ = some (.int .i64 a.next_) ∧ W.cell? ⟨v8.heap.size, 3, none⟩ = some (.slice a.sets_.A a.sets_.l.length a.sets_.c) ∧ W.cell? ⟨v8.heap.size, 4, none⟩ = some (.slice a.grants_.A a.grants_.l.length a.grants_.c) ∧ W.cell? ⟨v8.heap.size, 5, none⟩ = some (.slice a.stages_.A a.stages_.l.length a.stages_.c) ∧ W.cell? ⟨v8.heap.size, 6, none⟩ = some (.slice a.log_.A a.log_.l.length a.log_.c) ∧ W.cell? ⟨v12.heap.size, 0, none⟩ = some (.string b.name_) ∧ W.cell? ⟨v12.heap.size, 1, none⟩ = some (.int .i64 b.quota_) ∧ W.cell? ⟨v12.heap.size, 2, none⟩ = some (.int .i64 b.next_) ∧ W.cell? ⟨v12.heap.size, 3, none⟩ = some (.slice b.sets_.A b.sets_.l.length b.sets_.c) ∧ W.cell? ⟨v12.heap.size, 4, none⟩ = some (.slice b.grants_.A b.grants_.l.length b.grants_.c) ∧ W.cell? ⟨v12.heap.size, 5, none⟩ = some (.slice b.stages_.A b.stages_.l.length b.stages_.c) ∧ W.cell? ⟨v12.heap.size, 6, none⟩ = some (.slice b.log_.A b.log_.l.length b.log_.c) ∧ W.cell? ⟨v19.heap.size, 0, none⟩ = some (.string c.name_) ∧ W.cell? ⟨v19.heap.size, 1, none⟩ = some (.int .i64 c.quota_) ∧ W.cell? ⟨v19.heap.size, 2, none⟩ = some (.int .i64 c.next_) ∧ W.cell? ⟨v19.heap.size, 3, none⟩ = some (.slice c.sets_.A c.sets_.l.length c.sets_.c) ∧ W.cell? ⟨v19.heap.size, 4, none⟩ = some (.slice c.grants_.A c.grants_.l.length c.grants_.c) ∧ W.cell? ⟨v19.heap.size, 5, none⟩ = some (.slice c.stages_.A c.stages_.l.length c.stages_.c) ∧ W.cell? ⟨v19.heap.size, 6, none⟩ = some (.slice c.log_.A c.log_.l.length c.log_.c) ∧ W.cell? ⟨v23.heap.size, 0, none⟩ = some (.string d.name_) ∧ W.cell? ⟨v23.heap.size, 1, none⟩ = some (.int .i64 d.quota_) ∧ W.cell? ⟨v23.heap.size, 2, none⟩ = some (.int .i64 d.next_) ∧ W.cell? ⟨v23.heap.size, 3, none⟩ = some (.slice d.sets_.A d.sets_.l.length d.sets_.c) ∧ W.cell? ⟨v23.heap.size, 4, none⟩ = some (.slice d.grants_.A d.grants_.l.length d.grants_.c) ∧ W.cell? ⟨v23.heap.size, 5, none⟩ = some (.slice d.stages_.A d.stages_.l.length d.stages_.c) ∧ W.cell? ⟨v23.heap.size, 6, none⟩ = some (.slice d.log_.A d.log_.l.length d.log_.c) ∧ W.cell? ⟨v27.heap.size, 0, none⟩ = some (.string m.name_) ∧ W.cell? ⟨v27.heap.size, 1, none⟩ = some (.int .i64 m.quota_) ∧ W.cell? ⟨v27.heap.size, 2, none⟩ = some (.int .i64 m.next_) ∧ W.cell? ⟨v27.heap.size, 3, none⟩ = some (.slice m.sets_.A m.sets_.l.length m.sets_.c) ∧ W.cell? ⟨v27.heap.size, 4, none⟩ = some (.slice m.grants_.A m.grants_.l.length m.grants_.c) ∧ W.cell? ⟨v27.heap.size, 5, none⟩ = some (.slice m.stages_.A m.stages_.l.length m.stages_.c) ∧ W.cell? ⟨v27.heap.size, 6, none⟩ = some (.slice m.log_.A m.log_.l.length m.log_.c) ∧ W.cell? ⟨w.heap.size, 0, none⟩ = some (.string x.name_) ∧ W.cell? ⟨w.heap.size, 1, none⟩ = some (.int .i64 x.quota_) ∧ W.cell? ⟨w.heap.size, 2, none⟩ = some (.int .i64 x.next_) ∧ W.cell? ⟨w.heap.size, 3, none⟩ = some (.slice x.sets_.A x.sets_.l.length x.sets_.c) ∧ W.cell? ⟨w.heap.size, 4, none⟩ = some (.slice x.grants_.A x.grants_.l.length x.grants_.c) ∧ W.cell? ⟨w.heap.size, 5, none⟩ = some (.slice x.stages_.A x.stages_.l.length x.stages_.c) ∧ W.cell? ⟨w.heap.size, 6, none⟩ = some (.slice x.log_.A x.log_.l.length x.log_.c)) (by kernel_rfl) (HSF.out _ hBd) (fun hHeld => ?_)
  refine tkA 12 (i := 0) (oi := ⟨some 61, _, _, _, _, _⟩) rfl hHeld ?_
  try simp only [Act.put, pZa, pZb, pZc]
  refine tkA 12 (i := 1) (oi := ⟨some 62, _, _, _, _, _⟩) rfl hHeld ?_
  try simp only [Act.put, pZa, pZb, pZc]
  refine tkA 12 (i := 2) (oi := ⟨some 63, _, _, _, _, _⟩) rfl hHeld ?_
  try simp only [Act.put, pZa, pZb, pZc]
  refine tkA 12 (i := 4) (oi := ⟨some 65, _, _, _, _, _⟩) rfl hHeld ?_
  try simp only [Act.put, pZa, pZb, pZc]
  refine wpAnyL_one (i := 3) (o := ⟨some 64, _, _, _, _, _⟩) (by kernel_rfl) rfl (fun K hK => ?_)
  clear hHeld
  go_simp
  refine (HN.out _ _).mono ?_
  rintro e t64 ⟨rfl, hq64⟩
  subst hq64
  go_wp2_with fail
  refine hK.out _ _ (HSF.out _ hBd) (fun hHeld => ?_)
  clear hK K
  try simp only [Act.put, pZa, pZb, pZc]
  refine tkA 12 (i := 5) (oi := ⟨some 66, _, _, _, _, _⟩) rfl hHeld ?_
  try simp only [Act.put, pZa, pZb, pZc]
  refine tkA 12 (i := 6) (oi := ⟨some 67, _, _, _, _, _⟩) rfl hHeld ?_
  try simp only [Act.put, pZa, pZb, pZc]
  refine tkA 12 (i := 7) (oi := ⟨some 68, _, _, _, _, _⟩) rfl hHeld ?_
  try simp only [Act.put, pZa, pZb, pZc]
  refine tkA 12 (i := 8) (oi := ⟨some 69, _, _, _, _, _⟩) rfl hHeld ?_
  try simp only [Act.put, pZa, pZb, pZc]
  refine tkA 12 (i := 9) (oi := ⟨some 70, _, _, _, _, _⟩) rfl hHeld ?_
  try simp only [Act.put, pZa, pZb, pZc]
  refine wpAnyL_one (i := 10) (o := ⟨some 71, _, _, _, _, _⟩) (by kernel_rfl) rfl (fun K hK => ?_)
  clear hHeld
  go_simp
  refine (refTe a c (hpc.trans hpa.symm) _ (HGa.out.below hBd) (HGc.out.below hBd)).mono ?_
  rintro e r71 ⟨rfl, hR71⟩
  have hB71 := (hBd).trans (hR71.mono (hBd).size)
  go_wp2_with fail
  refine hK.out _ _ (HSF.out _ hB71) (fun hHeld => ?_)
  clear hK K
  try simp only [Act.put, pZa, pZb, pZc]
  refine tkA 12 (i := 11) (oi := ⟨some 72, _, _, _, _, _⟩) rfl hHeld ?_
  try simp only [Act.put, pZa, pZb, pZc]
  refine tkA 12 (i := 12) (oi := ⟨some 73, _, _, _, _, _⟩) rfl hHeld ?_
  try simp only [Act.put, pZa, pZb, pZc]
  refine tkA 12 (i := 13) (oi := ⟨some 74, _, _, _, _, _⟩) rfl hHeld ?_
  try simp only [Act.put, pZa, pZb, pZc]
  refine tkA 12 (i := 15) (oi := ⟨some 76, _, _, _, _, _⟩) rfl hHeld ?_
  try simp only [Act.put, pZa, pZb, pZc]
  refine wpAnyL_one (i := 14) (o := ⟨some 75, _, _, _, _, _⟩) (by kernel_rfl) rfl (fun K hK => ?_)
  clear hHeld
  go_simp
  refine (HN.out _ _).mono ?_
  rintro e t75 ⟨rfl, hq75⟩
  subst hq75
  go_wp2_with fail
  refine hK.out _ _ (HSF.out _ hB71) (fun hHeld => ?_)
  clear hK K
  try simp only [Act.put, pZa, pZb, pZc]
  refine tkA 12 (i := 16) (oi := ⟨some 77, _, _, _, _, _⟩) rfl hHeld ?_
  try simp only [Act.put, pZa, pZb, pZc]
  refine tkA 12 (i := 17) (oi := ⟨some 78, _, _, _, _, _⟩) rfl hHeld ?_
  try simp only [Act.put, pZa, pZb, pZc]
  refine tkA 12 (i := 18) (oi := ⟨some 79, _, _, _, _, _⟩) rfl hHeld ?_
  try simp only [Act.put, pZa, pZb, pZc]
  refine tkA 12 (i := 19) (oi := ⟨some 80, _, _, _, _, _⟩) rfl hHeld ?_
  try simp only [Act.put, pZa, pZb, pZc]
  refine tkA 12 (i := 20) (oi := ⟨some 81, _, _, _, _, _⟩) rfl hHeld ?_
  try simp only [Act.put, pZa, pZb, pZc]
  refine wpAnyL_one (i := 21) (o := ⟨some 82, _, _, _, _, _⟩) (by kernel_rfl) rfl (fun K hK => ?_)
  clear hHeld
  go_simp
  refine (refTe b d (hpd.trans hpb.symm) _ (HGb.out.below hB71) (HGd.out.below hB71)).mono ?_
  rintro e r82 ⟨rfl, hR82⟩
  have hB82 := (hB71).trans (hR82.mono (hB71).size)
  go_wp2_with fail
  refine hK.out _ _ (HSF.out _ hB82) (fun hHeld => ?_)
  clear hK K
  try simp only [Act.put, pZa, pZb, pZc]
  refine tkA 12 (i := 22) (oi := ⟨some 83, _, _, _, _, _⟩) rfl hHeld ?_
  try simp only [Act.put, pZa, pZb, pZc]
  refine tkA 12 (i := 23) (oi := ⟨some 84, _, _, _, _, _⟩) rfl hHeld ?_
  try simp only [Act.put, pZa, pZb, pZc]
  refine tkA 12 (i := 24) (oi := ⟨some 85, _, _, _, _, _⟩) rfl hHeld ?_
  try simp only [Act.put, pZa, pZb, pZc]
  refine tkA 12 (i := 25) (oi := ⟨some 86, _, _, _, _, _⟩) rfl hHeld ?_
  try simp only [Act.put, pZa, pZb, pZc]
  refine tkA 12 (i := 26) (oi := ⟨some 87, _, _, _, _, _⟩) rfl hHeld ?_
  try simp only [Act.put, pZa, pZb, pZc]
  refine tkA 12 (i := 28) (oi := ⟨some 89, _, _, _, _, _⟩) rfl hHeld ?_
  try simp only [Act.put, pZa, pZb, pZc]
  refine wpAnyL_one (i := 27) (o := ⟨some 88, _, _, _, _, _⟩) (by kernel_rfl) rfl (fun K hK => ?_)
  clear hHeld
  go_simp
  refine (H7.out _ (HG1.out.below hB82)).mono ?_
  rintro e r88 ⟨u, rfl, hgu, hpu, hR88⟩
  have hB88 := (hB82).trans (hR88.mono (hB82).size)
  go_wp2_with fail
  refine hK.out _ _ (HSF.out _ hB88) (fun hHeld => ?_)
  clear hK K
  try simp only [Act.put, pZa, pZb, pZc]
  refine wpAnyL_last (i := 29) (o := ⟨some 90, _, _, _, _, _⟩) (by kernel_rfl) rfl (by kernel_rfl) (fun K hK => ?_)
  clear hHeld
  go_simp
  refine (refTe u m (hpm.trans hpu.symm) _ hgu (HGm.out.below hB88)).mono ?_
  rintro e r90 ⟨rfl, hR90⟩
  have hB90 := (hB88).trans (hR90.mono (hB88).size)
  go_wp2_with fail
  refine hK.out _ _ ?_
  clear hK K
  try simp only [Act.put, pZa, pZb, pZc]
  refine wpAnyL_takeW (i := 30) (oi := ⟨some 91, _, _, _, _, _⟩) (v := ?_) rfl (by kernel_rfl) (by kernel_rfl) (by kernel_rfl) (by kernel_rfl) (fun _ _ _ h => h) (Or.inl ⟨by rfl, ?_⟩) (.inl (by kernel_rfl)) ?_
  rotate_left
  focus (intro w hSw; (try dsimp only at hSw); go_simp; try (with_reducible rfl))
  try simp only [Act.put, pZa, pZb, pZc]
  refine wpAnyL_takeW (i := 31) (oi := ⟨some 8, _, _, _, _, _⟩) (v := ?_) rfl (by kernel_rfl) (by kernel_rfl) (by kernel_rfl) (by kernel_rfl) (fun _ _ _ h => h) (Or.inl ⟨by rfl, ?_⟩) (.inl (by kernel_rfl)) ?_
  rotate_left
  focus (intro w hSw; (try dsimp only at hSw); go_simp; try (with_reducible rfl))
  try simp only [Act.put, pZa, pZb, pZc]
  refine wpAnyL_done (by kernel_rfl) ?_ _
  refine NoPanic.normal ?_
  go_wp2
  go_ret
  exact ⟨rfl, hB1.trans (((hU_30).trans ((hB90).mono hsW)).mono hs1)⟩
end Go.Proofs.YtoabkbnhdekbdaaGreat
