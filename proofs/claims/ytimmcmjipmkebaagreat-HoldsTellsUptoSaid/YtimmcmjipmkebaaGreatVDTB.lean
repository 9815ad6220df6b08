/-
 The reference’s Tag. Conditions: the tenant is as it comes in; texts of at most 2^42 octets.
-/
import Derived.Test.YtimmcmjipmkebaaGreatVDLE
import Derived.Test.YtimmcmjipmkebaaGreatVSPT
namespace Go.Proofs.YtimmcmjipmkebaaGreat
open Go.ChangeShapes Go.WideShapes Go.ChangeAt Go.RowKit
set_option maxRecDepth 100000
set_option linter.unusedSimpArgs false
theorem toList_inj18 {a b : ByteArray} (h : a.toList = b.toList) : a = b := by
 rw [Lib.toList_data, Lib.toList_data] at h
 cases a with
 | mk ad => cases b with
  | mk bd => exact congrArg ByteArray.mk (Array.toList_inj.1 h)
theorem wpAppN {W : World} {ops : Array Oper} {rest : List Oper} {o : Oper} {a : Act} {Q : Exit → Act → World → Prop} {s x : Operand} (hgd : o.guard = none)
 (ho : o.op = .call { callee := .builtin .append, args := #[s, x], argTypes := #[46, 46] }) {base : Nat} {w0 : World} {Av : Option Addr} {cv n : Nat} {l : List ByteArray} (hB : Below base w0 W) (hsz : base ≤ W.heap.size)
 (hown : ownT W base (.slice Av n cv) l) (hn : l.length = n) (y : ByteArray) (hs : a.eval s = .slice Av n cv) (hx : a.eval x = .slice (some ⟨W.heap.size, 0, none⟩) 1 1) (hl : n ≤ 100)
 (h : ∀ g c w', Hid (ownT w' base (.slice (some ⟨g, 0, none⟩) (n + 1) c) (l ++ [y])) → Hid (Below base w0 w') → Hid (Keeps 9 W w') → wpList Tryz.prog ops Q rest (a.put o.dst (.slice (some ⟨g, 0, none⟩) (n + 1) c)) w') :
 wpList Tryz.prog ops Q (o :: rest) a (W.alloc (.cells #[.string y] 9)) := by
 subst hn
 exact wpAppendK hgd ho Tryz.underlying46 (fun s => [Value.string s]) (fun _ => rfl) (by decide) (fun y u hu => by rw [List.mem_singleton] at hu; subst hu; rfl) infoSt rfl hB hsz (by rw [flatT]; exact hown) y hs hx (by unfold maxLen; omega) (by omega) (fun g c w' h1 h2 h3 => h g c w' (zI (by have h9 := h1.out; rw [flatT] at h9; simpa [ownT] using h9)) h2 h3)
theorem tagE_at {t : PT_} {p n g : ByteArray} {put : Bool} {s : PSet} {y : PS_} (hf : zfX t p n (zaQ (bs g)) true = 0) (hs : setAt t p = some s) (hy : snapOf s n = some y) : tagE t p n g put = if put = true then (if hasT g y.u_ = true then 6 else if y.u_.length = 4 then 3 else 0) else if hasT g y.u_ = true then 0 else 71 := by
 unfold tagE
 rw [if_neg (fun h => h hf), hs]
 dsimp only
 rw [hy]
set_option maxHeartbeats 8000000 in
theorem refTag_any (x : MT_) (p n tg : ByteArray) (put : Bool) (hp : p.size ≤ 4398046511104) (hn : n.size ≤ 140737488355328) (htz : tg.size ≤ 140737488351232) (w : World) (hx : x.Good w) (ht : x.Tiny) :
 Calls Tryz.prog 30 #[.agg x.cells.toArray, .string p, .string n, .string tg, .bool put] w fun e w' => AnsG w (tagP x.plain p n tg put) e w' := by
 obtain ⟨a1, hw1⟩ : ∃ a1, w.alloc (.cells #[.string x.x_, .int .i64 x.r_, .int .i64 x.v_, .slice x.y_.A x.y_.l.length x.y_.c, .slice x.g_.A x.g_.l.length x.g_.c, .slice x.t_.A x.t_.l.length x.t_.c, .slice x.h_.A x.h_.l.length x.h_.c] 27) = a1 := ⟨_, rfl⟩
 have b1 : Below w.heap.size w a1 := hw1 ▸ (Below.refl _ w).alloc (Nat.le_refl _) _
 have k1 : Blk a1 w.heap.size 27 [.string x.x_, .int .i64 x.r_, .int .i64 x.v_, .slice x.y_.A x.y_.l.length x.y_.c, .slice x.g_.A x.g_.l.length x.g_.c, .slice x.t_.A x.t_.l.length x.t_.c, .slice x.h_.A x.h_.l.length x.h_.c] := hw1 ▸ Blk.new w _ _
 obtain ⟨a2, hw2⟩ : ∃ a2, a1.alloc (.cells #[.string ⟨#[]⟩, .int .i64 0, .int .i64 0, .slice none 0 0, .slice none 0 0, .slice none 0 0, .slice none 0 0] 27) = a2 := ⟨_, rfl⟩
 have b2 : Below a1.heap.size a1 a2 := hw2 ▸ (Below.refl _ a1).alloc (Nat.le_refl _) _
 have k2 : Blk a2 a1.heap.size 27 [.string ⟨#[]⟩, .int .i64 0, .int .i64 0, .slice none 0 0, .slice none 0 0, .slice none 0 0, .slice none 0 0] := hw2 ▸ Blk.new a1 _ _
 have hX2 : w.heap.size + 1 = a1.heap.size := by rw [← hw1, World.size_alloc]
 have hB1 : Below w.heap.size w a1 := b1
 have hB2 : Below w.heap.size w a2 := hB1.trans (b2.mono hB1.size)
 have k1 := k1.of b2
 have hs2 := hB2.size
 have hs1 := hB1.size
 have ht1 : a1.heap.size ≤ a2.heap.size := b2.size
 have HW1 := zI hw1
 have HW2 := zI hw2
 clear hw1 b1 hw2 b2
 have hx2 := hx.below hB2
 have HG := zI hx2
 have HTG := zI (fun W => refNameB tg (Nat.le_trans htz (by decide)) W)
 have HFN := zI (fun W (hW : Below a2.heap.size a2 W) => refFound_any x p n (zaQ (bs tg)) true hp hn W (hx2.below hW) ht)
 have hlk1 := k1.lt
 have hlk2 := k2.lt
 obtain ⟨P, hP⟩ : ∃ P, tagP x.plain p n tg put = P := ⟨_, rfl⟩
 rw [hP]
 obtain ⟨TB, hTB⟩ : ∃ TB, zaQ (bs tg) = TB := ⟨_, rfl⟩
 obtain ⟨FE, hFE⟩ : ∃ FE, zfX x.plain p n TB true = FE := ⟨_, rfl⟩
 obtain ⟨FI, hFI⟩ : ∃ FI, (if FE = 0 then findM x p else 0) = FI := ⟨_, rfl⟩
 obtain ⟨FK, hFK⟩ : ∃ FK, (if FE = 0 then atN x p n else 0) = FK := ⟨_, rfl⟩
 rw [hTB] at HTG HFN
 rw [hFE] at HFN
 rw [hFI, hFK] at HFN
 clear hx hx2 ht
 by_cases hf : FE = 0
 · subst hf
   simp only [if_true] at hFI hFK
   rw [← hTB] at hFE
   obtain ⟨hok, hip, hin, hit, j, s, k, y0, hIj, hj, hsp, hSs, hOk, hk, hyn0, hYs, hsa, hhs, hso, hsm, htk⟩ := found_zero hFE
   rw [hIj] at hFI
   rw [hOk] at hFK
   subst hFI hFK
   have hjl : j < x.y_.l.length := (List.getElem?_eq_some_iff.1 hj).1
   have hkl : k < s.n_.l.length := (List.getElem?_eq_some_iff.1 hk).1
   have hlen := HG.out.w_.len
   have hsl := (HG.out.w_.el s (mG hj)).f_.len
   have hyg := (HG.out.w_.el s (mG hj)).f_.el y0 (mG hk)
   have htl : y0.u_.l.length ≤ 4 := by
    have h9 := (snapsB_parts.1 (setB_parts (set_ok17 hok hj)).2.2.1).1.1 y0.plain (List.mem_map.2 ⟨y0, mG hk, rfl⟩)
    unfold snapB at h9
    simp only [Bool.and_eq_true] at h9
    exact (tagsB_parts.1 h9.2.2.1).2
   have htE := tagE_at (put := put) hFE hsa hso
   have htP : P = if tagE x.plain p n tg put ≠ 0 then (noT, tagE x.plain p n tg put) else (mapP x.plain (tagS p n (tagF tg put)) x.plain.v_, 0) := by rw [← hP]; rfl
   rw [htE] at htP
   have HPE := zI htP
   have HJ := zI hj
   have HK := zI hk
   have HOK := zI hok
   have HSP := zI hsp
   have HYN := zI hyn0
   have HOW := zI (fun W (hW : Below a2.heap.size a2 W) => refOwnT_sep x W (HG.out.below hW))
   obtain ⟨HS, hHS⟩ : ∃ HS, hasT tg y0.u_.l = HS := ⟨_, rfl⟩
   have HHS := zI hHS
   clear hP hTB hok hip hin hit hIj hj hsp hSs hOk hk hyn0 hYs hsa hhs hso hsm htk htE htP hHS hFE
   obtain ⟨q0, q1, q2, q3, q4, q5, q6⟩ := k1.all7
   go_enter Tryz.func30, Tryz.ntmps30
   go_upto_region 1 with fail
   rw [HW1.out, HW2.out]
   try rw [hX2]
   refine wp_region_noPanic ?_
   refine zcX 12 (fun W => W.cell? ⟨w.heap.size, 0, none⟩ = some (.string x.x_) ∧ W.cell? ⟨w.heap.size, 1, none⟩ = some (.int .i64 x.r_) ∧ W.cell? ⟨w.heap.size, 2, none⟩ = some (.int .i64 x.v_) ∧ W.cell? ⟨w.heap.size, 3, none⟩ = some (.slice x.y_.A x.y_.l.length x.y_.c) ∧ W.cell? ⟨w.heap.size, 4, none⟩ = some (.slice x.g_.A x.g_.l.length x.g_.c) ∧ W.cell? ⟨w.heap.size, 5, none⟩ = some (.slice x.t_.A x.t_.l.length x.t_.c) ∧ W.cell? ⟨w.heap.size, 6, none⟩ = some (.slice x.h_.A x.h_.l.length x.h_.c)) (by kernel_rfl) ⟨q0, q1, q2, q3, q4, q5, q6⟩ (fun hHeld => ?_)
   refine tkA 16 (i := 0) (oi := ⟨some 22, _, _, _, _, _⟩) rfl hHeld ?_
   try simp only [zP]
   refine tkA 16 (i := 1) (oi := ⟨some 23, _, _, _, _, _⟩) rfl hHeld ?_
   try simp only [zP]
   refine tkA 16 (i := 2) (oi := ⟨some 24, _, _, _, _, _⟩) rfl hHeld ?_
   try simp only [zP]
   refine tkA 16 (i := 3) (oi := ⟨some 25, _, _, _, _, _⟩) rfl hHeld ?_
   try simp only [zP]
   clear hHeld
   refine zdZ 16 9 0 [(4, 26), (5, 27), (6, 21), (7, 28), (8, 29), (9, 30), (10, 12), (11, 13), (12, 14)] (fun s v w => match s with
    | 26 => v = .bool TB
    | 27 => v = .tuple #[.int .i64 j, .int .i64 k, .int .i64 0]
    | 21 => v = .tuple #[.int .i64 j, .int .i64 k, .int .i64 0]
    | 28 => v = .int .i64 j
    | 29 => v = .int .i64 k
    | 30 => v = .int .i64 0
    | 12 => v = .int .i64 j
    | 13 => v = .int .i64 k
    | 14 => v = .int .i64 0
    | _ => True) (fun w w' => Below w.heap.size w w') (by kernel_rfl) (by kernel_rfl) bZh ⟨?_, ?_, ?_, ?_, ?_, ?_, ?_, ?_, ?_, trivial⟩ (fun w' hB => ⟨(hB.cell (p := ⟨w.heap.size, 0, none⟩) hlk1).trans q0, (hB.cell (p := ⟨w.heap.size, 1, none⟩) hlk1).trans q1, (hB.cell (p := ⟨w.heap.size, 2, none⟩) hlk1).trans q2, (hB.cell (p := ⟨w.heap.size, 3, none⟩) hlk1).trans q3, (hB.cell (p := ⟨w.heap.size, 4, none⟩) hlk1).trans q4, (hB.cell (p := ⟨w.heap.size, 5, none⟩) hlk1).trans q5, (hB.cell (p := ⟨w.heap.size, 6, none⟩) hlk1).trans q6⟩) ⟨?_, ?_, ?_, ?_, ?_, ?_, ?_, ?_, ?_, trivial⟩ ?_
   focus
    intro v w w' h hB
    exact h
   focus
    intro v w w' h hB
    exact h
   focus
    intro v w w' h hB
    exact h
   focus
    intro v w w' h hB
    exact h
   focus
    intro v w w' h hB
    exact h
   focus
    intro v w w' h hB
    exact h
   focus
    intro v w w' h hB
    exact h
   focus
    intro v w w' h hB
    exact h
   focus
    intro v w w' h hB
    exact h
   focus
    intro vs w2 hBf hFf o ho K hK
    obtain rfl : (⟨some 26, _, _, _, _, _⟩ : Oper) = o := Option.some.inj ho
    clear ho
    (try simp only [fillL, zQ, zP] at hK ⊢)
    go_simp
    refine (HTG.out w2).mono ?_
    rintro e w4 ⟨rfl, hB4⟩
    exact hK.out _ _ ⟨rfl, hB4⟩
   focus
    intro vs w2 hBf hFf o ho K hK
    obtain rfl : (⟨some 27, _, _, _, _, _⟩ : Oper) = o := Option.some.inj ho
    clear ho
    (try simp only [fillL, zQ, zP] at hK ⊢)
    have e26 := (hFf (4, 26) (by simp) (by kernel_rfl))
    simp only [] at e26
    simp only [e26] at hK ⊢
    go_simp
    refine (HFN.out w2 ((Below.refl a2.heap.size a2).drew.trans hBf)).mono ?_
    rintro e w4 ⟨rfl, hB4⟩
    exact hK.out _ _ ⟨rfl, hB4⟩
   focus
    intro vs w2 hBf hFf o ho K hK
    obtain rfl : (⟨some 21, _, _, _, _, _⟩ : Oper) = o := Option.some.inj ho
    clear ho
    (try simp only [fillL, zQ, zP] at hK ⊢)
    have e27 := (hFf (5, 27) (by simp) (by kernel_rfl))
    simp only [] at e27
    simp only [e27] at hK ⊢
    go_simp
    exact hK.out _ _ ⟨rfl, Below.refl _ _⟩
   focus
    intro vs w2 hBf hFf o ho K hK
    obtain rfl : (⟨some 28, _, _, _, _, _⟩ : Oper) = o := Option.some.inj ho
    clear ho
    (try simp only [fillL, zQ, zP] at hK ⊢)
    have e21 := (hFf (6, 21) (by simp) (by kernel_rfl))
    simp only [] at e21
    simp only [e21] at hK ⊢
    go_simp
    exact hK.out _ _ ⟨rfl, Below.refl _ _⟩
   focus
    intro vs w2 hBf hFf o ho K hK
    obtain rfl : (⟨some 29, _, _, _, _, _⟩ : Oper) = o := Option.some.inj ho
    clear ho
    (try simp only [fillL, zQ, zP] at hK ⊢)
    have e21 := (hFf (6, 21) (by simp) (by kernel_rfl))
    simp only [] at e21
    simp only [e21] at hK ⊢
    go_simp
    exact hK.out _ _ ⟨rfl, Below.refl _ _⟩
   focus
    intro vs w2 hBf hFf o ho K hK
    obtain rfl : (⟨some 30, _, _, _, _, _⟩ : Oper) = o := Option.some.inj ho
    clear ho
    (try simp only [fillL, zQ, zP] at hK ⊢)
    have e21 := (hFf (6, 21) (by simp) (by kernel_rfl))
    simp only [] at e21
    simp only [e21] at hK ⊢
    go_simp
    exact hK.out _ _ ⟨rfl, Below.refl _ _⟩
   focus
    intro vs w2 hBf hFf o ho K hK
    obtain rfl : (⟨some 12, _, _, _, _, _⟩ : Oper) = o := Option.some.inj ho
    clear ho
    (try simp only [fillL, zQ, zP] at hK ⊢)
    have e28 := (hFf (7, 28) (by simp) (by kernel_rfl))
    simp only [] at e28
    simp only [e28] at hK ⊢
    go_simp
    exact hK.out _ _ ⟨rfl, Below.refl _ _⟩
   focus
    intro vs w2 hBf hFf o ho K hK
    obtain rfl : (⟨some 13, _, _, _, _, _⟩ : Oper) = o := Option.some.inj ho
    clear ho
    (try simp only [fillL, zQ, zP] at hK ⊢)
    have e29 := (hFf (8, 29) (by simp) (by kernel_rfl))
    simp only [] at e29
    simp only [e29] at hK ⊢
    go_simp
    exact hK.out _ _ ⟨rfl, Below.refl _ _⟩
   focus
    intro vs w2 hBf hFf o ho K hK
    obtain rfl : (⟨some 14, _, _, _, _, _⟩ : Oper) = o := Option.some.inj ho
    clear ho
    (try simp only [fillL, zQ, zP] at hK ⊢)
    have e30 := (hFf (9, 30) (by simp) (by kernel_rfl))
    simp only [] at e30
    simp only [e30] at hK ⊢
    go_simp
    exact hK.out _ _ ⟨rfl, Below.refl _ _⟩
   intro vs w2 hBf hFf
   (try simp only [fillL, zQ, zP])
   have e12 := (hFf (10, 12) (by simp))
   have e13 := (hFf (11, 13) (by simp))
   have e14 := (hFf (12, 14) (by simp))
   simp only [] at e12 e13 e14
   simp only [e12, e13, e14]
   have hV : Below a2.heap.size a2 w2 := (Below.refl a2.heap.size a2).drew.trans hBf
   refine zdQ (by kernel_rfl) ?_ _
   refine NoPanic.normal ?_
   obtain ⟨w3, hw3⟩ : ∃ v, v = w2 := ⟨_, rfl⟩
   subst hw3
   have K1 := k1.of hV
   have K2 := k2.of hV
   have hX3 := hB2.trans (hV.mono hs2)
   have hs3 := hX3.size
   clear hFf hBf q0 q1 q2 q3 q4 q5 q6
   obtain ⟨b, off, hA, hbl, hcc⟩ := Rd.elem (n := 5) (fun _ => rfl) (by omega) (HG.out.below hV).w_.rd HJ.out
   obtain ⟨b2, off2, hA2, hbl2, hcc2⟩ := Rd.elem (n := 5) (fun _ => rfl) (by omega) ((HG.out.below hV).w_.el s (mG HJ.out)).f_.rd HK.out
   have d3 : w3.cell? ⟨b, off + j * 5 + 3, none⟩ = some (.slice (some ⟨b2, off2, none⟩) s.n_.l.length s.n_.c) := by
    have h9 := hcc 3 _ rfl
    rw [hA2] at h9
    exact h9
   have d4 : w3.cell? ⟨b2, off2 + k * 5 + 3, none⟩ = some (.slice y0.u_.A y0.u_.l.length y0.u_.c) := hcc2 3 _ rfl
   have HRT : Hid (Rd w3 y0.u_.A (y0.u_.l.map Value.string)) := zI (by have h9 := (((HG.out.below hV).w_.el s (mG HJ.out)).f_.el y0 (mG HK.out)).U_.rd; rwa [flatT'] at h9)
   obtain ⟨u0, u1, u2, u3, u4, u5, u6⟩ := K1.all7
   rw [hA] at u3
   have HKA := zI K1
   have HKB := zI K2
   clear hcc hcc2 hA hA2 K1 K2
   go_wp2
   go_loopw [15, 16, 17, 19] (fun v i d m W => ∃ q : Nat, q ≤ y0.u_.l.length ∧ m = .int .i64 q ∧ i = .bool (tgF put tg (y0.u_.l.take q)).2.1 ∧ d = .bool (tgF put tg (y0.u_.l.take q)).2.2 ∧ Hid (ownT W w3.heap.size v (tgF put tg (y0.u_.l.take q)).1) ∧ Hid (Blk W w.heap.size 27 [.string x.x_, .int .i64 x.r_, .int .i64 x.v_, .slice x.y_.A x.y_.l.length x.y_.c, .slice x.g_.A x.g_.l.length x.g_.c, .slice x.t_.A x.t_.l.length x.t_.c, .slice x.h_.A x.h_.l.length x.h_.c]) ∧ Hid (Blk W a1.heap.size 27 [.string ⟨#[]⟩, .int .i64 0, .int .i64 0, .slice none 0 0, .slice none 0 0, .slice none 0 0, .slice none 0 0]) ∧ Below w3.heap.size w3 W) (fun _ _ _ m _ => y0.u_.l.length - (intOf m).toNat)
   case atStart => exact ⟨0, Nat.zero_le _, rfl, rfl, rfl, zI (by simpa [tgF, ownT] using ownNone _ _ _ _), HKA, HKB, Below.refl _ _⟩
   case round =>
    obtain ⟨wi, rfl⟩ : ∃ wi, wi = wr := ⟨_, rfl⟩
    obtain ⟨q, hq, rfl, hi, hd, HO, HT1, HT2, hB⟩ := hrel
    obtain ⟨IS, hIS⟩ : ∃ IS, (tgF put tg (y0.u_.l.take q)).2.1 = IS := ⟨_, rfl⟩
    obtain ⟨DN, hDN⟩ : ∃ DN, (tgF put tg (y0.u_.l.take q)).2.2 = DN := ⟨_, rfl⟩
    obtain ⟨OL, hOL⟩ : ∃ OL, (tgF put tg (y0.u_.l.take q)).1 = OL := ⟨_, rfl⟩
    have hol : OL.length ≤ 5 := by
     have h9 := tg_len put tg (y0.u_.l.take q)
     rw [hOL, List.length_take] at h9
     split at h9 <;> omega
    rw [hIS] at hi
    rw [hDN] at hd
    rw [hOL] at HO
    subst hi hd
    have hsB := hB.size
    have hXw : Below w.heap.size w wi := hX3.trans (hB.mono hs3)
    by_cases hlt : q < y0.u_.l.length
    · obtain ⟨z, hz⟩ : ∃ z, y0.u_.l[q]? = some z := ⟨_, qZa hlt⟩
      obtain ⟨bt, ot, hAt, hbt, hct⟩ := HRT.out (by intro e; have h9 := congrArg List.length e; rw [List.length_map] at h9; simp at h9; rw [h9] at hlt; exact absurd hlt (by simp))
      have c00 := hct q (.string z) (by rw [List.getElem?_map, hz]; rfl)
      have c0 := (hB.cell (p := ⟨bt, ot + q, none⟩) hbt).trans c00
      have HZQ := zI hz
      have HST : Hid (tgF put tg (y0.u_.l.take (q + 1)) = tgStep tg (OL, IS, DN) z) := zI (by rw [tgF_take hz, ← hIS, ← hDN, ← hOL])
      have HAT := zI hAt
      obtain ⟨Av, cv, hv, _, _, _, _⟩ := ownAny HO.out
      subst hv
      clear hz hct hIS hDN hOL
      rw [hAt]
      clear hAt
      rcases DN with _ | _
      · skip
        rcases hlT : ltTx tg z with _ | _
        · have hlT' : Op.bytesLess tg.toList z.toList = false := hlT
          by_cases hzt : z = tg
          · have hzb : (z.toList == tg.toList) = true := by rw [hzt]; exact beq_self_eq_true _
            have HZ := HST.out
            unfold tgStep at HZ
            have HF : Hid (tgF put tg (y0.u_.l.take (q + 1)) = (OL, true, false)) := zI (by
             rw [HZ]
             have hl2 := hlT
             rw [hzt] at hl2
             simp [hzt, hl2])
            clear HZ HST hzt hlT
            go_wp2
            go_roundw
            case rel => exact ⟨q + 1, by omega, by go_num, by rw [HF.out], by rw [HF.out], zI (by rw [HF.out]; exact HO.out), HT1, HT2, hB⟩
            case measure => simp [intOf]; omega
          · have hzn := hzt
            have hzb : (z.toList == tg.toList) = false := beq_eq_false_iff_ne.2 fun h => hzt (toList_inj18 h)
            have HZ := HST.out
            unfold tgStep at HZ
            have HF : Hid (tgF put tg (y0.u_.l.take (q + 1)) = ((OL ++ [z]), IS, false)) := zI (by
             rw [HZ]
             have hl2 := hlT
             skip
             simp [hzn, hl2])
            clear HZ HST hzt hzn hlT
            go_wp2_with (at_builtin; refine wpAppN rfl rfl hB hsB HO.out rfl z rfl rfl (by omega) ?_; intro g8 c8 x8 HO8 HB8 HK8)
            go_roundw
            case rel => exact ⟨q + 1, by omega, by go_num, by rw [HF.out], by rw [HF.out], zI (by rw [HF.out]; exact HO8.out), zI (HT1.out.keep HK8.out (by decide)), zI (HT2.out.keep HK8.out (by decide)), HB8.out⟩
            case measure => simp [intOf]; omega
        · have hlT' : Op.bytesLess tg.toList z.toList = true := hlT
          by_cases hzt : z = tg
          · have hzb : (z.toList == tg.toList) = true := by rw [hzt]; exact beq_self_eq_true _
            have HZ := HST.out
            unfold tgStep at HZ
            have HF : Hid (tgF put tg (y0.u_.l.take (q + 1)) = ((OL ++ [tg]), true, true)) := zI (by
             rw [HZ]
             have hl2 := hlT
             rw [hzt] at hl2
             simp [hzt, hl2])
            clear HZ HST hzt hlT
            go_wp2_with (at_builtin; refine wpAppN rfl rfl hB hsB HO.out rfl tg rfl rfl (by omega) ?_; intro g6 c6 x6 HO6 HB6 HK6; have c6_ := (HB6.out.cell (p := ⟨bt, ot + q, none⟩) hbt).trans c00)
            have hB6 := HB6.out
            have HT6 := zI (HT1.out.keep HK6.out (by decide))
            have HU6 := zI (HT2.out.keep HK6.out (by decide))
            go_wp2
            go_roundw
            case rel => exact ⟨q + 1, by omega, by go_num, by rw [HF.out], by rw [HF.out], zI (by rw [HF.out]; exact HO6.out), HT6, HU6, hB6⟩
            case measure => simp [intOf]; omega
          · have hzn := hzt
            have hzb : (z.toList == tg.toList) = false := beq_eq_false_iff_ne.2 fun h => hzt (toList_inj18 h)
            have HZ := HST.out
            unfold tgStep at HZ
            have HF : Hid (tgF put tg (y0.u_.l.take (q + 1)) = (((OL ++ [tg]) ++ [z]), IS, true)) := zI (by
             rw [HZ]
             have hl2 := hlT
             skip
             simp [hzn, hl2])
            clear HZ HST hzt hzn hlT
            go_wp2_with (first | (at_builtin; refine wpAppN rfl rfl hB hsB HO.out rfl tg rfl rfl (by omega) ?_; intro g6 c6 x6 HO6 HB6 HK6; have c6_ := (HB6.out.cell (p := ⟨bt, ot + q, none⟩) hbt).trans c00) | (at_builtin; refine wpAppN rfl rfl HB6.out HB6.out.size HO6.out (by rw [List.length_append, List.length_singleton]) z rfl rfl (by omega) ?_; intro g8 c8 x8 HO8 HB8 HK8))
            go_roundw
            case rel => exact ⟨q + 1, by omega, by go_num, by rw [HF.out], by rw [HF.out], zI (by rw [HF.out]; exact HO8.out), zI ((HT1.out.keep HK6.out (by decide)).keep HK8.out (by decide)), zI ((HT2.out.keep HK6.out (by decide)).keep HK8.out (by decide)), HB8.out⟩
            case measure => simp [intOf]; omega
      · skip
        by_cases hzt : z = tg
        · have hzb : (z.toList == tg.toList) = true := by rw [hzt]; exact beq_self_eq_true _
          have HZ := HST.out
          unfold tgStep at HZ
          have HF : Hid (tgF put tg (y0.u_.l.take (q + 1)) = (OL, true, true)) := zI (by
           rw [HZ]
           skip
           skip
           simp [hzt])
          clear HZ HST hzt
          go_wp2
          go_roundw
          case rel => exact ⟨q + 1, by omega, by go_num, by rw [HF.out], by rw [HF.out], zI (by rw [HF.out]; exact HO.out), HT1, HT2, hB⟩
          case measure => simp [intOf]; omega
        · have hzn := hzt
          have hzb : (z.toList == tg.toList) = false := beq_eq_false_iff_ne.2 fun h => hzt (toList_inj18 h)
          have HZ := HST.out
          unfold tgStep at HZ
          have HF : Hid (tgF put tg (y0.u_.l.take (q + 1)) = ((OL ++ [z]), IS, true)) := zI (by
           rw [HZ]
           skip
           skip
           simp [hzn])
          clear HZ HST hzt hzn
          go_wp2_with (at_builtin; refine wpAppN rfl rfl hB hsB HO.out rfl z rfl rfl (by omega) ?_; intro g8 c8 x8 HO8 HB8 HK8)
          go_roundw
          case rel => exact ⟨q + 1, by omega, by go_num, by rw [HF.out], by rw [HF.out], zI (by rw [HF.out]; exact HO8.out), zI (HT1.out.keep HK8.out (by decide)), zI (HT2.out.keep HK8.out (by decide)), HB8.out⟩
          case measure => simp [intOf]; omega
    · obtain rfl : q = y0.u_.l.length := by omega
      rw [List.take_length] at hIS hDN hOL
      have hisE : IS = HS := by rw [← hIS, tg_is, HHS.out]
      subst hisE
      obtain ⟨Av, cv, hv, _, _, _, _⟩ := ownAny HO.out
      subst hv
      have hLD : tgL put tg y0.u_.l = if DN = true then OL else OL ++ [tg] := by unfold tgL; rw [hDN, hOL]
      have hfr := (tg_free tg y0.u_.l).1
      clear hIS hOL
      rcases put with _ | _
      · rw [hfr] at hDN
        subst hDN
        simp only [Bool.false_eq_true, if_false, if_true] at hLD
        rw [tgL_free] at hLD
        have hPE := HPE.out
        simp only [Bool.false_eq_true, if_false] at hPE
        rcases IS with _ | _
        · obtain rfl : P = (noT, 71) := by rw [hPE, show hasT tg y0.plain.u_ = false from HHS.out]; rfl
          clear hPE hLD hfr HPE
          obtain ⟨zr0, zr1, zr2, zr3, zr4, zr5, zr6⟩ := HT2.out.all7
          obtain ⟨zrf0, zrf1, zrf2, zrf3, zrf4, zrf5, zrf6⟩ := HT2.out.fz7
          go_wp2
          generalize hwE9 : World.setCell _ ⟨a1.heap.size, 6, none⟩ _ = wZ
          obtain ⟨KE9, SE9, ZE9, BE9⟩ := store7 HT2.out hwE9
          obtain ⟨ze0, ze1, ze2, ze3, ze4, ze5, ze6⟩ := KE9.all7
          refine bodyPost_ret (v := .tuple #[.agg #[.string ⟨#[]⟩, .int .i64 0, .int .i64 0, .slice none 0 0, .slice none 0 0, .slice none 0 0, .slice none 0 0], .int .i64 (71)]) (by simp [results, Tryz.results30, go_sem, ze0, ze1, ze2, ze3, ze4, ze5, ze6]) rfl ?_
          exact ansG_no (BE9 _ _ hXw hs1)
        · obtain rfl : P = (mapP x.plain (tagS p n (tagF tg false)) x.plain.v_, 0) := by rw [hPE, show hasT tg y0.plain.u_ = true from HHS.out]; rfl
          have HLE : Hid (OL = freeT tg y0.u_.l) := zI hLD.symm
          have hLlen : OL.length ≤ 6 := by omega
          clear hPE hLD hfr HPE
          have hXg : Below w.heap.size w wi := hX3.trans (hB.mono hs3)
          have hV2g : Below a2.heap.size a2 wi := hV.trans (hB.mono hV.size)
          have HOWN := zI (HOW.out wi hV2g)
          have HOL := zI (HO.out)
          obtain ⟨u0, u1, u2, u3, u4, u5, u6⟩ := HT1.out.all7
          go_wp2_with fail
          refine HOWN.out.mono ?_
          rintro e w5 ⟨y, rfl, hoy, hpy, hsy, hV5⟩
          have hB5 : Below w3.heap.size w3 w5 := hB.trans (hV5.mono hB.size)
          have hs5 := hB5.size
          have KR := (HT2.out).of hV5
          have hgy : y.Good w5 := MT_.Good.of_own HG.out hpy hoy
          have hyl : y.y_.l.map MSet.plain = x.y_.l.map MSet.plain := congrArg PT_.y_ hpy
          have hyn : y.y_.l.length = x.y_.l.length := map_len hyl
          obtain ⟨t, hjt⟩ : ∃ t, y.y_.l[j]? = some t := ⟨_, qZa (by omega)⟩
          have htp : t.plain = s.plain := by
           have h9 : (y.y_.l.map MSet.plain)[j]? = some t.plain := by rw [List.getElem?_map, hjt]; rfl
           rw [hyl, List.getElem?_map, HJ.out] at h9
           simp only [Option.map_some, Option.some.injEq] at h9
           exact h9.symm
          have hsl2 : t.n_.l.map Mna.plain = s.n_.l.map Mna.plain := congrArg PSet.n_ htp
          have hsn2 : t.n_.l.length = s.n_.l.length := by have h9 := congrArg List.length hsl2; rwa [List.length_map, List.length_map] at h9
          obtain ⟨z, hkz⟩ : ∃ z, t.n_.l[k]? = some z := ⟨_, qZa (by omega)⟩
          have hzp : z.plain = y0.plain := by
           have h9 : (t.n_.l.map Mna.plain)[k]? = some z.plain := by rw [List.getElem?_map, hkz]; rfl
           rw [hsl2, List.getElem?_map, HK.out] at h9
           simp only [Option.map_some, Option.some.injEq] at h9
           exact h9.symm
          obtain ⟨g0, hA0⟩ : ∃ g0, t.n_.A = some ⟨g0, 0, none⟩ := by
           have h9 := (hoy.eset t (mG hjt)).snaps
           obtain ⟨_, ⟨_, h0⟩ | ⟨gg, cap, cur, a1_, _⟩⟩ := h9
           · omega
           · unfold Sl.val at a1_
             injection a1_ with a1_
             exact ⟨gg, a1_⟩
          obtain ⟨z', hz'⟩ : ∃ z' : Mna, z' = { z with u_ := ⟨Av, OL, cv⟩ } := ⟨_, rfl⟩
          obtain ⟨w6, hw6⟩ : ∃ w6, w5.alloc (.cells #[.string y.x_, .int .i64 y.r_, .int .i64 y.v_, .slice y.y_.A y.y_.l.length y.y_.c, .slice y.g_.A y.g_.l.length y.g_.c, .slice y.t_.A y.t_.l.length y.t_.c, .slice y.h_.A y.h_.l.length y.h_.c] 27) = w6 := ⟨_, rfl⟩
          have hV6 : Below w5.heap.size w5 w6 := hw6 ▸ (Below.refl _ w5).alloc (Nat.le_refl _) _
          have kY : Blk w6 w5.heap.size 27 [.string y.x_, .int .i64 y.r_, .int .i64 y.v_, .slice y.y_.A y.y_.l.length y.y_.c, .slice y.g_.A y.g_.l.length y.g_.c, .slice y.t_.A y.t_.l.length y.t_.c, .slice y.h_.A y.h_.l.length y.h_.c] := hw6 ▸ Blk.new w5 _ _
          have KR := KR.of hV6
          have hgb0 := row_blk (hoy.eset t (mG hjt)).snaps hA0
          have hgb1 : g0 < w5.heap.size := hgb0.2.1
          have hgb2 : wi.heap.size ≤ g0 := hgb0.1
          have hgy := hgy.below hV6
          have hB6 : Below w3.heap.size w3 w6 := hB5.trans (hV6.mono hs5)
          have ho3 := (hoy.base (Nat.le_trans (hB).size (Nat.le_refl _) : w3.heap.size ≤ wi.heap.size)).below hV6
          have hzo := (ho3.eset t (mG hjt)).each z (mG hkz)
          have hzg := (hgy.w_.el t (mG hjt)).f_.el z (mG hkz)
          have hyg := ((HG.out.w_.el s (mG HJ.out)).f_.el y0 (mG HK.out)).U_
          have htow : w6.ownsRow w3.heap.size 9 1 (.slice Av (OL).length cv) (OL).length ((OL).flatMap fun s => [Value.string s]) := by
           rw [flatT']
           exact zgQ (zgQ HOL.out hV5 (Nat.le_refl _)) hV6 (Nat.le_refl _)
          have hlL : (OL).length ≤ 6 := hLlen
          have hzo' : OwnSn w3.heap.size w6 z' := by
           subst hz'
           exact ⟨hzo.body, htow, hzo.own⟩
          have hzg' : z'.Good w6 := by
           subst hz'
           refine ⟨hzg.L_, hzg.gguid_, slGood_own hzg.K_ rfl hzo.body (fun q hq => hzg.K_.el q hq), slGood_of htow rfl (fun q hq => ?_) (by show (OL).length * 16 ≤ _; omega), slGood_own hzg.G_ rfl hzo.own (fun q hq => hzg.G_.el q hq)⟩
           have hq : q ∈ (OL) := hq
           rw [HLE.out] at hq
           have hq := (List.mem_filter.1 hq).1
           exact hyg.el q hq
           skip
          obtain ⟨hT7, hG7⟩ := ho3.snAt hgy hsy hjt hkz hA0 (f := 3) (by decide) (u := .slice Av (OL).length cv) (by rw [hz']; rfl) hzo' hzg'
          have hpl : (putSe y j (putSn t k z')).plain = mapP x.plain (tagS p n (tagF tg false)) x.plain.v_ := by
           have h9 := tagS_all (y := y) (p := p) (n := n) (f := tagF tg false) (by rw [hpy]; exact HOK.out) hjt (by have h8 : t.l_ = s.l_ := congrArg PSet.l_ htp; rw [h8]; exact HSP.out) hkz (by have h8 : z.x_ = y0.x_ := congrArg PS_.x_ hzp; rw [h8]; exact HYN.out) (z' := z') (by
            have h8 : z.plain.u_ = y0.u_.l := congrArg PS_.u_ hzp
            rw [hz', h8]
            show ({ z.plain with u_ := OL } : PS_) = _
            rw [HLE.out]
            rfl)
           rw [hpy] at h9
           exact h9
          obtain ⟨b5, o5, hA5, hb5, hc5⟩ := Rd.elem (n := 5) (fun _ => rfl) (by omega) hgy.w_.rd hjt
          obtain ⟨b7, o7, hA7, hb7, hc7⟩ := Rd.elem (n := 5) (fun _ => rfl) (by omega) (hgy.w_.el t (mG hjt)).f_.rd hkz
          rw [hA0] at hA7
          injection hA7 with hA7
          injection hA7 with e1 e2
          subst e1 e2
          have m3 : w6.cell? ⟨b5, o5 + j * 5 + 3, none⟩ = some (.slice (some ⟨g0, 0, none⟩) t.n_.l.length t.n_.c) := by
           have h9 := hc5 3 _ rfl
           rw [hA0] at h9
           exact h9
          have m5 : w6.cell? ⟨g0, k * 5 + 3, none⟩ = some (.slice z.u_.A z.u_.l.length z.u_.c) := by
           have := hc7 3 _ rfl
           rwa [Nat.zero_add] at this
          have hrowz := (ho3.eset t (mG hjt)).snaps
          unfold Sl.val at hrowz
          rw [hA0] at hrowz
          have mf := zcQ hrowz (k * 5 + 3)
          obtain ⟨w7, hw7⟩ : ∃ w7, w6.setCell ⟨g0, k * 5 + 3, none⟩ (.slice Av (OL).length cv) = w7 := ⟨_, rfl⟩
          rw [hw7] at hT7 hG7
          have hjt5 : j < y.y_.l.length := by omega
          have hkz5 : k < t.n_.l.length := by omega
          have hla5 : a1.heap.size < w3.heap.size := Nat.lt_of_lt_of_le hlk2 hV.size
          have hWle : w3.heap.size ≤ wi.heap.size := (hB).size
          have hn1 : w5.heap.size ≠ g0 := by omega
          have hn2 : a1.heap.size ≠ g0 := by omega
          rw [hA5] at kY
          have kY7 := zI (hw7 ▸ kY.other hn1 (k * 5 + 3) (.slice Av (OL).length cv))
          have KR7 := zI (hw7 ▸ KR.other hn2 (k * 5 + 3) (.slice Av (OL).length cv))
          have hX7 := zI (hw7 ▸ (hX3.trans (hB6.mono hs3)).setCell (p := ⟨g0, k * 5 + 3, none⟩) (by show w.heap.size ≤ g0; omega) (.slice Av (OL).length cv))
          obtain ⟨yS, hyS⟩ : ∃ yS, putSe y j (putSn t k z') = yS := ⟨_, rfl⟩
          rw [hyS] at hT7 hG7 hpl
          have hyc : yS.cells = [.string y.x_, .int .i64 y.r_, .int .i64 y.v_, .slice (some ⟨b5, o5, none⟩) y.y_.l.length y.y_.c, .slice y.g_.A y.g_.l.length y.g_.c, .slice y.t_.A y.t_.l.length y.t_.c, .slice y.h_.A y.h_.l.length y.h_.c] := by
           rw [← hyS]
           simp only [MT_.cells, putSe, List.length_set, hA5]
          have HT7 := zI hT7
          have HG7 := zI hG7
          have HPL := zI hpl
          have HYC := zI hyc
          have HW6 := zI hw6
          have HW7 := zI hw7
          obtain ⟨c0, c1, c2, c3, c4, c5, c6⟩ := kY.all7
          clear hT7 hG7 hpl hyc hyS hw6 hw7 hc5 hc7 hrowz hA5 hA0 hjt hkz hz' hzo hzg hyg htow hzo' hzg' ho3 hoy hgy hpy hsy hyl hyn htp hsl2 hsn2 hzp kY KR hgb0 u0 u1 u2 u3 u4 u5 u6
          go_upto_region 25 with fail
          rw [HW6.out]
          go_upto_region 26 with fail
          rw [HW7.out]
          obtain ⟨d0, d1, d2, d3, d4, d5, d6⟩ := kY7.out.all7
          obtain ⟨zr0, zr1, zr2, zr3, zr4, zr5, zr6⟩ := KR7.out.all7
          obtain ⟨zrf0, zrf1, zrf2, zrf3, zrf4, zrf5, zrf6⟩ := KR7.out.fz7
          go_wp2
          generalize hwE9 : World.setCell _ ⟨a1.heap.size, 6, none⟩ _ = wZ
          obtain ⟨KE9, SE9, ZE9, BE9⟩ := store7 KR7.out hwE9
          obtain ⟨ze0, ze1, ze2, ze3, ze4, ze5, ze6⟩ := KE9.all7
          refine bodyPost_ret (v := .tuple #[.agg #[.string y.x_, .int .i64 y.r_, .int .i64 y.v_, .slice (some ⟨b5, o5, none⟩) y.y_.l.length y.y_.c, .slice y.g_.A y.g_.l.length y.g_.c, .slice y.t_.A y.t_.l.length y.t_.c, .slice y.h_.A y.h_.l.length y.h_.c], .int .i64 (0)]) (by simp [results, Tryz.results30, go_sem, ze0, ze1, ze2, ze3, ze4, ze5, ze6]) rfl ?_
          exact ⟨yS, by rw [HYC.out], MT_.Good.of_own HG7.out rfl (HT7.out.store hla5 SE9), HPL.out, BE9 _ _ hX7.out hs1⟩
      · have hPE := HPE.out
        simp only [if_true] at hPE
        rcases IS with _ | _
        · by_cases h4 : y0.u_.l.length = 4
          · obtain rfl : P = (noT, 3) := by
             rw [hPE, show hasT tg y0.plain.u_ = false from HHS.out, show y0.plain.u_.length = 4 from h4]
             rfl
            have hq4 : ((y0.u_.l.length : Int) == 4) = true := by rw [h4]; rfl
            clear hPE hLD hfr HPE hDN h4
            rcases DN with _ | _
            · skip
              go_upto_region 18 with (at_builtin; refine wpAppN rfl rfl hB hsB HO.out rfl tg rfl rfl (by omega) ?_; intro g8 c8 x8 HO8 HB8 HK8; obtain ⟨OM, hOM⟩ : ∃ OM, OM = OL ++ [tg] := ⟨_, rfl⟩; have hOMl : OM.length = OL.length + 1 := (by rw [hOM, List.length_append, List.length_singleton]); rw [← hOMl, ← hOM] at HO8; rw [← hOMl]; have HOMl := zI hOMl; have HOM := zI hOM; clear hOMl hOM)
              have KR8 := zI (HT2.out.keep HK8.out (by decide))
              have hX8 := zI (hX3.trans (HB8.out.mono hs3))
              obtain ⟨zr0, zr1, zr2, zr3, zr4, zr5, zr6⟩ := KR8.out.all7
              obtain ⟨zrf0, zrf1, zrf2, zrf3, zrf4, zrf5, zrf6⟩ := KR8.out.fz7
              go_wp2
              generalize hwE9 : World.setCell _ ⟨a1.heap.size, 6, none⟩ _ = wZ
              obtain ⟨KE9, SE9, ZE9, BE9⟩ := store7 KR8.out hwE9
              obtain ⟨ze0, ze1, ze2, ze3, ze4, ze5, ze6⟩ := KE9.all7
              refine bodyPost_ret (v := .tuple #[.agg #[.string ⟨#[]⟩, .int .i64 0, .int .i64 0, .slice none 0 0, .slice none 0 0, .slice none 0 0, .slice none 0 0], .int .i64 (3)]) (by simp [results, Tryz.results30, go_sem, ze0, ze1, ze2, ze3, ze4, ze5, ze6]) rfl ?_
              exact ansG_no (BE9 _ _ hX8.out hs1)
            · skip
              obtain ⟨zr0, zr1, zr2, zr3, zr4, zr5, zr6⟩ := HT2.out.all7
              obtain ⟨zrf0, zrf1, zrf2, zrf3, zrf4, zrf5, zrf6⟩ := HT2.out.fz7
              go_wp2
              generalize hwE9 : World.setCell _ ⟨a1.heap.size, 6, none⟩ _ = wZ
              obtain ⟨KE9, SE9, ZE9, BE9⟩ := store7 HT2.out hwE9
              obtain ⟨ze0, ze1, ze2, ze3, ze4, ze5, ze6⟩ := KE9.all7
              refine bodyPost_ret (v := .tuple #[.agg #[.string ⟨#[]⟩, .int .i64 0, .int .i64 0, .slice none 0 0, .slice none 0 0, .slice none 0 0, .slice none 0 0], .int .i64 (3)]) (by simp [results, Tryz.results30, go_sem, ze0, ze1, ze2, ze3, ze4, ze5, ze6]) rfl ?_
              exact ansG_no (BE9 _ _ hXw hs1)
          · obtain rfl : P = (mapP x.plain (tagS p n (tagF tg true)) x.plain.v_, 0) := by
             rw [hPE, show hasT tg y0.plain.u_ = false from HHS.out]
             simp only [Bool.false_eq_true, if_false]
             rw [if_neg (show ¬ y0.plain.u_.length = 4 from h4)]
             rfl
            have hq4 : ((y0.u_.l.length : Int) == 4) = false := beq_eq_false_iff_ne.2 (by omega)
            have hLX0 := tgL_hold HHS.out
            rw [hLD] at hLX0
            clear hPE hLD hfr HPE hDN h4
            rcases DN with _ | _
            · simp only [Bool.false_eq_true, if_false] at hLX0
              go_upto_region 18 with (at_builtin; refine wpAppN rfl rfl hB hsB HO.out rfl tg rfl rfl (by omega) ?_; intro g8 c8 x8 HO8 HB8 HK8; obtain ⟨OM, hOM⟩ : ∃ OM, OM = OL ++ [tg] := ⟨_, rfl⟩; have hOMl : OM.length = OL.length + 1 := (by rw [hOM, List.length_append, List.length_singleton]); rw [← hOMl, ← hOM] at HO8; rw [← hOMl]; have HOMl := zI hOMl; have HOM := zI hOM; clear hOMl hOM)
              have HLE : Hid (OM = holdT tg y0.u_.l) := zI (HOM.out.trans hLX0)
              have hLlen : OM.length ≤ 6 := by have := HOMl.out; omega
              have KT8 := zI (HT1.out.keep HK8.out (by decide))
              have KR8 := zI (HT2.out.keep HK8.out (by decide))
              clear hLX0
              have hXg : Below w.heap.size w x8 := hX3.trans (HB8.out.mono hs3)
              have hV2g : Below a2.heap.size a2 x8 := hV.trans (HB8.out.mono hV.size)
              have HOWN := zI (HOW.out x8 hV2g)
              have HOL := zI (HO8.out)
              obtain ⟨u0, u1, u2, u3, u4, u5, u6⟩ := KT8.out.all7
              go_wp2_with fail
              refine HOWN.out.mono ?_
              rintro e w5 ⟨y, rfl, hoy, hpy, hsy, hV5⟩
              have hB5 : Below w3.heap.size w3 w5 := HB8.out.trans (hV5.mono HB8.out.size)
              have hs5 := hB5.size
              have KR := (KR8.out).of hV5
              have hgy : y.Good w5 := MT_.Good.of_own HG.out hpy hoy
              have hyl : y.y_.l.map MSet.plain = x.y_.l.map MSet.plain := congrArg PT_.y_ hpy
              have hyn : y.y_.l.length = x.y_.l.length := map_len hyl
              obtain ⟨t, hjt⟩ : ∃ t, y.y_.l[j]? = some t := ⟨_, qZa (by omega)⟩
              have htp : t.plain = s.plain := by
               have h9 : (y.y_.l.map MSet.plain)[j]? = some t.plain := by rw [List.getElem?_map, hjt]; rfl
               rw [hyl, List.getElem?_map, HJ.out] at h9
               simp only [Option.map_some, Option.some.injEq] at h9
               exact h9.symm
              have hsl2 : t.n_.l.map Mna.plain = s.n_.l.map Mna.plain := congrArg PSet.n_ htp
              have hsn2 : t.n_.l.length = s.n_.l.length := by have h9 := congrArg List.length hsl2; rwa [List.length_map, List.length_map] at h9
              obtain ⟨z, hkz⟩ : ∃ z, t.n_.l[k]? = some z := ⟨_, qZa (by omega)⟩
              have hzp : z.plain = y0.plain := by
               have h9 : (t.n_.l.map Mna.plain)[k]? = some z.plain := by rw [List.getElem?_map, hkz]; rfl
               rw [hsl2, List.getElem?_map, HK.out] at h9
               simp only [Option.map_some, Option.some.injEq] at h9
               exact h9.symm
              obtain ⟨g0, hA0⟩ : ∃ g0, t.n_.A = some ⟨g0, 0, none⟩ := by
               have h9 := (hoy.eset t (mG hjt)).snaps
               obtain ⟨_, ⟨_, h0⟩ | ⟨gg, cap, cur, a1_, _⟩⟩ := h9
               · omega
               · unfold Sl.val at a1_
                 injection a1_ with a1_
                 exact ⟨gg, a1_⟩
              obtain ⟨z', hz'⟩ : ∃ z' : Mna, z' = { z with u_ := ⟨(some ⟨g8, 0, none⟩), OM, c8⟩ } := ⟨_, rfl⟩
              obtain ⟨w6, hw6⟩ : ∃ w6, w5.alloc (.cells #[.string y.x_, .int .i64 y.r_, .int .i64 y.v_, .slice y.y_.A y.y_.l.length y.y_.c, .slice y.g_.A y.g_.l.length y.g_.c, .slice y.t_.A y.t_.l.length y.t_.c, .slice y.h_.A y.h_.l.length y.h_.c] 27) = w6 := ⟨_, rfl⟩
              have hV6 : Below w5.heap.size w5 w6 := hw6 ▸ (Below.refl _ w5).alloc (Nat.le_refl _) _
              have kY : Blk w6 w5.heap.size 27 [.string y.x_, .int .i64 y.r_, .int .i64 y.v_, .slice y.y_.A y.y_.l.length y.y_.c, .slice y.g_.A y.g_.l.length y.g_.c, .slice y.t_.A y.t_.l.length y.t_.c, .slice y.h_.A y.h_.l.length y.h_.c] := hw6 ▸ Blk.new w5 _ _
              have KR := KR.of hV6
              have hgb0 := row_blk (hoy.eset t (mG hjt)).snaps hA0
              have hgb1 : g0 < w5.heap.size := hgb0.2.1
              have hgb2 : x8.heap.size ≤ g0 := hgb0.1
              have hgy := hgy.below hV6
              have hB6 : Below w3.heap.size w3 w6 := hB5.trans (hV6.mono hs5)
              have ho3 := (hoy.base (Nat.le_trans (HB8.out).size (Nat.le_refl _) : w3.heap.size ≤ x8.heap.size)).below hV6
              have hzo := (ho3.eset t (mG hjt)).each z (mG hkz)
              have hzg := (hgy.w_.el t (mG hjt)).f_.el z (mG hkz)
              have hyg := ((HG.out.w_.el s (mG HJ.out)).f_.el y0 (mG HK.out)).U_
              have htow : w6.ownsRow w3.heap.size 9 1 (.slice (some ⟨g8, 0, none⟩) (OM).length c8) (OM).length ((OM).flatMap fun s => [Value.string s]) := by
               rw [flatT']
               exact zgQ (zgQ HOL.out hV5 (Nat.le_refl _)) hV6 (Nat.le_refl _)
              have hlL : (OM).length ≤ 6 := hLlen
              have hzo' : OwnSn w3.heap.size w6 z' := by
               subst hz'
               exact ⟨hzo.body, htow, hzo.own⟩
              have hzg' : z'.Good w6 := by
               subst hz'
               refine ⟨hzg.L_, hzg.gguid_, slGood_own hzg.K_ rfl hzo.body (fun q hq => hzg.K_.el q hq), slGood_of htow rfl (fun q hq => ?_) (by show (OM).length * 16 ≤ _; omega), slGood_own hzg.G_ rfl hzo.own (fun q hq => hzg.G_.el q hq)⟩
               have hq : q ∈ (OM) := hq
               rw [HLE.out] at hq
               rcases mem_holdT.1 hq with rfl | hq
               · exact htz
               · exact hyg.el q hq
              obtain ⟨hT7, hG7⟩ := ho3.snAt hgy hsy hjt hkz hA0 (f := 3) (by decide) (u := .slice (some ⟨g8, 0, none⟩) (OM).length c8) (by rw [hz']; rfl) hzo' hzg'
              have hpl : (putSe y j (putSn t k z')).plain = mapP x.plain (tagS p n (tagF tg true)) x.plain.v_ := by
               have h9 := tagS_all (y := y) (p := p) (n := n) (f := tagF tg true) (by rw [hpy]; exact HOK.out) hjt (by have h8 : t.l_ = s.l_ := congrArg PSet.l_ htp; rw [h8]; exact HSP.out) hkz (by have h8 : z.x_ = y0.x_ := congrArg PS_.x_ hzp; rw [h8]; exact HYN.out) (z' := z') (by
                have h8 : z.plain.u_ = y0.u_.l := congrArg PS_.u_ hzp
                rw [hz', h8]
                show ({ z.plain with u_ := OM } : PS_) = _
                rw [HLE.out]
                rfl)
               rw [hpy] at h9
               exact h9
              obtain ⟨b5, o5, hA5, hb5, hc5⟩ := Rd.elem (n := 5) (fun _ => rfl) (by omega) hgy.w_.rd hjt
              obtain ⟨b7, o7, hA7, hb7, hc7⟩ := Rd.elem (n := 5) (fun _ => rfl) (by omega) (hgy.w_.el t (mG hjt)).f_.rd hkz
              rw [hA0] at hA7
              injection hA7 with hA7
              injection hA7 with e1 e2
              subst e1 e2
              have m3 : w6.cell? ⟨b5, o5 + j * 5 + 3, none⟩ = some (.slice (some ⟨g0, 0, none⟩) t.n_.l.length t.n_.c) := by
               have h9 := hc5 3 _ rfl
               rw [hA0] at h9
               exact h9
              have m5 : w6.cell? ⟨g0, k * 5 + 3, none⟩ = some (.slice z.u_.A z.u_.l.length z.u_.c) := by
               have := hc7 3 _ rfl
               rwa [Nat.zero_add] at this
              have hrowz := (ho3.eset t (mG hjt)).snaps
              unfold Sl.val at hrowz
              rw [hA0] at hrowz
              have mf := zcQ hrowz (k * 5 + 3)
              obtain ⟨w7, hw7⟩ : ∃ w7, w6.setCell ⟨g0, k * 5 + 3, none⟩ (.slice (some ⟨g8, 0, none⟩) (OM).length c8) = w7 := ⟨_, rfl⟩
              rw [hw7] at hT7 hG7
              have hjt5 : j < y.y_.l.length := by omega
              have hkz5 : k < t.n_.l.length := by omega
              have hla5 : a1.heap.size < w3.heap.size := Nat.lt_of_lt_of_le hlk2 hV.size
              have hWle : w3.heap.size ≤ x8.heap.size := (HB8.out).size
              have hn1 : w5.heap.size ≠ g0 := by omega
              have hn2 : a1.heap.size ≠ g0 := by omega
              rw [hA5] at kY
              have kY7 := zI (hw7 ▸ kY.other hn1 (k * 5 + 3) (.slice (some ⟨g8, 0, none⟩) (OM).length c8))
              have KR7 := zI (hw7 ▸ KR.other hn2 (k * 5 + 3) (.slice (some ⟨g8, 0, none⟩) (OM).length c8))
              have hX7 := zI (hw7 ▸ (hX3.trans (hB6.mono hs3)).setCell (p := ⟨g0, k * 5 + 3, none⟩) (by show w.heap.size ≤ g0; omega) (.slice (some ⟨g8, 0, none⟩) (OM).length c8))
              obtain ⟨yS, hyS⟩ : ∃ yS, putSe y j (putSn t k z') = yS := ⟨_, rfl⟩
              rw [hyS] at hT7 hG7 hpl
              have hyc : yS.cells = [.string y.x_, .int .i64 y.r_, .int .i64 y.v_, .slice (some ⟨b5, o5, none⟩) y.y_.l.length y.y_.c, .slice y.g_.A y.g_.l.length y.g_.c, .slice y.t_.A y.t_.l.length y.t_.c, .slice y.h_.A y.h_.l.length y.h_.c] := by
               rw [← hyS]
               simp only [MT_.cells, putSe, List.length_set, hA5]
              have HT7 := zI hT7
              have HG7 := zI hG7
              have HPL := zI hpl
              have HYC := zI hyc
              have HW6 := zI hw6
              have HW7 := zI hw7
              obtain ⟨c0, c1, c2, c3, c4, c5, c6⟩ := kY.all7
              clear hT7 hG7 hpl hyc hyS hw6 hw7 hc5 hc7 hrowz hA5 hA0 hjt hkz hz' hzo hzg hyg htow hzo' hzg' ho3 hoy hgy hpy hsy hyl hyn htp hsl2 hsn2 hzp kY KR hgb0 u0 u1 u2 u3 u4 u5 u6
              go_upto_region 25 with fail
              rw [HW6.out]
              go_upto_region 26 with fail
              rw [HW7.out]
              obtain ⟨d0, d1, d2, d3, d4, d5, d6⟩ := kY7.out.all7
              obtain ⟨zr0, zr1, zr2, zr3, zr4, zr5, zr6⟩ := KR7.out.all7
              obtain ⟨zrf0, zrf1, zrf2, zrf3, zrf4, zrf5, zrf6⟩ := KR7.out.fz7
              go_wp2
              generalize hwE9 : World.setCell _ ⟨a1.heap.size, 6, none⟩ _ = wZ
              obtain ⟨KE9, SE9, ZE9, BE9⟩ := store7 KR7.out hwE9
              obtain ⟨ze0, ze1, ze2, ze3, ze4, ze5, ze6⟩ := KE9.all7
              refine bodyPost_ret (v := .tuple #[.agg #[.string y.x_, .int .i64 y.r_, .int .i64 y.v_, .slice (some ⟨b5, o5, none⟩) y.y_.l.length y.y_.c, .slice y.g_.A y.g_.l.length y.g_.c, .slice y.t_.A y.t_.l.length y.t_.c, .slice y.h_.A y.h_.l.length y.h_.c], .int .i64 (0)]) (by simp [results, Tryz.results30, go_sem, ze0, ze1, ze2, ze3, ze4, ze5, ze6]) rfl ?_
              exact ⟨yS, by rw [HYC.out], MT_.Good.of_own HG7.out rfl (HT7.out.store hla5 SE9), HPL.out, BE9 _ _ hX7.out hs1⟩
            · simp only [if_true] at hLX0
              have HLE : Hid (OL = holdT tg y0.u_.l) := zI hLX0
              have hLlen : OL.length ≤ 6 := by omega
              clear hLX0
              have hXg : Below w.heap.size w wi := hX3.trans (hB.mono hs3)
              have hV2g : Below a2.heap.size a2 wi := hV.trans (hB.mono hV.size)
              have HOWN := zI (HOW.out wi hV2g)
              have HOL := zI (HO.out)
              obtain ⟨u0, u1, u2, u3, u4, u5, u6⟩ := HT1.out.all7
              go_wp2_with fail
              refine HOWN.out.mono ?_
              rintro e w5 ⟨y, rfl, hoy, hpy, hsy, hV5⟩
              have hB5 : Below w3.heap.size w3 w5 := hB.trans (hV5.mono hB.size)
              have hs5 := hB5.size
              have KR := (HT2.out).of hV5
              have hgy : y.Good w5 := MT_.Good.of_own HG.out hpy hoy
              have hyl : y.y_.l.map MSet.plain = x.y_.l.map MSet.plain := congrArg PT_.y_ hpy
              have hyn : y.y_.l.length = x.y_.l.length := map_len hyl
              obtain ⟨t, hjt⟩ : ∃ t, y.y_.l[j]? = some t := ⟨_, qZa (by omega)⟩
              have htp : t.plain = s.plain := by
               have h9 : (y.y_.l.map MSet.plain)[j]? = some t.plain := by rw [List.getElem?_map, hjt]; rfl
               rw [hyl, List.getElem?_map, HJ.out] at h9
               simp only [Option.map_some, Option.some.injEq] at h9
               exact h9.symm
              have hsl2 : t.n_.l.map Mna.plain = s.n_.l.map Mna.plain := congrArg PSet.n_ htp
              have hsn2 : t.n_.l.length = s.n_.l.length := by have h9 := congrArg List.length hsl2; rwa [List.length_map, List.length_map] at h9
              obtain ⟨z, hkz⟩ : ∃ z, t.n_.l[k]? = some z := ⟨_, qZa (by omega)⟩
              have hzp : z.plain = y0.plain := by
               have h9 : (t.n_.l.map Mna.plain)[k]? = some z.plain := by rw [List.getElem?_map, hkz]; rfl
               rw [hsl2, List.getElem?_map, HK.out] at h9
               simp only [Option.map_some, Option.some.injEq] at h9
               exact h9.symm
              obtain ⟨g0, hA0⟩ : ∃ g0, t.n_.A = some ⟨g0, 0, none⟩ := by
               have h9 := (hoy.eset t (mG hjt)).snaps
               obtain ⟨_, ⟨_, h0⟩ | ⟨gg, cap, cur, a1_, _⟩⟩ := h9
               · omega
               · unfold Sl.val at a1_
                 injection a1_ with a1_
                 exact ⟨gg, a1_⟩
              obtain ⟨z', hz'⟩ : ∃ z' : Mna, z' = { z with u_ := ⟨Av, OL, cv⟩ } := ⟨_, rfl⟩
              obtain ⟨w6, hw6⟩ : ∃ w6, w5.alloc (.cells #[.string y.x_, .int .i64 y.r_, .int .i64 y.v_, .slice y.y_.A y.y_.l.length y.y_.c, .slice y.g_.A y.g_.l.length y.g_.c, .slice y.t_.A y.t_.l.length y.t_.c, .slice y.h_.A y.h_.l.length y.h_.c] 27) = w6 := ⟨_, rfl⟩
              have hV6 : Below w5.heap.size w5 w6 := hw6 ▸ (Below.refl _ w5).alloc (Nat.le_refl _) _
              have kY : Blk w6 w5.heap.size 27 [.string y.x_, .int .i64 y.r_, .int .i64 y.v_, .slice y.y_.A y.y_.l.length y.y_.c, .slice y.g_.A y.g_.l.length y.g_.c, .slice y.t_.A y.t_.l.length y.t_.c, .slice y.h_.A y.h_.l.length y.h_.c] := hw6 ▸ Blk.new w5 _ _
              have KR := KR.of hV6
              have hgb0 := row_blk (hoy.eset t (mG hjt)).snaps hA0
              have hgb1 : g0 < w5.heap.size := hgb0.2.1
              have hgb2 : wi.heap.size ≤ g0 := hgb0.1
              have hgy := hgy.below hV6
              have hB6 : Below w3.heap.size w3 w6 := hB5.trans (hV6.mono hs5)
              have ho3 := (hoy.base (Nat.le_trans (hB).size (Nat.le_refl _) : w3.heap.size ≤ wi.heap.size)).below hV6
              have hzo := (ho3.eset t (mG hjt)).each z (mG hkz)
              have hzg := (hgy.w_.el t (mG hjt)).f_.el z (mG hkz)
              have hyg := ((HG.out.w_.el s (mG HJ.out)).f_.el y0 (mG HK.out)).U_
              have htow : w6.ownsRow w3.heap.size 9 1 (.slice Av (OL).length cv) (OL).length ((OL).flatMap fun s => [Value.string s]) := by
               rw [flatT']
               exact zgQ (zgQ HOL.out hV5 (Nat.le_refl _)) hV6 (Nat.le_refl _)
              have hlL : (OL).length ≤ 6 := hLlen
              have hzo' : OwnSn w3.heap.size w6 z' := by
               subst hz'
               exact ⟨hzo.body, htow, hzo.own⟩
              have hzg' : z'.Good w6 := by
               subst hz'
               refine ⟨hzg.L_, hzg.gguid_, slGood_own hzg.K_ rfl hzo.body (fun q hq => hzg.K_.el q hq), slGood_of htow rfl (fun q hq => ?_) (by show (OL).length * 16 ≤ _; omega), slGood_own hzg.G_ rfl hzo.own (fun q hq => hzg.G_.el q hq)⟩
               have hq : q ∈ (OL) := hq
               rw [HLE.out] at hq
               rcases mem_holdT.1 hq with rfl | hq
               · exact htz
               · exact hyg.el q hq
              obtain ⟨hT7, hG7⟩ := ho3.snAt hgy hsy hjt hkz hA0 (f := 3) (by decide) (u := .slice Av (OL).length cv) (by rw [hz']; rfl) hzo' hzg'
              have hpl : (putSe y j (putSn t k z')).plain = mapP x.plain (tagS p n (tagF tg true)) x.plain.v_ := by
               have h9 := tagS_all (y := y) (p := p) (n := n) (f := tagF tg true) (by rw [hpy]; exact HOK.out) hjt (by have h8 : t.l_ = s.l_ := congrArg PSet.l_ htp; rw [h8]; exact HSP.out) hkz (by have h8 : z.x_ = y0.x_ := congrArg PS_.x_ hzp; rw [h8]; exact HYN.out) (z' := z') (by
                have h8 : z.plain.u_ = y0.u_.l := congrArg PS_.u_ hzp
                rw [hz', h8]
                show ({ z.plain with u_ := OL } : PS_) = _
                rw [HLE.out]
                rfl)
               rw [hpy] at h9
               exact h9
              obtain ⟨b5, o5, hA5, hb5, hc5⟩ := Rd.elem (n := 5) (fun _ => rfl) (by omega) hgy.w_.rd hjt
              obtain ⟨b7, o7, hA7, hb7, hc7⟩ := Rd.elem (n := 5) (fun _ => rfl) (by omega) (hgy.w_.el t (mG hjt)).f_.rd hkz
              rw [hA0] at hA7
              injection hA7 with hA7
              injection hA7 with e1 e2
              subst e1 e2
              have m3 : w6.cell? ⟨b5, o5 + j * 5 + 3, none⟩ = some (.slice (some ⟨g0, 0, none⟩) t.n_.l.length t.n_.c) := by
               have h9 := hc5 3 _ rfl
               rw [hA0] at h9
               exact h9
              have m5 : w6.cell? ⟨g0, k * 5 + 3, none⟩ = some (.slice z.u_.A z.u_.l.length z.u_.c) := by
               have := hc7 3 _ rfl
               rwa [Nat.zero_add] at this
              have hrowz := (ho3.eset t (mG hjt)).snaps
              unfold Sl.val at hrowz
              rw [hA0] at hrowz
              have mf := zcQ hrowz (k * 5 + 3)
              obtain ⟨w7, hw7⟩ : ∃ w7, w6.setCell ⟨g0, k * 5 + 3, none⟩ (.slice Av (OL).length cv) = w7 := ⟨_, rfl⟩
              rw [hw7] at hT7 hG7
              have hjt5 : j < y.y_.l.length := by omega
              have hkz5 : k < t.n_.l.length := by omega
              have hla5 : a1.heap.size < w3.heap.size := Nat.lt_of_lt_of_le hlk2 hV.size
              have hWle : w3.heap.size ≤ wi.heap.size := (hB).size
              have hn1 : w5.heap.size ≠ g0 := by omega
              have hn2 : a1.heap.size ≠ g0 := by omega
              rw [hA5] at kY
              have kY7 := zI (hw7 ▸ kY.other hn1 (k * 5 + 3) (.slice Av (OL).length cv))
              have KR7 := zI (hw7 ▸ KR.other hn2 (k * 5 + 3) (.slice Av (OL).length cv))
              have hX7 := zI (hw7 ▸ (hX3.trans (hB6.mono hs3)).setCell (p := ⟨g0, k * 5 + 3, none⟩) (by show w.heap.size ≤ g0; omega) (.slice Av (OL).length cv))
              obtain ⟨yS, hyS⟩ : ∃ yS, putSe y j (putSn t k z') = yS := ⟨_, rfl⟩
              rw [hyS] at hT7 hG7 hpl
              have hyc : yS.cells = [.string y.x_, .int .i64 y.r_, .int .i64 y.v_, .slice (some ⟨b5, o5, none⟩) y.y_.l.length y.y_.c, .slice y.g_.A y.g_.l.length y.g_.c, .slice y.t_.A y.t_.l.length y.t_.c, .slice y.h_.A y.h_.l.length y.h_.c] := by
               rw [← hyS]
               simp only [MT_.cells, putSe, List.length_set, hA5]
              have HT7 := zI hT7
              have HG7 := zI hG7
              have HPL := zI hpl
              have HYC := zI hyc
              have HW6 := zI hw6
              have HW7 := zI hw7
              obtain ⟨c0, c1, c2, c3, c4, c5, c6⟩ := kY.all7
              clear hT7 hG7 hpl hyc hyS hw6 hw7 hc5 hc7 hrowz hA5 hA0 hjt hkz hz' hzo hzg hyg htow hzo' hzg' ho3 hoy hgy hpy hsy hyl hyn htp hsl2 hsn2 hzp kY KR hgb0 u0 u1 u2 u3 u4 u5 u6
              go_upto_region 25 with fail
              rw [HW6.out]
              go_upto_region 26 with fail
              rw [HW7.out]
              obtain ⟨d0, d1, d2, d3, d4, d5, d6⟩ := kY7.out.all7
              obtain ⟨zr0, zr1, zr2, zr3, zr4, zr5, zr6⟩ := KR7.out.all7
              obtain ⟨zrf0, zrf1, zrf2, zrf3, zrf4, zrf5, zrf6⟩ := KR7.out.fz7
              go_wp2
              generalize hwE9 : World.setCell _ ⟨a1.heap.size, 6, none⟩ _ = wZ
              obtain ⟨KE9, SE9, ZE9, BE9⟩ := store7 KR7.out hwE9
              obtain ⟨ze0, ze1, ze2, ze3, ze4, ze5, ze6⟩ := KE9.all7
              refine bodyPost_ret (v := .tuple #[.agg #[.string y.x_, .int .i64 y.r_, .int .i64 y.v_, .slice (some ⟨b5, o5, none⟩) y.y_.l.length y.y_.c, .slice y.g_.A y.g_.l.length y.g_.c, .slice y.t_.A y.t_.l.length y.t_.c, .slice y.h_.A y.h_.l.length y.h_.c], .int .i64 (0)]) (by simp [results, Tryz.results30, go_sem, ze0, ze1, ze2, ze3, ze4, ze5, ze6]) rfl ?_
              exact ⟨yS, by rw [HYC.out], MT_.Good.of_own HG7.out rfl (HT7.out.store hla5 SE9), HPL.out, BE9 _ _ hX7.out hs1⟩
        · obtain rfl : P = (noT, 6) := by rw [hPE, show hasT tg y0.plain.u_ = true from HHS.out]; rfl
          clear hPE hLD hfr HPE hDN
          rcases DN with _ | _
          · skip
            go_upto_region 18 with (at_builtin; refine wpAppN rfl rfl hB hsB HO.out rfl tg rfl rfl (by omega) ?_; intro g8 c8 x8 HO8 HB8 HK8; obtain ⟨OM, hOM⟩ : ∃ OM, OM = OL ++ [tg] := ⟨_, rfl⟩; have hOMl : OM.length = OL.length + 1 := (by rw [hOM, List.length_append, List.length_singleton]); rw [← hOMl, ← hOM] at HO8; rw [← hOMl]; have HOMl := zI hOMl; have HOM := zI hOM; clear hOMl hOM)
            have KR8 := zI (HT2.out.keep HK8.out (by decide))
            have hX8 := zI (hX3.trans (HB8.out.mono hs3))
            obtain ⟨zr0, zr1, zr2, zr3, zr4, zr5, zr6⟩ := KR8.out.all7
            obtain ⟨zrf0, zrf1, zrf2, zrf3, zrf4, zrf5, zrf6⟩ := KR8.out.fz7
            go_wp2
            generalize hwE9 : World.setCell _ ⟨a1.heap.size, 6, none⟩ _ = wZ
            obtain ⟨KE9, SE9, ZE9, BE9⟩ := store7 KR8.out hwE9
            obtain ⟨ze0, ze1, ze2, ze3, ze4, ze5, ze6⟩ := KE9.all7
            refine bodyPost_ret (v := .tuple #[.agg #[.string ⟨#[]⟩, .int .i64 0, .int .i64 0, .slice none 0 0, .slice none 0 0, .slice none 0 0, .slice none 0 0], .int .i64 (6)]) (by simp [results, Tryz.results30, go_sem, ze0, ze1, ze2, ze3, ze4, ze5, ze6]) rfl ?_
            exact ansG_no (BE9 _ _ hX8.out hs1)
          · skip
            obtain ⟨zr0, zr1, zr2, zr3, zr4, zr5, zr6⟩ := HT2.out.all7
            obtain ⟨zrf0, zrf1, zrf2, zrf3, zrf4, zrf5, zrf6⟩ := HT2.out.fz7
            go_wp2
            generalize hwE9 : World.setCell _ ⟨a1.heap.size, 6, none⟩ _ = wZ
            obtain ⟨KE9, SE9, ZE9, BE9⟩ := store7 HT2.out hwE9
            obtain ⟨ze0, ze1, ze2, ze3, ze4, ze5, ze6⟩ := KE9.all7
            refine bodyPost_ret (v := .tuple #[.agg #[.string ⟨#[]⟩, .int .i64 0, .int .i64 0, .slice none 0 0, .slice none 0 0, .slice none 0 0, .slice none 0 0], .int .i64 (6)]) (by simp [results, Tryz.results30, go_sem, ze0, ze1, ze2, ze3, ze4, ze5, ze6]) rfl ?_
            exact ansG_no (BE9 _ _ hXw hs1)
 · obtain rfl : P = (noT, FE) := by
    rw [← hP]
    have h9 : tagE x.plain p n tg put = FE := by
     unfold tagE
     rw [hTB, hFE, if_pos hf]
    unfold tagP
    rw [h9, if_pos hf]
   have hq : (FE == 0) = false := beq_eq_false_iff_ne.2 hf
   clear hP hTB hFE hFI hFK hf
   obtain ⟨q0, q1, q2, q3, q4, q5, q6⟩ := k1.all7
   go_enter Tryz.func30, Tryz.ntmps30
   go_upto_region 1 with fail
   rw [HW1.out, HW2.out]
   try rw [hX2]
   refine wp_region_noPanic ?_
   refine zcX 12 (fun W => W.cell? ⟨w.heap.size, 0, none⟩ = some (.string x.x_) ∧ W.cell? ⟨w.heap.size, 1, none⟩ = some (.int .i64 x.r_) ∧ W.cell? ⟨w.heap.size, 2, none⟩ = some (.int .i64 x.v_) ∧ W.cell? ⟨w.heap.size, 3, none⟩ = some (.slice x.y_.A x.y_.l.length x.y_.c) ∧ W.cell? ⟨w.heap.size, 4, none⟩ = some (.slice x.g_.A x.g_.l.length x.g_.c) ∧ W.cell? ⟨w.heap.size, 5, none⟩ = some (.slice x.t_.A x.t_.l.length x.t_.c) ∧ W.cell? ⟨w.heap.size, 6, none⟩ = some (.slice x.h_.A x.h_.l.length x.h_.c)) (by kernel_rfl) ⟨q0, q1, q2, q3, q4, q5, q6⟩ (fun hHeld => ?_)
   refine tkA 16 (i := 0) (oi := ⟨some 22, _, _, _, _, _⟩) rfl hHeld ?_
   try simp only [zP]
   refine tkA 16 (i := 1) (oi := ⟨some 23, _, _, _, _, _⟩) rfl hHeld ?_
   try simp only [zP]
   refine tkA 16 (i := 2) (oi := ⟨some 24, _, _, _, _, _⟩) rfl hHeld ?_
   try simp only [zP]
   refine tkA 16 (i := 3) (oi := ⟨some 25, _, _, _, _, _⟩) rfl hHeld ?_
   try simp only [zP]
   clear hHeld
   refine zdZ 16 9 0 [(4, 26), (5, 27), (6, 21), (7, 28), (8, 29), (9, 30), (10, 12), (11, 13), (12, 14)] (fun s v w => match s with
    | 26 => v = .bool TB
    | 27 => v = .tuple #[.int .i64 FI, .int .i64 FK, .int .i64 FE]
    | 21 => v = .tuple #[.int .i64 FI, .int .i64 FK, .int .i64 FE]
    | 28 => v = .int .i64 FI
    | 29 => v = .int .i64 FK
    | 30 => v = .int .i64 FE
    | 12 => v = .int .i64 FI
    | 13 => v = .int .i64 FK
    | 14 => v = .int .i64 FE
    | _ => True) (fun w w' => Below w.heap.size w w') (by kernel_rfl) (by kernel_rfl) bZh ⟨?_, ?_, ?_, ?_, ?_, ?_, ?_, ?_, ?_, trivial⟩ (fun w' hB => ⟨(hB.cell (p := ⟨w.heap.size, 0, none⟩) hlk1).trans q0, (hB.cell (p := ⟨w.heap.size, 1, none⟩) hlk1).trans q1, (hB.cell (p := ⟨w.heap.size, 2, none⟩) hlk1).trans q2, (hB.cell (p := ⟨w.heap.size, 3, none⟩) hlk1).trans q3, (hB.cell (p := ⟨w.heap.size, 4, none⟩) hlk1).trans q4, (hB.cell (p := ⟨w.heap.size, 5, none⟩) hlk1).trans q5, (hB.cell (p := ⟨w.heap.size, 6, none⟩) hlk1).trans q6⟩) ⟨?_, ?_, ?_, ?_, ?_, ?_, ?_, ?_, ?_, trivial⟩ ?_
   focus
    intro v w w' h hB
    exact h
   focus
    intro v w w' h hB
    exact h
   focus
    intro v w w' h hB
    exact h
   focus
    intro v w w' h hB
    exact h
   focus
    intro v w w' h hB
    exact h
   focus
    intro v w w' h hB
    exact h
   focus
    intro v w w' h hB
    exact h
   focus
    intro v w w' h hB
    exact h
   focus
    intro v w w' h hB
    exact h
   focus
    intro vs w2 hBf hFf o ho K hK
    obtain rfl : (⟨some 26, _, _, _, _, _⟩ : Oper) = o := Option.some.inj ho
    clear ho
    (try simp only [fillL, zQ, zP] at hK ⊢)
    go_simp
    refine (HTG.out w2).mono ?_
    rintro e w4 ⟨rfl, hB4⟩
    exact hK.out _ _ ⟨rfl, hB4⟩
   focus
    intro vs w2 hBf hFf o ho K hK
    obtain rfl : (⟨some 27, _, _, _, _, _⟩ : Oper) = o := Option.some.inj ho
    clear ho
    (try simp only [fillL, zQ, zP] at hK ⊢)
    have e26 := (hFf (4, 26) (by simp) (by kernel_rfl))
    simp only [] at e26
    simp only [e26] at hK ⊢
    go_simp
    refine (HFN.out w2 ((Below.refl a2.heap.size a2).drew.trans hBf)).mono ?_
    rintro e w4 ⟨rfl, hB4⟩
    exact hK.out _ _ ⟨rfl, hB4⟩
   focus
    intro vs w2 hBf hFf o ho K hK
    obtain rfl : (⟨some 21, _, _, _, _, _⟩ : Oper) = o := Option.some.inj ho
    clear ho
    (try simp only [fillL, zQ, zP] at hK ⊢)
    have e27 := (hFf (5, 27) (by simp) (by kernel_rfl))
    simp only [] at e27
    simp only [e27] at hK ⊢
    go_simp
    exact hK.out _ _ ⟨rfl, Below.refl _ _⟩
   focus
    intro vs w2 hBf hFf o ho K hK
    obtain rfl : (⟨some 28, _, _, _, _, _⟩ : Oper) = o := Option.some.inj ho
    clear ho
    (try simp only [fillL, zQ, zP] at hK ⊢)
    have e21 := (hFf (6, 21) (by simp) (by kernel_rfl))
    simp only [] at e21
    simp only [e21] at hK ⊢
    go_simp
    exact hK.out _ _ ⟨rfl, Below.refl _ _⟩
   focus
    intro vs w2 hBf hFf o ho K hK
    obtain rfl : (⟨some 29, _, _, _, _, _⟩ : Oper) = o := Option.some.inj ho
    clear ho
    (try simp only [fillL, zQ, zP] at hK ⊢)
    have e21 := (hFf (6, 21) (by simp) (by kernel_rfl))
    simp only [] at e21
    simp only [e21] at hK ⊢
    go_simp
    exact hK.out _ _ ⟨rfl, Below.refl _ _⟩
   focus
    intro vs w2 hBf hFf o ho K hK
    obtain rfl : (⟨some 30, _, _, _, _, _⟩ : Oper) = o := Option.some.inj ho
    clear ho
    (try simp only [fillL, zQ, zP] at hK ⊢)
    have e21 := (hFf (6, 21) (by simp) (by kernel_rfl))
    simp only [] at e21
    simp only [e21] at hK ⊢
    go_simp
    exact hK.out _ _ ⟨rfl, Below.refl _ _⟩
   focus
    intro vs w2 hBf hFf o ho K hK
    obtain rfl : (⟨some 12, _, _, _, _, _⟩ : Oper) = o := Option.some.inj ho
    clear ho
    (try simp only [fillL, zQ, zP] at hK ⊢)
    have e28 := (hFf (7, 28) (by simp) (by kernel_rfl))
    simp only [] at e28
    simp only [e28] at hK ⊢
    go_simp
    exact hK.out _ _ ⟨rfl, Below.refl _ _⟩
   focus
    intro vs w2 hBf hFf o ho K hK
    obtain rfl : (⟨some 13, _, _, _, _, _⟩ : Oper) = o := Option.some.inj ho
    clear ho
    (try simp only [fillL, zQ, zP] at hK ⊢)
    have e29 := (hFf (8, 29) (by simp) (by kernel_rfl))
    simp only [] at e29
    simp only [e29] at hK ⊢
    go_simp
    exact hK.out _ _ ⟨rfl, Below.refl _ _⟩
   focus
    intro vs w2 hBf hFf o ho K hK
    obtain rfl : (⟨some 14, _, _, _, _, _⟩ : Oper) = o := Option.some.inj ho
    clear ho
    (try simp only [fillL, zQ, zP] at hK ⊢)
    have e30 := (hFf (9, 30) (by simp) (by kernel_rfl))
    simp only [] at e30
    simp only [e30] at hK ⊢
    go_simp
    exact hK.out _ _ ⟨rfl, Below.refl _ _⟩
   intro vs w2 hBf hFf
   (try simp only [fillL, zQ, zP])
   have e12 := (hFf (10, 12) (by simp))
   have e13 := (hFf (11, 13) (by simp))
   have e14 := (hFf (12, 14) (by simp))
   simp only [] at e12 e13 e14
   simp only [e12, e13, e14]
   have hV : Below a2.heap.size a2 w2 := (Below.refl a2.heap.size a2).drew.trans hBf
   refine zdQ (by kernel_rfl) ?_ _
   refine NoPanic.normal ?_
   obtain ⟨w3, hw3⟩ : ∃ v, v = w2 := ⟨_, rfl⟩
   subst hw3
   have K1 := k1.of hV
   have K2 := k2.of hV
   have hX3 := hB2.trans (hV.mono hs2)
   have hs3 := hX3.size
   clear hFf hBf q0 q1 q2 q3 q4 q5 q6
   obtain ⟨zr0, zr1, zr2, zr3, zr4, zr5, zr6⟩ := K2.all7
   obtain ⟨zrf0, zrf1, zrf2, zrf3, zrf4, zrf5, zrf6⟩ := K2.fz7
   go_wp2
   generalize hwE9 : World.setCell _ ⟨a1.heap.size, 6, none⟩ _ = wZ
   obtain ⟨KE9, SE9, ZE9, BE9⟩ := store7 K2 hwE9
   obtain ⟨ze0, ze1, ze2, ze3, ze4, ze5, ze6⟩ := KE9.all7
   refine bodyPost_ret (v := .tuple #[.agg #[.string ⟨#[]⟩, .int .i64 0, .int .i64 0, .slice none 0 0, .slice none 0 0, .slice none 0 0, .slice none 0 0], .int .i64 (FE)]) (by simp [results, Tryz.results30, go_sem, ze0, ze1, ze2, ze3, ze4, ze5, ze6]) rfl ?_
   exact ansG_no (BE9 _ _ hX3 hs1)
end Go.Proofs.YtimmcmjipmkebaaGreat
