/-
 usage: each, whatever it hands the contents to; a charge. Conditions: the lists are as they come in.
-/
import Derived.Test.YtimmcmjipmkebaaGreatVGRX
import Derived.LoopTactic
import Derived.BigQuiet
import Derived.Laws.Cover1
import Derived.Laws.StructEq
import Derived.Deep.QuietTactic
import Derived.Deep.DeepCutAuto
import Derived.Shelf.Abstract
namespace Go.Proofs.YtimmcmjipmkebaaGreat
open Go.ChangeShapes Go.WideShapes Go.ChangeAt Go.RowKit
set_option maxRecDepth 100000
structure Oth (C : Nat) (W W' : World) : Prop where
 os : W'.os = W.os
 tape : W'.tape = W.tape
 output : W'.output = W.output
 size : W.heap.size ≤ W'.heap.size
 block : ∀ k, k < W.heap.size → k ≠ C → W'.heap[k]? = W.heap[k]?
theorem Oth.refl (C : Nat) (W : World) : Oth C W W := ⟨rfl, rfl, rfl, Nat.le_refl _, fun _ _ _ => rfl⟩
theorem Oth.trans {C : Nat} {X Y Z : World} (h : Oth C X Y) (k : Oth C Y Z) : Oth C X Z :=
 ⟨k.os.trans h.os, k.tape.trans h.tape, k.output.trans h.output, Nat.le_trans h.size k.size, fun i hi hc => (k.block i (Nat.lt_of_lt_of_le hi h.size) hc).trans (h.block i hi hc)⟩
theorem Oth.of {C : Nat} {W W' : World} (h : Below W.heap.size W W') : Oth C W W' := ⟨h.os, h.tape, h.output, h.size, fun k hk _ => h.block k hk⟩
theorem Oth.set (C j : Nat) (W : World) (v : Value) : Oth C W (W.setCell ⟨C, j, none⟩ v) :=
 ⟨rfl, rfl, rfl, by simp, fun k _ hc => Below.heap_setCell W ⟨C, j, none⟩ v k (fun e => hc e)⟩
theorem Oth.below {C B : Nat} {W W' : World} (h : Oth C W W') (hB : B ≤ C) (hw : B ≤ W.heap.size) : Below B W W' := ⟨h.os, h.tape, h.output, h.size, fun k hk => h.block k (by omega) (by omega)⟩
theorem Oth.blk {C g : Nat} {T : TypeId} {vs : List Value} {W W' : World} (h : Oth C W W') (hb : Blk W g T vs) (hg : g ≠ C) : Blk W' g T vs := (h.block g hb.lt hg).trans hb
theorem Oth.own {C base size k : Nat} {e : TypeId} {v : Value} {xs : List Value} {W W' : World} (h : Oth C W W') (ho : W.ownsRow base e size v k xs) (hne : ∀ b, v.ownBlock = some b → b ≠ C) : W'.ownsRow base e size v k xs :=
 ownStay ho fun b hb => h.block b (ho.lt b hb).2 (hne b hb)
abbrev slC (s : Sl Bk) : List Value := [s.val]
theorem slC_one (s : Sl Bk) : ∀ u ∈ slC s, u.oneCell' = true := fun u hu => by
 simp only [List.mem_cons, List.not_mem_nil, or_false] at hu
 subst hu
 rfl
theorem infoLB : (Tryz.prog.info? 45).map (fun i => (i.zero, i.size, i.bytes)) = some (some (.slice none 0 0), 1, 24) := by kernel_rfl
set_option maxHeartbeats 1000000 in
theorem each_inv (g : Nat) (eg : Enters Tryz.prog g) (p : Value) (A : Option Addr) (c : Nat) (L : List (Sl Bk)) (hl : L.length ≤ 8796093022208) (Inv : Nat → World → Prop) (w : World) (h0 : Inv 0 w)
 (hr : ∀ k W, k < L.length → Inv k W → Rd W A (L.flatMap slC))
 (hs : ∀ k x W, L[k]? = some x → Inv k W → Calls Tryz.prog g #[p, x.val] W fun e W' => e = .returned (.tuple #[]) ∧ Inv (k + 1) W') :
 Calls Tryz.prog 200 #[.func (.func g) #[p] #[], .slice A L.length c] w fun e w' => e = .returned (.tuple #[]) ∧ Inv L.length w' := by
 have eg' : ∀ args w, (callFunc g args).run Tryz.prog w = .ok (.enter g args) w := eg
 have HR := zI hr
 have HS := zI hs
 have H0 := zI h0
 clear hr hs h0
 go_enter Tryz.func200, Tryz.ntmps200
 go_wp2
 go_loopw [8] (fun i W => ∃ k : Nat, k ≤ L.length ∧ i = .int .i64 k ∧ Hid (Inv k W)) (fun i _ => L.length - (intOf i).toNat)
 case atStart => exact ⟨0, Nat.zero_le _, rfl, H0⟩
 case round =>
  obtain ⟨k, hk, rfl, HI⟩ := hrel
  by_cases hlt : k < L.length
  · obtain ⟨x, hx⟩ : ∃ x, L[k]? = some x := ⟨_, qZa hlt⟩
    obtain ⟨b, off, rfl, hb, hc⟩ := Rd.elem (cells := slC) (n := 1) (fun _ => rfl) (by decide) (HR.out k wr hlt HI.out) hx
    have hc0 := hc 0 _ rfl
    rw [Nat.add_zero, Nat.mul_one] at hc0
    have HC := zI (HS.out k x wr hx HI.out)
    clear hc HI hx
    go_wp2_with fail
    refine HC.out.mono ?_
    rintro e w1 ⟨rfl, hI1⟩
    have HI1 := zI hI1
    clear hI1 HC
    go_wp2
    go_roundw
    case rel => exact ⟨k + 1, by omega, by go_num, HI1⟩
    case measure => simp [intOf]; omega
  · obtain rfl : k = L.length := by omega
    go_wp2
    go_end0
    exact ⟨rfl, HI.out⟩
theorem body_any (A : Option Addr) (c n : Nat) (hn : n ≤ 8796093022208) (w : World) :
 Calls Tryz.prog 211 #[.slice A n c] w fun e w' => e = .returned (.int .i64 (1 + (n : Int))) ∧ w' = w := by
 have h1 : wrap64 (1 + (n : Int)) = 1 + (n : Int) := IntWalk.wrap64_in _ (by omega)
 go_enter Tryz.func211, Tryz.ntmps211
 go_wp2
 go_ret
 exact ⟨rfl, rfl⟩
theorem add_any (B : Nat) (s n : Int) (w : World) (hc : w.cell? ⟨B, 0, none⟩ = some (.int .i64 s)) (hf : w.frozen? ⟨B, 0, none⟩ = false) :
 Calls Tryz.prog 210 #[.pointer (some ⟨B, 0, none⟩), .int .i64 n] w fun e w' => e = .returned (.tuple #[]) ∧ w' = w.setCell ⟨B, 0, none⟩ (.int .i64 (wrap64 (s + n))) := by
 go_enter Tryz.func210, Tryz.ntmps210
 go_wp2
 go_end0
 exact ⟨rfl, rfl⟩
theorem chargeTake_any (C : Nat) (s : Int) (A : Option Addr) (c n : Nat) (hn : n ≤ 8796093022208) (w : World) (h : Blk w C 208 [.int .i64 s]) :
 Calls Tryz.prog 201 #[.pointer (some ⟨C, 0, none⟩), .slice A n c] w fun e w' => e = .returned (.tuple #[]) ∧ Blk w' C 208 [.int .i64 (wrap64 (s + (1 + (n : Int))))] ∧ Oth C w w' := by
 have HB := zI (body_any A c n hn)
 have HA := zI (fun W hc hf => add_any C s (1 + (n : Int)) W hc hf)
 have HK := zI h
 have c0 := h.cell 0
 have f0 := h.frozen 0
 simp only [List.getElem?_cons_zero] at c0
 clear h
 go_enter Tryz.func201, Tryz.ntmps201
 refine wp_region_noPanic ?_
 refine zcX 5 (fun W => W.cell? ⟨C, 0, none⟩ = some (.int .i64 s) ∧ W.frozen? ⟨C, 0, none⟩ = false) (by kernel_rfl) ⟨c0, f0⟩ (fun hHeld => ?_)
 refine tkA 12 (i := 0) (oi := ⟨some 4, _, _, _, _, _⟩) rfl hHeld ?_
 try simp only [zP]
 refine tkA 12 (i := 1) (oi := ⟨some 5, _, _, _, _, _⟩) rfl hHeld ?_
 try simp only [zP]
 refine tkA 12 (i := 2) (oi := ⟨some 6, _, _, _, _, _⟩) rfl hHeld ?_
 try simp only [zP]
 refine tkA 12 (i := 3) (oi := ⟨some 7, _, _, _, _, _⟩) rfl hHeld ?_
 try simp only [zP]
 refine zdX (i := 4) (o := ⟨some 8, _, _, _, _, _⟩) (by kernel_rfl) rfl (fun K hK => ?_)
 clear hHeld
 go_simp
 refine (HB.out _).mono ?_
 rintro e w5 ⟨rfl, rfl⟩
 go_wp2_with fail
 refine hK.out _ _ ⟨c0, f0⟩ (fun hHeld => ?_)
 clear hK K
 try simp only [zP]
 refine zcZ (i := 5) (o := ⟨some 9, _, _, _, _, _⟩) (by kernel_rfl) rfl (by kernel_rfl) (fun K hK => ?_)
 clear hHeld
 go_simp
 refine (HA.out w.drew c0 f0).mono ?_
 rintro e w5 ⟨rfl, rfl⟩
 go_wp2_with fail
 refine hK.out _ _ ?_
 clear hK K
 try simp only [zP]
 refine zdQ (by kernel_rfl) ?_ _
 refine NoPanic.normal ?_
 go_wp2
 go_end0
 refine ⟨rfl, HK.out.drew.set 0 _, ?_⟩
 exact (Oth.of (Below.refl w.heap.size w).drew).trans (Oth.set _ _ _ _)
set_option linter.unusedSimpArgs false
def lineM (s : MSet) : List (Sl Bk) := s.n_.l.map Mna.p_ ++ [s.p_]
theorem lineM_length (s : MSet) : (lineM s).length = s.n_.l.length + 1 := by simp [lineM]
structure SetU (W : World) (s : MSet) : Prop where
 sn : Rd W s.n_.A (s.n_.l.flatMap Mna.cells)
 nn : s.n_.l.length ≤ 4398046511104
 bo : ∀ l ∈ lineM s, Rd W l.A (bks l.l) ∧ l.l.length * 24 ≤ 140737488351232
theorem SetU.below {W W' : World} {s : MSet} (h : SetU W s) (hB : Below W.heap.size W W') : SetU W' s := ⟨h.sn.below hB, h.nn, fun l hl => ⟨(h.bo l hl).1.below hB, (h.bo l hl).2⟩⟩
theorem slU {W : World} {l : Sl Bk} {good : Bk → Prop} (h : SlGood W bkC good 24 l) : Rd W l.A (bks l.l) ∧ l.l.length * 24 ≤ 140737488351232 := ⟨h.rd, h.len⟩
theorem SetU.of {W : World} {s : MSet} (h : s.Good W) : SetU W s := by
 refine ⟨h.f_.rd, by have := h.f_.len; omega, fun l hl => ?_⟩
 rcases List.mem_append.1 hl with h1 | h1
 · obtain ⟨y, hy, rfl⟩ := List.mem_map.1 h1
   exact slU (h.f_.el y hy).K_
 · simp at h1
   subst h1
   exact slU h.K_
set_option maxHeartbeats 4000000 in
theorem line_any (s : MSet) (w : World) (hs : SetU w s) :
 Calls Tryz.prog 202 #[.agg s.cells.toArray] w fun e w' => ∃ g c, e = .returned (.slice (some ⟨g, 0, none⟩) (s.n_.l.length + 1) c) ∧ w'.ownsRow w.heap.size 45 1 (.slice (some ⟨g, 0, none⟩) (s.n_.l.length + 1) c) (lineM s).length ((lineM s).flatMap slC) ∧ Below w.heap.size w w' := by
 obtain ⟨w1, hw1⟩ : ∃ w1, w.alloc (.cells #[.string s.l_, .string s.m_, .slice s.p_.A s.p_.l.length s.p_.c, .slice s.n_.A s.n_.l.length s.n_.c, .slice s.j_.A s.j_.l.length s.j_.c] 52) = w1 := ⟨_, rfl⟩
 have hB1 : Below w.heap.size w w1 := hw1 ▸ (Below.refl _ w).alloc (Nat.le_refl _) _
 have k1 : Blk w1 w.heap.size 52 s.cells := hw1 ▸ Blk.new w _ _
 have hsz1 : w1.heap.size = w.heap.size + 1 := by rw [← hw1, World.size_alloc]
 have z3 := k1.cell 3
 simp only [gZa, gZb] at z3
 have HW1 := zI hw1
 have HK1 := zI k1
 have HS := zI hs
 have hnn := hs.nn
 have HB1 := zI hB1
 clear hw1 k1 hs hB1
 go_enter Tryz.func202, Tryz.ntmps202
 go_upto_region 1 with fail
 rw [HW1.out]
 go_wp2_with fail
 go_loopw [3, 9] (fun v i W => ∃ k : Nat, k ≤ s.n_.l.length ∧ i = .int .i64 k ∧ Hid (W.ownsRow w.heap.size 45 1 v ((s.n_.l.take k).map Mna.p_).length (((s.n_.l.take k).map Mna.p_).flatMap slC)) ∧ Hid (Blk W w.heap.size 52 s.cells) ∧ Below w.heap.size w W) (fun _ i _ => s.n_.l.length - (intOf i).toNat)
 case atStart => exact ⟨0, Nat.zero_le _, rfl, zI (ownNone _ _ _ _), HK1, HB1.out⟩
 case round =>
  obtain ⟨k, hk, rfl, HO, HK, hB⟩ := hrel
  obtain ⟨Av, cv, hv, _, _, _, _⟩ := ownAny HO.out
  subst hv
  have hs1 := hB.size
  have hlk : ((s.n_.l.take k).map Mna.p_).length = k := by rw [List.length_map, List.length_take]; omega
  by_cases hlt : k < s.n_.l.length
  · obtain ⟨y, hy⟩ : ∃ y, s.n_.l[k]? = some y := ⟨_, qZa hlt⟩
    obtain ⟨b, off, hA, hb, hc⟩ := Rd.elem (cells := Mna.cells) (n := 5) (fun _ => rfl) (by omega) (HS.out.sn.below hB) hy
    rw [hA]
    have c0 : wr.cell? ⟨b, off + k * 5, none⟩ = some (.string y.x_) := hc 0 _ rfl
    have c1 : wr.cell? ⟨b, off + k * 5 + 1, none⟩ = some (.int .i64 y.z_) := hc 1 _ rfl
    have c2 : wr.cell? ⟨b, off + k * 5 + 2, none⟩ = some (.slice y.p_.A y.p_.l.length y.p_.c) := hc 2 _ rfl
    have c3 : wr.cell? ⟨b, off + k * 5 + 3, none⟩ = some (.slice y.u_.A y.u_.l.length y.u_.c) := hc 3 _ rfl
    have c4 : wr.cell? ⟨b, off + k * 5 + 4, none⟩ = some (.slice y.j_.A y.j_.l.length y.j_.c) := hc 4 _ rfl
    obtain ⟨w2, hw2⟩ : ∃ w2, wr.alloc (.cells #[.string y.x_, .int .i64 y.z_, .slice y.p_.A y.p_.l.length y.p_.c, .slice y.u_.A y.u_.l.length y.u_.c, .slice y.j_.A y.j_.l.length y.j_.c] 49) = w2 := ⟨_, rfl⟩
    have hB2 : Below wr.heap.size wr w2 := hw2 ▸ (Below.refl _ wr).alloc (Nat.le_refl _) _
    have k2 : Blk w2 wr.heap.size 49 y.cells := hw2 ▸ Blk.new wr _ _
    have d2 := k2.cell 2
    simp only [gZa, gZb] at d2
    have hX2 := hB.trans (hB2.mono hs1)
    have hs2 := hX2.size
    have HO2 := zI (zgQ HO.out hB2 (Nat.le_refl _))
    have HW2 := zI hw2
    have HM : Hid ((s.n_.l.take (k + 1)).map Mna.p_ = (s.n_.l.take k).map Mna.p_ ++ [y.p_]) := zI (by rw [List.take_add_one, hy, List.map_append]; rfl)
    generalize hM : (s.n_.l.take k).map Mna.p_ = M at *
    subst hlk
    clear hc hy hw2 k2 HO
    go_wp2_with (first | rw [HW2.out] | (at_builtin; refine wpAppendK rfl rfl Tryz.underlying211 slC (fun _ => rfl) (by decide) slC_one infoLB rfl hX2 hs2 HO2.out y.p_ rfl rfl (by unfold maxLen; omega) (by omega) ?_; intro g6 c6 x6 HO6 HB6 HK6))
    have HKx : Hid (Blk x6 w.heap.size 52 s.cells) := zI ((HK6.out _ _ _ (HK.out.below hB2 HK.out.lt) (by decide)).trans (HK.out.below hB2 HK.out.lt))
    go_roundw
    case rel =>
     refine ⟨M.length + 1, by omega, by go_num, ?_, HKx, HB6.out⟩
     rw [HM.out]
     exact zI (by simpa using HO6.out)
    case measure => simp [intOf]; omega
  · have hke : s.n_.l.take k = s.n_.l := List.take_of_length_le (by omega)
    obtain rfl : k = s.n_.l.length := by omega
    rw [hke] at HO ⊢
    have hM : (lineM s) = s.n_.l.map Mna.p_ ++ [s.p_] := rfl
    have hlM : (s.n_.l.map Mna.p_).length = s.n_.l.length := by simp
    have HMM := zI hM
    generalize s.n_.l.map Mna.p_ = M at *
    have z2 := HK.out.cell 2
    simp only [gZa, gZb] at z2
    clear hke hM
    have hMn : M.length ≤ 4398046511104 := by omega
    go_wp2_with (at_builtin; refine wpAppendK rfl rfl Tryz.underlying211 slC (fun _ => rfl) (by decide) slC_one infoLB rfl hB hs1 HO.out s.p_ rfl rfl (by unfold maxLen; omega) (by omega) ?_; intro g6 c6 x6 HO6 HB6 HK6)
    go_ret
    rw [HMM.out, ← hlM]
    exact ⟨g6, c6, rfl, HO6.out, HB6.out⟩
theorem Oth.rd {C : Nat} {W W' : World} {g off : Nat} {vs : List Value} (h : Oth C W W') (hr : Rd W (some ⟨g, off, none⟩) vs) (hg : g ≠ C) : Rd W' (some ⟨g, off, none⟩) vs := fun hv => by
 obtain ⟨b, o, e, hb, hc⟩ := hr hv
 injection e with e
 injection e with e1 e2 _
 subst e1 e2
 refine ⟨g, off, rfl, Nat.lt_of_lt_of_le hb h.size, fun j u hu => ?_⟩
 have := hc j u hu
 unfold World.cell? at this ⊢
 rw [show W'.heap[g]? = W.heap[g]? from h.block g hb hg]
 exact this
def chgL (L : List (Sl Bk)) : Nat := chg (L.map Sl.l)
theorem charge_each (C : Nat) (s0 : Int) (g c : Nat) (L : List (Sl Bk)) (hl : L.length ≤ 8796093022208) (hb : ∀ x ∈ L, x.l.length * 24 ≤ 140737488351232) (hg : g ≠ C) (w : World) (hk : Blk w C 208 [.int .i64 (wrap64 s0)]) (hr : Rd w (some ⟨g, 0, none⟩) (L.flatMap slC)) :
 Calls Tryz.prog 200 #[.func (.func 201) #[.pointer (some ⟨C, 0, none⟩)] #[], .slice (some ⟨g, 0, none⟩) L.length c] w fun e w' => e = .returned (.tuple #[]) ∧ Blk w' C 208 [.int .i64 (wrap64 (s0 + chgL L))] ∧ Oth C w w' := by
 refine (each_inv 201 (enters_of Tryz.func201 (by kernel_rfl) rfl) (.pointer (some ⟨C, 0, none⟩)) (some ⟨g, 0, none⟩) c L hl (fun k W => Blk W C 208 [.int .i64 (wrap64 (s0 + chgL (L.take k)))] ∧ Oth C w W) w ?_ ?_ ?_).mono ?_
 · exact ⟨by simpa [chgL, chg] using hk, Oth.refl _ _⟩
 · rintro k W _ ⟨_, ho⟩
   exact ho.rd hr hg
 · rintro k x W hx ⟨hkb, ho⟩
   have hn := hb x (mG hx)
   refine (chargeTake_any C _ x.A x.c x.l.length (by omega) W hkb).mono ?_
   rintro e W' ⟨rfl, hk', ho'⟩
   refine ⟨rfl, ?_, ho.trans ho'⟩
   have e1 : chgL (L.take (k + 1)) = chgL (L.take k) + (1 + x.l.length) := by
    unfold chgL
    rw [List.map_take, List.map_take]
    exact chg_take (by rw [List.getElem?_map, hx]; rfl)
   rw [e1, show (s0 + ((chgL (L.take k) + (1 + x.l.length) : Nat) : Int)) = (s0 + chgL (L.take k)) + (1 + (x.l.length : Int)) by omega, ← w64_add]
   exact hk'
 · rintro e w' ⟨rfl, hk', ho⟩
   rw [List.take_length] at hk'
   exact ⟨rfl, hk', ho⟩
def setC (s : MSet) : Nat := chgL (lineM s)
end Go.Proofs.YtimmcmjipmkebaaGreat
