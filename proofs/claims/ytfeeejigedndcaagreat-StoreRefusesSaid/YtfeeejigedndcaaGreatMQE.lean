/-
  A store in memory; what its sectors are; Collect; Check. Conditions: the lists are as they come in, an index of less than 2^44 sectors.
-/
import Derived.Test.YtfeeejigedndcaaGreatMQD
import Derived.Test.YtfeeejigedndcaaGreatMDVA
import Derived.Test.YtfeeejigedndcaaGreatMUM
import Derived.Test.YtfeeejigedndcaaGreatMGB
import Derived.Test.YtfeeejigedndcaaGreatMSM
import Derived.Test.YtfeeejigedndcaaGreatMRL
namespace Go.Proofs.YtfeeejigedndcaaGreat
open Go.ChangeShapes Go.WideShapes Go.ChangeAt Go.RowKit
set_option maxRecDepth 100000

/-- A store, plainly. -/
structure PS where
  dev : DS
  u : Ub
  os : List PO
  ix : List Int
def PS.secs (s : PS) : List Int := s.os.flatMap (·.at_) ++ s.ix
structure PS.ok (s : PS) : Prop where
  dev : s.dev.ok
  waits : s.dev.waits = []
  u : s.u.ok = true
  n : (s.os.length : Int) = s.u.o
  os : objE s.os = 0
  at_ : ∀ o ∈ s.os, o.at_.length = cntN o.data.length
  secs : chk s.dev.secs.length s.secs = 0

/-- A store in memory. -/
structure St where
  dev : Dv
  u : Ub
  O : Option Addr
  os : List Ob
  oc : Nat
  I : Option Addr
  is : List Int
  ic : Nat
abbrev stval (A : Option Addr) (n c : Nat) (B : Option Addr) (m d : Nat) (t f o : Int) (O : Option Addr) (k e : Nat) (I : Option Addr) (j g : Nat) : Value := .agg #[.slice A n c, .slice B m d, .int .i64 t, .int .i64 f, .int .i64 o, .slice O k e, .slice I j g]
abbrev St.val (s : St) : Value := stval s.dev.A s.dev.ps.length s.dev.c s.dev.B s.dev.ws.length s.dev.d s.u.t s.u.f s.u.o s.O s.os.length s.oc s.I s.is.length s.ic
abbrev stcells (A : Option Addr) (n c : Nat) (B : Option Addr) (m d : Nat) (t f o : Int) (O : Option Addr) (k e : Nat) (I : Option Addr) (j g : Nat) : List Value := [.slice A n c, .slice B m d, .int .i64 t, .int .i64 f, .int .i64 o, .slice O k e, .slice I j g]
def St.st (s : St) : PS := ⟨s.dev.st, s.u, s.os.map Ob.st, s.is⟩
/-- It lies so, from block n on. -/
structure St.Lies (n : Nat) (W : World) (s : St) : Prop where
  dev : s.dev.Lies n W
  arr : RdF n W s.O (obCells s.os)
  data : ∀ o ∈ s.os, RdF n W o.d.A (octCells o.d.zs)
  at_ : ∀ o ∈ s.os, RdF n W o.B (ints o.ns)
  ix : RdF n W s.I (ints s.is)
theorem St.Lies.below {n : Nat} {W W' : World} {s : St} (h : s.Lies n W) (hb : Below W.heap.size W W') : s.Lies n W' :=
  ⟨h.dev.below hb, h.arr.below hb, fun o ho => (h.data o ho).below hb, fun o ho => (h.at_ o ho).below hb, h.ix.below hb⟩
theorem St.Lies.mono {n n' : Nat} {W : World} {s : St} (h : s.Lies n W) (hn : n' ≤ n) : s.Lies n' W :=
  ⟨h.dev.mono hn, h.arr.mono hn, fun o ho => (h.data o ho).mono hn, fun o ho => (h.at_ o ho).mono hn, h.ix.mono hn⟩
theorem St.Lies.stays {n : Nat} {W W' : World} {s : St} (h : s.Lies n W) (hs : W.heap.size ≤ W'.heap.size) (hk : ∀ k, n ≤ k → k < W.heap.size → W'.heap[k]? = W.heap[k]?) : s.Lies n W' :=
  ⟨h.dev.stays hs hk, h.arr.stays hs hk, fun o ho => (h.data o ho).stays hs hk, fun o ho => (h.at_ o ho).stays hs hk, h.ix.stays hs hk⟩
/-- Its lengths are a machine's. -/
structure St.Fits (s : St) : Prop where
  dev : s.dev.Fits
  n : s.os.length ≤ 4398046511104
  os : ∀ o ∈ s.os, o.Fits
  ix : s.is.length ≤ 17592186043904

theorem flat_st (os : List Ob) : (os.map Ob.st).flatMap (·.at_) = flatNs os := by simp [flatNs, List.flatMap_map]
theorem st_secs (s : St) : s.st.secs = flatNs s.os ++ s.is := by unfold PS.secs St.st; rw [flat_st]

theorem collect_any (m Bn : Nat) (O : Option Addr) (os : List Ob) (oc : Nat) (I : Option Addr) (is : List Int) (ic : Nat) (hol : os.length ≤ 4398046511104) (hnl : ∀ o ∈ os, o.ns.length ≤ 17592186044416) (hil : is.length ≤ 17592186044416)
    (htot : (flatNs os ++ is).length ≤ 17592200000000) (w : World) (hm : m ≤ w.heap.size) (hS : SecIn m Bn O os oc I is ic w) :
    Calls Tryz.prog 44 #[.func (.func 67) #[] #[.pointer (some ⟨Bn, 0, none⟩)]] w fun e w' => ∃ v, e = .returned v ∧ w'.ownsRow w.heap.size 3 1 v (flatNs os ++ is).length (ints (flatNs os ++ is)) ∧ Below w.heap.size w w' := by
  have HA := Lib.hid (appendSeq_any m Bn O os oc I is ic hol hnl hil htot w hm hS)
  clear hS
  go_enter Tryz.func44, Tryz.ntmps44
  go_wp2_with fail
  refine HA.out.mono ?_
  rintro e w1 ⟨v, rfl, hown, hB⟩
  have HO := Lib.hid hown
  clear hown
  go_wp2
  go_ret
  exact ⟨v, rfl, HO.out, hB⟩

theorem sectors_any (A : Option Addr) (n c : Nat) (B : Option Addr) (m d : Nat) (t f o : Int) (O : Option Addr) (k e : Nat) (I : Option Addr) (j g : Nat) (w : World) :
    Calls Tryz.prog 32 #[stval A n c B m d t f o O k e I j g] w fun x w' => x = .returned (.func (.func 67) #[] #[.pointer (some ⟨w.heap.size, 0, none⟩)]) ∧ w' = w.alloc (.cells (stcells A n c B m d t f o O k e I j g).toArray 32) := by
  have hmf : ∀ (fn : Fn) (first cap : Array Value) (w : World), (Instr.makeFunc fn first cap).run Tryz.prog w = .ok (.func fn first cap) w := fun _ _ _ _ => rfl
  go_enter Tryz.func32, Tryz.ntmps32
  go_wp2
  go_ret
  exact ⟨rfl, rfl⟩

/-- The cells of a box of seven. -/
theorem blk7 {W : World} {g : Nat} {T : TypeId} {a b c d e f h : Value} (k : Blk W g T [a, b, c, d, e, f, h]) : W.cell? ⟨g, 0, none⟩ = some a ∧ W.cell? ⟨g, 1, none⟩ = some b ∧ W.cell? ⟨g, 2, none⟩ = some c ∧ W.cell? ⟨g, 3, none⟩ = some d ∧ W.cell? ⟨g, 4, none⟩ = some e ∧ W.cell? ⟨g, 5, none⟩ = some f ∧ W.cell? ⟨g, 6, none⟩ = some h :=
  ⟨k.cell 0, k.cell 1, k.cell 2, k.cell 3, k.cell 4, k.cell 5, k.cell 6⟩

set_option maxHeartbeats 1000000 in
theorem storeCheck_any (s : St) (hf : s.Fits) (w : World) (hL : s.Lies 0 w) :
    Calls Tryz.prog 20 #[s.val] w fun e w' => ∃ r : Int, e = .returned (.int .i64 r) ∧ (r = 0 ∧ s.st.ok ∨ r = 9 ∧ ¬ s.st.ok) ∧ Below w.heap.size w w' := by
  have HD := Lib.hid (fun w h1 h2 => devCheck_any s.dev hf.dev w h1 h2)
  have HU := Lib.hid (uberCheck_any s.u)
  have HOB := Lib.hid (fun w h => checkObjects_any s.O s.oc s.os hf.n (fun o ho => ⟨(hf.os o ho).k, (hf.os o ho).d⟩) w h)
  have HF := Lib.hid hf
  have HL := Lib.hid hL
  have HOK : Hid (∀ b : Prop, b → b) := Lib.hid fun _ h => h
  obtain ⟨Q, hQ⟩ : ∃ Q : Prop, s.st.ok = Q := ⟨_, rfl⟩
  rw [hQ]
  have HQ := Lib.hid hQ
  have hn := hf.n
  have hn2 := hf.ix
  clear hQ hf hL HOK
  obtain ⟨⟨A, ps, c, B, ws, d⟩, ⟨t, f, o⟩, O, os, oc, I, is, ic⟩ := s
  dsimp only [St.val, Dv.val, dval, Ub.val] at *
  generalize hnw : ws.length = nw at *
  have HNW := Lib.hid hnw
  clear hnw
  have kx : Blk (w.alloc (.cells #[.slice A ps.length c, .slice B nw d, .int .i64 t, .int .i64 f, .int .i64 o, .slice O os.length oc, .slice I is.length ic] 32)) w.heap.size 32 (stcells A ps.length c B nw d t f o O os.length oc I is.length ic) := Blk.new w _ _
  have hB1 : Below w.heap.size w (w.alloc (.cells #[.slice A ps.length c, .slice B nw d, .int .i64 t, .int .i64 f, .int .i64 o, .slice O os.length oc, .slice I is.length ic] 32)) := (Below.refl _ w).alloc (Nat.le_refl _) _
  obtain ⟨w1, hw1⟩ : ∃ w1, w.alloc (.cells #[.slice A ps.length c, .slice B nw d, .int .i64 t, .int .i64 f, .int .i64 o, .slice O os.length oc, .slice I is.length ic] 32) = w1 := ⟨_, rfl⟩
  rw [hw1] at kx hB1
  have HL1 := Lib.hid (HL.out.below hB1)
  have HK := Lib.hid kx
  have HW1 := Lib.hid hw1
  obtain ⟨hc0, hc1, hc2, hc3, hc4, hc5, hc6⟩ := blk7 kx
  clear HL kx hw1
  have hdv : ∀ W, Below w1.heap.size w1 W → Rd W A (ptCells ps) ∧ Rd W B (wtCells ws) := fun W hB => ⟨(HL1.out.dev.secs.below hB).1, (HL1.out.dev.waits.below hB).1⟩
  have HDV := Lib.hid hdv
  have hcells : ∀ W, Below w1.heap.size w1 W → Blk W w.heap.size 32 (stcells A ps.length c B nw d t f o O os.length oc I is.length ic) := fun W hB => HK.out.below hB HK.out.lt
  have HCE := Lib.hid hcells
  clear hdv hcells
  go_enter Tryz.func20, Tryz.ntmps20
  go_wp2_with fail
  rw [HW1.out]
  refine (HD.out w1 (HDV.out _ (Below.refl _ _)).1 (HDV.out _ (Below.refl _ _)).2).mono ?_
  rintro e w2 ⟨r, rfl, hr, hB2⟩
  have hB12 : Below w.heap.size w w2 := hB1.trans (hB2.mono hB1.size)
  obtain ⟨hc0, hc1, hc2, hc3, hc4, hc5, hc6⟩ := blk7 (HCE.out w2 hB2)
  rcases hr with ⟨rfl, hok⟩ | ⟨rfl, hno⟩
  rotate_left
  · have HN : Hid (¬ Q) := Lib.hid (by rw [← HQ.out]; exact fun h => hno h.dev)
    clear hno
    go_wp2
    go_ret
    exact ⟨9, rfl, .inr ⟨rfl, HN.out⟩, hB12⟩
  have HDO := Lib.hid hok
  clear hok
  by_cases hw0 : (0 : Int) < nw
  · have HN : Hid (¬ Q) := Lib.hid (by rw [← HQ.out]; exact fun h => by have := congrArg List.length h.waits; simp [St.st, Dv.st] at this; have h0 := HNW.out; subst this; exact absurd (show nw = 0 from h0.symm) (by omega))
    clear HDO
    go_wp2
    go_ret
    exact ⟨9, rfl, .inr ⟨rfl, HN.out⟩, hB12⟩
  obtain rfl : nw = 0 := by omega
  have HW0 : Hid (ws = []) := Lib.hid (List.length_eq_zero_iff.1 HNW.out)
  go_wp2_with fail
  refine (HU.out w2).mono ?_
  rintro e w3 ⟨rfl, hB3⟩
  have hB23 := hB2.trans (hB3.mono hB2.size)
  have hB13 : Below w.heap.size w w3 := hB1.trans (hB23.mono hB1.size)
  obtain ⟨hc0, hc1, hc2, hc3, hc4, hc5, hc6⟩ := blk7 (HCE.out w3 hB23)
  by_cases hu : (Ub.mk t f o).ok = true
  rotate_left
  · have HN : Hid (¬ Q) := Lib.hid (by rw [← HQ.out]; exact fun h => hu h.u)
    have hue := Ub.err_no (by simpa using hu)
    rw [hue]
    clear hu hue HDO
    go_wp2
    go_ret
    exact ⟨9, rfl, .inr ⟨rfl, HN.out⟩, hB13⟩
  have hue := Ub.err_ok hu
  rw [hue]
  have HUO := Lib.hid hu
  clear hue hu
  by_cases hno : (os.length : Int) = o
  rotate_left
  · have HN : Hid (¬ Q) := Lib.hid (by rw [← HQ.out]; exact fun h => hno (by have := h.n; simpa [St.st] using this))
    clear HDO
    go_wp2
    go_ret
    exact ⟨9, rfl, .inr ⟨rfl, HN.out⟩, hB13⟩
  go_wp2_with fail
  refine (HOB.out w3 (HL1.out.arr.below hB23).1).mono ?_
  rintro e w4 ⟨rfl, hB4⟩
  have hB24 := hB23.trans (hB4.mono hB23.size)
  have hB14 : Below w.heap.size w w4 := hB1.trans (hB24.mono hB1.size)
  obtain ⟨hc0, hc1, hc2, hc3, hc4, hc5, hc6⟩ := blk7 (HCE.out w4 hB24)
  by_cases hobj : objE (os.map Ob.st) = 0
  rotate_left
  · have HN : Hid (¬ Q) := Lib.hid (by rw [← HQ.out]; exact fun h => hobj h.os)
    clear HDO
    go_wp2
    go_ret
    exact ⟨9, rfl, .inr ⟨rfl, HN.out⟩, hB14⟩
  rw [hobj]
  have HOJ := Lib.hid hobj
  clear hobj
  have hB5 : Hid (is.length ≤ 17592186043904) := Lib.hid hn2
  go_wp2
  go_loopw [38] (fun i W => ∃ k : Nat, k ≤ os.length ∧ i = .int .i64 k ∧ Hid (∀ o ∈ os.take k, o.ns.length = cntN o.d.zs.length) ∧ Below w4.heap.size w4 W) (fun i _ => os.length - (intOf i).toNat)
  case atStart => exact ⟨0, Nat.zero_le _, rfl, Lib.hid (by simp), Below.refl _ _⟩
  case round =>
    obtain ⟨k, hk, rfl, HP, hB5'⟩ := hrel
    have hB25 := hB24.trans (hB5'.mono hB24.size)
    have hB15 : Below w.heap.size w wr := hB1.trans (hB25.mono hB1.size)
    obtain ⟨hc0, hc1, hc2, hc3, hc4, hc5, hc6⟩ := blk7 (HCE.out wr hB25)
    by_cases hlt : k < os.length
    · obtain ⟨x, hx⟩ : ∃ x, os[k]? = some x := ⟨_, List.getElem?_eq_getElem hlt⟩
      obtain ⟨b, off, rfl, hb, hk0, hk1, hk2⟩ := (HL1.out.arr.below hB25).1.ob hx
      have hxf := HF.out.os x (List.mem_of_getElem? hx)
      have hxd := hxf.d
      have hxn := hxf.n
      have hB6 : Below w4.heap.size w4 (wr.alloc (.cells #[.string x.key, x.d.val, .slice x.B x.ns.length x.e] 58)) := hB5'.alloc hB5'.size _
      have hB26 := hB24.trans (hB6.mono hB24.size)
      have hB16 : Below w.heap.size w (wr.alloc (.cells #[.string x.key, x.d.val, .slice x.B x.ns.length x.e] 58)) := hB1.trans (hB26.mono hB1.size)
      have HCO : Hid (∀ w, Calls Tryz.prog 42 #[.int .i64 (x.d.zs.length : Int)] w fun e w' => e = .returned (.int .i64 (cntI (x.d.zs.length : Int))) ∧ w' = w) := Lib.hid (fun w => (count_any (x.d.zs.length : Int) (by omega) w).mono fun _ _ h => ⟨h.1, h.2.symm⟩)
      have HNX : Hid (x.ns.length = cntN x.d.zs.length → ∀ o ∈ os.take (k + 1), o.ns.length = cntN o.d.zs.length) := Lib.hid fun h o ho => by
        rw [List.take_add_one, hx] at ho
        rcases List.mem_append.1 ho with ho | ho
        · exact HP.out o ho
        · simp at ho; subst ho; exact h
      have HNQ : Hid (¬ x.ns.length = cntN x.d.zs.length → ¬ Q) := Lib.hid fun h => by
        rw [← HQ.out]
        intro hq
        exact h (hq.at_ x.st (List.mem_map.2 ⟨x, List.mem_of_getElem? hx, rfl⟩))
      clear hx hxf HP
      have hcI : cntI (x.d.zs.length : Int) = (cntN x.d.zs.length : Nat) := cntI_nat _
      obtain ⟨key, ⟨dA, dz, dc⟩, oB, ns, oe⟩ := x
      dsimp only at *
      rw [hcI] at HCO
      clear hcI
      generalize hcl : cntN dz.length = cl at *
      generalize hnl' : ns.length = nl at *
      have HCLX := Lib.hid hcl
      have HNLX := Lib.hid hnl'
      clear hcl hnl'
      obtain ⟨w6, hw6⟩ : ∃ w6, wr.alloc (.cells #[.string key, .slice dA dz.length dc, .slice oB nl oe] 58) = w6 := ⟨_, rfl⟩
      rw [hw6] at hB6 hB26 hB16
      have hk6 : Blk w6 wr.heap.size 58 [.string key, .slice dA dz.length dc, .slice oB nl oe] := hw6 ▸ Blk.new wr _ _
      have hx0 := hk6.cell 0
      have hx1 := hk6.cell 1
      have hx2 := hk6.cell 2
      simp only [List.getElem?_cons_zero, List.getElem?_cons_succ] at hx0 hx1 hx2
      have HW6 := Lib.hid hw6
      clear hw6 hk6
      by_cases heq : nl = cl
      · have hP' := Lib.hid (HNX.out heq)
        subst heq
        clear HNX HNQ
        go_wp2
        rw [HW6.out]
        go_big_quiet ((go_at_call 42; exact Calls.quiet_of_same (HCO.out _)))
        go_wp2
        go_round
        case rel => exact ⟨k + 1, by omega, by go_num, hP', hB6.trans (below_drewN _ _ _)⟩
        case measure => simp [intOf]; omega
      · have HN := Lib.hid (HNQ.out heq)
        have heq' : ¬ (nl : Int) = (cl : Int) := by omega
        clear HNX HNQ
        go_wp2
        rw [HW6.out]
        go_big_quiet ((go_at_call 42; exact Calls.quiet_of_same (HCO.out _)))
        go_wp2
        go_ret
        exact ⟨9, rfl, .inr ⟨rfl, HN.out⟩, hB16.trans (below_drewN _ _ _)⟩
    · obtain rfl : k = os.length := by omega
      have HP' : Hid (∀ o ∈ os, o.ns.length = cntN o.d.zs.length) := Lib.hid (by simpa using HP.out)
      clear HP
      have hflat : (flatNs os).length ≤ 1261 * os.length := by
        have hob := HOJ.out
        have hd : ∀ o ∈ os, o.d.zs.length ≤ 65536 := fun o ho => by
          unfold objE at hob
          split at hob
          · cases hob
          · split at hob
            · cases hob
            · split at hob
              · rename_i h
                rw [List.all_eq_true] at h
                simpa using h o.st (List.mem_map.2 ⟨o, ho, rfl⟩)
              · cases hob
        have hn : ∀ o ∈ os, o.ns.length ≤ 1261 := fun o ho => by
          rw [HP'.out o ho]
          have := hd o ho
          unfold cntN
          omega
        clear hob hd
        have HH : ∀ l : List Ob, (∀ o ∈ l, o.ns.length ≤ 1261) → (flatNs l).length ≤ 1261 * l.length := by
          intro l
          induction l with
          | nil => intro _; simp [flatNs]
          | cons x l ih =>
            intro h
            have h1 := h x (by simp)
            have h2 := ih fun o ho => h o (by simp [ho])
            simp only [flatNs, List.flatMap_cons, List.length_append, List.length_cons] at h2 ⊢
            omega
        exact HH os hn
      have ho256 : os.length ≤ 256 := by
        have hob := HOJ.out
        unfold objE at hob
        split at hob
        · cases hob
        · rename_i h; simp at h; omega
      have htot : (flatNs os ++ is).length ≤ 17592200000000 := by rw [List.length_append]; omega
      have hil : is.length ≤ 17592186044416 := by omega
      have hnl : ∀ o ∈ os, o.ns.length ≤ 17592186044416 := fun o ho => (HF.out.os o ho).n
      have HCL : Hid (∀ W, Below w1.heap.size w1 W → ∀ W', W' = W.alloc (.cells #[.slice A ps.length c, .slice B 0 d, .int .i64 t, .int .i64 f, .int .i64 o, .slice O os.length oc, .slice I is.length ic] 32) → Calls Tryz.prog 44 #[.func (.func 67) #[] #[.pointer (some ⟨W.heap.size, 0, none⟩)]] W' fun e w' => ∃ v, e = .returned v ∧ w'.ownsRow W'.heap.size 3 1 v (flatNs os ++ is).length (ints (flatNs os ++ is)) ∧ Below W'.heap.size W' w') := Lib.hid fun W hB W' hW' => by
        have hk : Blk W' W.heap.size 32 [.slice A ps.length c, .slice B 0 d, .int .i64 t, .int .i64 f, .int .i64 o, .slice O os.length oc, .slice I is.length ic] := hW' ▸ Blk.new W _ _
        obtain ⟨_, _, _, _, _, h5, h6⟩ := blk7 hk
        have hL' := (HL1.out.below hB).below (W' := W') (hW' ▸ (Below.refl _ W).alloc (Nat.le_refl _) _)
        have hsz : W.heap.size < W'.heap.size := hk.lt
        exact collect_any W'.heap.size W.heap.size O os oc I is ic hn hnl hil htot W' (Nat.le_refl _) ⟨hsz, h5, h6, RdU.of hL'.arr.1 (Nat.le_refl _), fun o ho => RdU.of (hL'.at_ o ho).1 (Nat.le_refl _), RdU.of hL'.ix.1 (Nat.le_refl _)⟩
      have HTOT := Lib.hid htot
      have hS0 : Hid (∀ W, Below w1.heap.size w1 W → W.cell? ⟨w.heap.size, 0, none⟩ = some (.slice A ps.length c) ∧ W.cell? ⟨w.heap.size, 1, none⟩ = some (.slice B 0 d) ∧ W.cell? ⟨w.heap.size, 2, none⟩ = some (.int .i64 t) ∧ W.cell? ⟨w.heap.size, 3, none⟩ = some (.int .i64 f) ∧ W.cell? ⟨w.heap.size, 4, none⟩ = some (.int .i64 o) ∧ W.cell? ⟨w.heap.size, 5, none⟩ = some (.slice O os.length oc) ∧ W.cell? ⟨w.heap.size, 6, none⟩ = some (.slice I is.length ic)) := Lib.hid fun W hB => blk7 (HCE.out W hB)
      clear hflat htot hnl hil
      go_wp2
      refine wp_region_noPanic ?_
      refine wp_region_last 7 (fun W => W.cell? ⟨w.heap.size, 0, none⟩ = some (.slice A ps.length c) ∧ W.cell? ⟨w.heap.size, 1, none⟩ = some (.slice B 0 d) ∧ W.cell? ⟨w.heap.size, 2, none⟩ = some (.int .i64 t) ∧ W.cell? ⟨w.heap.size, 3, none⟩ = some (.int .i64 f) ∧ W.cell? ⟨w.heap.size, 4, none⟩ = some (.int .i64 o) ∧ W.cell? ⟨w.heap.size, 5, none⟩ = some (.slice O os.length oc) ∧ W.cell? ⟨w.heap.size, 6, none⟩ = some (.slice I is.length ic)) (by kernel_rfl) (hS0.out _ hB25.drew) (fun hHeld => ?_)
      refine wpAnyL_take 12 (i := 0) (oi := ⟨some 51, _, _, _, _, _⟩) (v := ?_) rfl (by kernel_rfl) (by kernel_rfl) (by kernel_rfl) (by kernel_rfl) (by kernel_rfl) (by kernel_rfl) (by kernel_rfl) (fun _ _ _ h => h) (Or.inl ⟨by rfl, ?_⟩) hHeld ?_
      rotate_left
      focus (intro w hSw; (try dsimp only at hSw); go_simp; try (with_reducible rfl))
      try simp only [Act.put, List.setIfInBounds_toArray, List.set_cons_zero, List.set_cons_succ]
      refine wpAnyL_take 12 (i := 1) (oi := ⟨some 52, _, _, _, _, _⟩) (v := ?_) rfl (by kernel_rfl) (by kernel_rfl) (by kernel_rfl) (by kernel_rfl) (by kernel_rfl) (by kernel_rfl) (by kernel_rfl) (fun _ _ _ h => h) (Or.inl ⟨by rfl, ?_⟩) hHeld ?_
      rotate_left
      focus (intro w hSw; (try dsimp only at hSw); go_simp; try (with_reducible rfl))
      try simp only [Act.put, List.setIfInBounds_toArray, List.set_cons_zero, List.set_cons_succ]
      refine wpAnyL_take 12 (i := 2) (oi := ⟨some 53, _, _, _, _, _⟩) (v := ?_) rfl (by kernel_rfl) (by kernel_rfl) (by kernel_rfl) (by kernel_rfl) (by kernel_rfl) (by kernel_rfl) (by kernel_rfl) (fun _ _ _ h => h) (Or.inl ⟨by rfl, ?_⟩) hHeld ?_
      rotate_left
      focus (intro w hSw; (try dsimp only at hSw); go_simp; try (with_reducible rfl))
      try simp only [Act.put, List.setIfInBounds_toArray, List.set_cons_zero, List.set_cons_succ]
      refine wpAnyL_take 12 (i := 3) (oi := ⟨some 54, _, _, _, _, _⟩) (v := ?_) rfl (by kernel_rfl) (by kernel_rfl) (by kernel_rfl) (by kernel_rfl) (by kernel_rfl) (by kernel_rfl) (by kernel_rfl) (fun _ _ _ h => h) (Or.inl ⟨by rfl, ?_⟩) hHeld ?_
      rotate_left
      focus (intro w hSw; (try dsimp only at hSw); go_simp; try (with_reducible rfl))
      try simp only [Act.put, List.setIfInBounds_toArray, List.set_cons_zero, List.set_cons_succ]
      refine wpAnyL_take 12 (i := 4) (oi := ⟨some 55, _, _, _, _, _⟩) (v := ?_) rfl (by kernel_rfl) (by kernel_rfl) (by kernel_rfl) (by kernel_rfl) (by kernel_rfl) (by kernel_rfl) (by kernel_rfl) (fun _ _ _ h => h) (Or.inl ⟨by rfl, ?_⟩) hHeld ?_
      rotate_left
      focus (intro w hSw; (try dsimp only at hSw); go_simp; try (with_reducible rfl))
      try simp only [Act.put, List.setIfInBounds_toArray, List.set_cons_zero, List.set_cons_succ]
      refine wpAnyL_one (i := 5) (o := ⟨some 56, _, _, _, _, _⟩) (by kernel_rfl) rfl (fun K hK => ?_)
      clear hHeld
      go_simp
      go_at_call 32
      refine (sectors_any _ _ _ _ _ _ _ _ _ _ _ _ _ _ _ _).mono ?_
      rintro e w6 ⟨rfl, hw6⟩
      have hBd : Below w1.heap.size w1 wr.drew := hB25.drew
      have hB6 : Below wr.drew.heap.size wr.drew w6 := hw6 ▸ (Below.refl _ _).alloc (Nat.le_refl _) _
      have hB26 := hBd.trans (hB6.mono hBd.size)
      have HCL6 := Lib.hid (HCL.out _ hBd _ hw6)
      clear hw6
      go_wp2_with fail
      refine hK.out _ _ (hS0.out _ hB26) (fun hHeld => ?_)
      clear hK K
      try simp only [Act.put, List.setIfInBounds_toArray, List.set_cons_zero, List.set_cons_succ]
      refine wpAnyL_one (i := 6) (o := ⟨some 57, _, _, _, _, _⟩) (by kernel_rfl) rfl (fun K hK => ?_)
      clear hHeld
      go_simp
      go_at_call 44
      refine HCL6.out.mono ?_
      rintro e w7 ⟨v, rfl, hown7, hB7⟩
      have hB27 := hB26.trans (hB7.mono hB26.size)
      have HO7 := Lib.hid hown7
      clear hown7
      go_wp2_with fail
      refine hK.out _ _ (hS0.out _ hB27) (fun hHeld => ?_)
      clear hK K
      try simp only [Act.put, List.setIfInBounds_toArray, List.set_cons_zero, List.set_cons_succ]
      refine wpAnyL_last (i := 7) (o := ⟨some 58, _, _, _, _, _⟩) (by kernel_rfl) rfl (by kernel_rfl) (fun K hK => ?_)
      clear hHeld
      go_simp
      go_at_call 43
      obtain ⟨A7, c7, rfl, _, _, hr7, _⟩ := own_any HO7.out
      have h58 := spaceCheck_any (ps.length : Int) A7 c7 (flatNs os ++ is) HTOT.out w7 hr7.1
      refine h58.mono ?_
      rintro e w8 ⟨rfl, hB8⟩
      have hB28 := hB27.trans (hB8.mono hB27.size)
      clear h58 hr7
      go_wp2_with fail
      refine hK.out _ _ ?_
      clear hK K
      try simp only [Act.put, List.setIfInBounds_toArray, List.set_cons_zero, List.set_cons_succ]
      refine wpAnyL_takeW (i := 8) (oi := ⟨some 59, _, _, _, _, _⟩) (v := ?_) rfl (by kernel_rfl) (by kernel_rfl) (by kernel_rfl) (by kernel_rfl) (fun _ _ _ h => h) (Or.inl ⟨by rfl, ?_⟩) (.inl (by kernel_rfl)) ?_
      rotate_left
      focus (intro w hSw; (try dsimp only at hSw); go_simp; try (with_reducible rfl))
      try simp only [Act.put, List.setIfInBounds_toArray, List.set_cons_zero, List.set_cons_succ]
      refine wpAnyL_done (by kernel_rfl) ?_ _
      refine NoPanic.normal ?_
      have hB18 : Below w.heap.size w w8 := hB1.trans (hB28.mono hB1.size)
      have hsec : (St.mk ⟨A, ps, c, B, ws, d⟩ ⟨t, f, o⟩ O os oc I is ic).st.secs = flatNs os ++ is := st_secs _
      have hdl : (St.mk ⟨A, ps, c, B, ws, d⟩ ⟨t, f, o⟩ O os oc I is ic).st.dev.secs.length = ps.length := by simp [St.st, Dv.st]
      by_cases hch : chk (ps.length : Int) (flatNs os ++ is) = 0
      · have HN : Hid Q := Lib.hid (by
          rw [← HQ.out]
          refine ⟨HDO.out, ?_, HUO.out, ?_, HOJ.out, ?_, ?_⟩
          · simp [St.st, Dv.st, HW0.out]
          · simpa [St.st] using hno
          · intro p hp
            obtain ⟨x, hx, rfl⟩ := List.mem_map.1 hp
            exact HP'.out x hx
          · rw [hsec, hdl]; exact hch)
        rw [hch]
        clear hsec hdl
        go_wp2
        go_ret
        exact ⟨0, rfl, .inl ⟨rfl, HN.out⟩, hB18⟩
      · have HN : Hid (¬ Q) := Lib.hid (by rw [← HQ.out]; exact fun h => hch (by have := h.secs; rw [hsec, hdl] at this; exact this))
        clear hsec hdl
        go_wp2
        go_ret
        exact ⟨9, rfl, .inr ⟨rfl, HN.out⟩, hB18⟩

end Go.Proofs.YtfeeejigedndcaaGreat

namespace Go.Proofs.YtfeeejigedndcaaGreat
open Go.ChangeShapes Go.WideShapes Go.ChangeAt Go.RowKit
set_option maxRecDepth 100000

/-- What one object takes. -/
def one (o : PO) : Nat := 17 + o.key.size + 8 * cntN o.data.length
def sumOne (l : List PO) : Nat := (l.map one).foldr (· + ·) 0
theorem sumOne_snoc (l : List PO) (o : PO) : sumOne (l ++ [o]) = sumOne l + one o := by
  induction l with
  | nil => simp [sumOne]
  | cons x l ih => simp only [List.cons_append, sumOne, List.map_cons, List.foldr_cons] at ih ⊢; omega
/-- How long an index is. -/
def idxSize (l : List PO) : Nat := if l = [] then 0 else 2 + sumOne l

theorem size_wraps (ks cl m : Nat) (h1 : ks ≤ 1099511627776) (h2 : cl ≤ 21990232556) (h3 : m ≤ 4611686018427387904) : wrap64 ((m : Int) + wrap64 (wrap64 (wrap64 (9 + (ks : Int)) + 8) + wrap64 (8 * (cl : Int)))) = ((m + (17 + ks + 8 * cl) : Nat) : Int) := by
  rw [IntWalk.wrap64_in (9 + (ks : Int)) (by omega), IntWalk.wrap64_in (9 + (ks : Int) + 8) (by omega), IntWalk.wrap64_in (8 * (cl : Int)) (by omega), IntWalk.wrap64_in (9 + (ks : Int) + 8 + 8 * cl) (by omega), IntWalk.wrap64_in _ (by omega)]
  omega

set_option maxHeartbeats 1000000 in
theorem indexSize_any (A : Option Addr) (c : Nat) (l : List Ob) (hl : l.length ≤ 1024) (hf : ∀ o ∈ l, o.key.size ≤ 1099511627776 ∧ o.d.zs.length ≤ 1099511627776) (w : World) (hr : Rd w A (obCells l)) :
    Calls Tryz.prog 50 #[.slice A l.length c] w fun e w' => e = .returned (.int .i64 (idxSize (l.map Ob.st))) ∧ Below w.heap.size w w' := by
  by_cases h0 : l = []
  · subst h0
    clear hr
    go_enter Tryz.func50, Tryz.ntmps50
    go_wp2
    go_ret
    exact ⟨rfl, Below.refl _ _⟩
  · have hpos : 0 < l.length := List.length_pos_iff.2 h0
    have hne : ¬ (l.length : Int) = 0 := by omega
    obtain ⟨R, hR⟩ : ∃ R : Nat, 2 + sumOne (l.map Ob.st) = R := ⟨_, rfl⟩
    have hRR : idxSize (l.map Ob.st) = R := by unfold idxSize; rw [if_neg (by simpa using h0)]; exact hR
    rw [hRR]
    obtain ⟨n, hn⟩ : ∃ n, l.length = n := ⟨_, rfl⟩
    rw [hn] at hl hpos hne ⊢
    have HN := Lib.hid hn
    have HR := Lib.hid hR
    clear hRR h0 hR hn
    go_enter Tryz.func50, Tryz.ntmps50
    go_wp2
    go_loopw [3, 11] (fun s i W => ∃ k m : Nat, k ≤ n ∧ i = .int .i64 k ∧ s = .int .i64 m ∧ Hid (2 + sumOne ((l.take k).map Ob.st) = m) ∧ m ≤ 2 + 2199023255552 * k ∧ Below w.heap.size w W) (fun _ i _ => n - (intOf i).toNat)
    case atStart => exact ⟨0, 2, Nat.zero_le _, rfl, rfl, Lib.hid rfl, by omega, Below.refl _ _⟩
    case round =>
      obtain ⟨k, m, hk, rfl, rfl, HM, hm, hB⟩ := hrel
      by_cases hlt : k < n
      · obtain ⟨x, hx⟩ : ∃ x, l[k]? = some x := ⟨l[k]'(by rw [HN.out]; exact hlt), List.getElem?_eq_getElem _⟩
        obtain ⟨b, off, rfl, hb, hk0, hk1, hk2⟩ := (Rd.below hr hB).ob hx
        obtain ⟨hxk, hxd⟩ := hf x (List.mem_of_getElem? hx)
        have HCO : Hid (∀ w, Calls Tryz.prog 42 #[.int .i64 (x.d.zs.length : Int)] w fun e w' => e = .returned (.int .i64 (cntN x.d.zs.length : Nat)) ∧ w' = w) := Lib.hid (fun w => (count_any (x.d.zs.length : Int) (by omega) w).mono fun _ _ h => ⟨by rw [← cntI_nat]; exact h.1, h.2.symm⟩)
        have HNX : Hid (2 + sumOne ((l.take (k + 1)).map Ob.st) = m + (17 + x.key.size + 8 * cntN x.d.zs.length)) := Lib.hid (by
          rw [List.take_add_one, hx, List.map_append]
          show 2 + sumOne (_ ++ [x.st]) = _
          rw [sumOne_snoc, ← Nat.add_assoc, HM.out]
          rfl)
        have hcb : cntN x.d.zs.length ≤ 21990232556 := by unfold cntN; omega
        obtain ⟨w6, hw6⟩ : ∃ w6, wr.alloc (.cells #[.string x.key, x.d.val, .slice x.B x.ns.length x.e] 58) = w6 := ⟨_, rfl⟩
        have hB6 : Below w.heap.size w w6 := hw6 ▸ hB.alloc hB.size _
        have hk6 : Blk w6 wr.heap.size 58 [.string x.key, x.d.val, .slice x.B x.ns.length x.e] := hw6 ▸ Blk.new wr _ _
        have hx0 := hk6.cell 0
        have hx1 := hk6.cell 1
        simp only [List.getElem?_cons_zero, List.getElem?_cons_succ] at hx0 hx1
        have HW6 := Lib.hid hw6
        clear hw6 hk6 hx HM
        obtain ⟨key, ⟨dA, dz, dc⟩, oB, ns, oe⟩ := x
        dsimp only at *
        generalize hcl : cntN dz.length = cl at *
        obtain ⟨ks, hks⟩ : ∃ ks, key.size = ks := ⟨_, rfl⟩
        rw [hks] at hxk HNX
        have HSZ := Lib.hid (size_wraps ks cl m (by omega) (by omega) (by omega))
        have HKS := Lib.hid hks
        go_wp2
        rw [HW6.out]
        go_big_quiet ((go_at_call 42; exact Calls.quiet_of_same (HCO.out _)))
        go_wp2
        go_round
        case rel => exact ⟨k + 1, m + (17 + ks + 8 * cl), by omega, by go_num, by congr 1; push_cast; omega, HNX, by omega, hB6.trans (below_drewN _ _ _)⟩
        case measure => simp [intOf]; omega
      · obtain rfl : k = n := by omega
        have HM' : Hid (R = m) := Lib.hid (by rw [← HR.out, ← HM.out, List.take_of_length_le (by rw [HN.out]; exact Nat.le_refl _)])
        go_wp2
        go_ret
        rw [HM'.out]
        exact ⟨rfl, by first | exact hB | assumption⟩

end Go.Proofs.YtfeeejigedndcaaGreat
