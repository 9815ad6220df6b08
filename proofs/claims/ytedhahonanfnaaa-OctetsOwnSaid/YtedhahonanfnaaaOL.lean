/-
  OctetsOwn returns true. Conditions: each of both lists has at most 2^47 - 4096 octets.
-/
import Derived.Test.YtedhahonanfnaaaOJ
import Derived.Test.YtedhahonanfnaaaGP
import Derived.Test.YtedhahonanfnaaaG
import Derived.Laws.AppendOwnNone
namespace Go.Proofs.Ytedhahonanfnaaa
open Go.ChangeShapes Go.WideShapes Go.ChangeAt Go.RowKit
set_option maxRecDepth 100000

/-- append of a list of octets, nil or not, to a row of the call's own. -/
theorem wpList_append_oct {P : Program} (w : World) {ops : Array Oper} {rest : List Oper} {o : Oper} {a : Act} {Q : Exit → Act → World → Prop} (hgd : o.guard = none) (s x : Operand) (t : TypeId)
    (ho : o.op = .call { callee := .builtin .append, args := #[s, x], argTypes := #[t, t] })
    (base : Nat) (e : TypeId) (i : TypeInfo) (z : Value) (ht : P.underlying t = some (.slice e)) (hi : P.info? e = some i) (hz : i.zero = some z)
    (hsize : i.size = 1) (hby : i.bytes = 1) (hzs : z.cells.size = 1)
    (v : Value) (n : Nat) (xs : List Value) (hs : a.eval s = v) (hown : w.ownsRow base e 1 v n xs)
    (A : Option Addr) (zs : List Int) (c : Nat) (hx : a.eval x = .slice A zs.length c) (hnil : A = none → c = 0) (hr : RdB w A zs)
    (hb : n + zs.length ≤ 140737488355328) (hbase : base ≤ w.heap.size)
    (h : ∀ v' w', w'.ownsRow base e 1 v' (n + zs.length) (xs ++ zs.map (Value.int .u8)) → w.grownBy w' v.ownBlock → wpList P ops Q rest (a.put o.dst v') w') : wpList P ops Q (o :: rest) a w := by
  rcases A with _ | ad
  · have hz0 : zs = [] := by
      rcases zs with _ | ⟨z, zs⟩
      · rfl
      · obtain ⟨b, off, e, _⟩ := hr (by simp)
        cases e
    subst hz0
    rw [hnil rfl] at hx
    exact wpList_append_own_none hgd s x t ho base e i 1 ht hi v n xs hs hown hx (h v w (by simpa using hown) (World.grownBy.refl w _))
  · refine wpList_append_own w hgd s x t ho base e i z 1 1 ht hi hz hsize hby hzs (by decide) v n xs hs hown ad zs.length c (zs.map (Value.int .u8)) hx (by simp) ?_ (by simp [Value.oneCell']) (by unfold maxLen; omega) (by omega) hbase (fun v' w' h1 h2 _ => h v' w' h1 h2)
    intro j u hu
    obtain ⟨b, off, e, _, hc⟩ := hr (by intro e; rw [e] at hu; simp at hu)
    injection e with e
    subst e
    rw [add_plain]
    exact hc j u hu

theorem own_isSlice {w : World} {base e n : Nat} {v : Value} {xs : List Value} (h : w.ownsRow base e 1 v n xs) : ∃ A c, v = .slice A n c := by
  rcases h.2 with ⟨rfl, rfl⟩ | ⟨g, cap, cur, rfl, _⟩
  · exact ⟨_, _, rfl⟩
  · exact ⟨_, _, rfl⟩

/-- Join of two lists. -/
theorem join2 (A A' : Option Addr) (zs zs' : List Int) (k k' c c' g : Nat) (hk : zs.length = k) (hk' : zs'.length = k') (hl : k ≤ 140737488355328) (hl' : k' ≤ 140737488355328) (w : World) (hc : w.cell? ⟨g, 0, none⟩ = some (.slice A k c)) (hc' : w.cell? ⟨g, 1, none⟩ = some (.slice A' k' c')) (hr : RdB w A zs) (hr' : RdB w A' zs') :
    Calls Try.prog 11 #[.slice (some ⟨g, 0, none⟩) 2 2] w fun e w' => ∃ v, e = .returned v ∧ w'.ownsRow w.heap.size 5 1 v (k + k') ((zs ++ zs').map (Value.int .u8)) ∧ Below w.heap.size w w' := by
  subst hk
  subst hk'
  have hcat : cat [⟨A, zs, c⟩, ⟨A', zs', c'⟩] = zs ++ zs' := by simp [cat]
  have := callsIn_wide.1 (join_in (some ⟨g, 0, none⟩) 2 [⟨A, zs, c⟩, ⟨A', zs', c'⟩] (by simp) w (fun _ => ⟨g, 0, rfl, ?_, fun j u hu => ?_⟩) (fun p hp => ?_) (by unfold tot; rw [hcat, List.length_append]; omega))
  · rw [hcat, List.length_append] at this
    exact this
  · rcases Nat.lt_or_ge g w.heap.size with h | h
    · exact h
    · simp [World.cell?, Array.getElem?_eq_none h] at hc
  · rcases j with _ | _ | j
    · simp at hu
      subst hu
      exact hc
    · simp at hu
      subst hu
      exact hc'
    · simp at hu
  · simp at hp
    rcases hp with rfl | rfl
    · exact hr
    · exact hr'

theorem cut_at (A : Option Addr) (zs : List Int) (k c n : Nat) (m : Int) (hm : m = n) (hk : zs.length = k) (hl : k ≤ 281474976710656) (hn : n ≤ k) (hc : k ≤ c) (w : World) (hr : RdB w A zs) :
    Calls Try.prog 12 #[.slice A k c, .int .i64 m] w fun e w' => ∃ v1 v2, e = .returned (.tuple #[v1, v2, .int .i64 0]) ∧ w'.ownsRow w.heap.size 5 1 v1 n ((zs.take n).map (Value.int .u8)) ∧ w'.ownsRow w.heap.size 5 1 v2 (k - n) ((zs.drop n).map (Value.int .u8)) ∧ Below w.heap.size w w' := by
  subst hm
  subst hk
  exact cut_any A zs c n hl hn hc w hr

/-- What is made later lies elsewhere. -/
theorem own_ne {W : World} {base base' k k' : Nat} {v v' : Value} {xs xs' : List Value} {W' : World} (h : W.ownsRow base 5 1 v k xs) (h' : W'.ownsRow base' 5 1 v' k' xs') (hb : W.heap.size ≤ base') : v'.ownBlock = none ∨ v'.ownBlock ≠ v.ownBlock := by
  rcases hv : v'.ownBlock with _ | g
  · exact .inl rfl
  · refine .inr ?_
    intro e
    have h1 := (h'.lt g hv).1
    have h2 := (h.lt g e.symm).2
    omega

theorem octv_of {zs : List Int} (h : Octs zs) : Octv (zs.map (Value.int .u8)) := by
  intro j u hu
  rw [List.getElem?_map] at hu
  rcases hz : zs[j]? with _ | z
  · rw [hz] at hu; cases hu
  · rw [hz] at hu
    simp at hu
    exact ⟨z, hu.symm, h z (List.mem_of_getElem? hz)⟩

theorem own_cap {w : World} {base n c : Nat} {A : Option Addr} {xs : List Value} (h : w.ownsRow base 5 1 (.slice A n c) n xs) : n ≤ c := by
  rcases h.2 with ⟨e, h0⟩ | ⟨g, cap, cur, e, _, _, hc, _⟩
  · omega
  · injection e with _ _ e
    omega

theorem str_append (xs ys : List Int) : strOfNums xs ++ strOfNums ys = strOfNums (xs ++ ys) := by
  have e : (strOfNums xs ++ strOfNums ys).data = (strOfNums xs).data ++ (strOfNums ys).data := ByteArray.data_append
  apply ByteArray.ext
  rw [e]
  simp [strOfNums]

set_option maxHeartbeats 1000000 in
theorem own_walk (A B : Option Addr) (ca cb : Nat) (za zb : List Int) (hoa : Octs za) (hob : Octs zb) (hla : za.length ≤ 140737488351232) (hlb : zb.length ≤ 140737488351232) (hna : A = none → ca = 0) (hnb : B = none → cb = 0) (w : World) (hra : RdB w A za) (hrb : RdB w B zb) :
    Calls Try.prog 4 #[.slice A za.length ca, .slice B zb.length cb] w fun e w' => e = .returned (.bool true) ∧ Below w.heap.size w w' := by
  obtain ⟨i0, hi, hz0, hz1, hz2⟩ := info_parts info5
  have HNA := Lib.hid hna
  have HNB := Lib.hid hnb
  have HRA := Lib.hid hra
  have HRB := Lib.hid hrb
  clear hna hnb hra hrb
  go_enter Try.func4, Try.ntmps4
  go_wp2_with fail
  refine (alive_any _).mono ?_
  rintro e w1 ⟨rfl, hB1⟩
  have s1 := hB1.size
  go_wp2_with (first
    | (at_builtin; refine wpList_append_oct _ rfl (.tmp 13) (.tmp 14) 22 rfl w1.heap.size 5 i0 (.int .u8 0) Try.underlying22 hi hz0 hz1 hz2 rfl _ 0 [] rfl (World.ownsRow_nil _ _ _ _) A za ca rfl HNA.out (HRA.out.below hB1) (by omega) (Nat.le_refl _) ?_; intro vx w2 hox hgx)
    | (at_builtin; refine wpList_append_oct _ rfl (.tmp 16) (.tmp 17) 22 rfl w2.heap.size 5 i0 (.int .u8 0) Try.underlying22 hi hz0 hz1 hz2 rfl _ 0 [] rfl (World.ownsRow_nil _ _ _ _) B zb cb rfl HNB.out (HRB.out.below (hB1.grown hgx s1 (fun _ e => by cases e))) (by omega) (Nat.le_refl _) ?_; intro vy w3 hoy hgy; obtain ⟨Ax, cx, rfl⟩ := own_isSlice hox; obtain ⟨Ay, cy, rfl⟩ := own_isSlice hoy))
  simp only [Nat.zero_add, List.nil_append] at hox hoy
  have b2 : Below w.heap.size w w2 := hB1.grown hgx s1 (fun _ e => by cases e)
  have b3 : Below w.heap.size w w3 := b2.grown hgy b2.size (fun _ e => by cases e)
  have hox3 := own_below hox ((Below.refl _ w2).grown hgy (Nat.le_refl _) (fun _ e => by cases e)) (Nat.le_refl _)
  have s2 := b2.size
  have s12 := hgx.size
  have hcy := own_cap hoy
  clear hgx hgy
  have hc0 : (w3.alloc (.cells #[.slice Ax za.length cx, .slice Ay zb.length cy] 22)).cell? ⟨w3.heap.size, 0, none⟩ = some (.slice Ax za.length cx) := cell_of_row _ w3.heap.size 0 _ 22 (0, 0) (heap_alloc_new w3 _)
  have hc1 : (w3.alloc (.cells #[.slice Ax za.length cx, .slice Ay zb.length cy] 22)).cell? ⟨w3.heap.size, 1, none⟩ = some (.slice Ay zb.length cy) := cell_of_row _ w3.heap.size 1 _ 22 (0, 0) (heap_alloc_new w3 _)
  obtain ⟨w3', hw3⟩ : ∃ w3', w3.alloc (.cells #[.slice Ax za.length cx, .slice Ay zb.length cy] 22) = w3' := ⟨_, rfl⟩
  have hoxa : w3'.ownsRow w1.heap.size 5 1 (.slice Ax za.length cx) za.length (za.map (Value.int .u8)) := hw3 ▸ hox3.alloc _
  have hoya : w3'.ownsRow w2.heap.size 5 1 (.slice Ay zb.length cy) zb.length (zb.map (Value.int .u8)) := hw3 ▸ hoy.alloc _
  have b3' : Below w.heap.size w w3' := hw3 ▸ b3.alloc b3.size _
  refine (join2 Ax Ay za zb za.length zb.length cx cy _ rfl rfl (by omega) (by omega) _ ?_ ?_ ?_ ?_).mono ?_
  · exact hc0
  · exact hc1
  · rw [hw3]; exact Rd.of_own hoxa
  · rw [hw3]; exact Rd.of_own hoya
  rw [hw3]
  clear hw3 b3 hc0 hc1
  rintro e w4 ⟨vj, rfl, hoj, hB4⟩
  obtain ⟨Aj, cj, rfl⟩ := own_isSlice hoj
  have b4 : Below w.heap.size w w4 := b3'.trans (hB4.mono b3'.size)
  have hox4 := own_below hoxa hB4 (Nat.le_refl _)
  have hoy4 := own_below hoya hB4 (Nat.le_refl _)
  go_wp2_with fail
  refine (cut_at Ay zb zb.length cy (zb.length / 2) _ (by omega) rfl (by omega) (by omega) hcy _ (Rd.of_own hoy4)).mono ?_
  rintro e w5 ⟨vp, vq, rfl, hop, hoq, hB5⟩
  obtain ⟨Ap, cp, rfl⟩ := own_isSlice hop
  obtain ⟨Aq, cq, rfl⟩ := own_isSlice hoq
  have b5 : Below w.heap.size w w5 := b4.trans (hB5.mono b4.size)
  have hox5 := own_below hox4 hB5 (Nat.le_refl _)
  have hoy5 := own_below hoy4 hB5 (Nat.le_refl _)
  have hoj5 := own_below hoj hB5 (Nat.le_refl _)
  go_wp2_with fail
  refine (spoil_any w1.heap.size za.length _ _ w5 hox5 (octv_of hoa) (by omega)).mono ?_
  rintro e w6 ⟨⟨rx, rfl⟩, hg6⟩
  have b6 : Below w.heap.size w w6 := b5.grown hg6 b5.size (fun k e => Nat.le_trans s1 (hox5.lt k e).1)
  have hoy6 := hoy5.kept hg6 (own_ne hox hoy (Nat.le_refl _))
  have hoj6 := hoj5.kept hg6 (own_ne hoxa hoj (Nat.le_refl _))
  have hop6 := hop.kept hg6 (own_ne hox4 hop (Nat.le_refl _))
  have hoq6 := hoq.kept hg6 (own_ne hox4 hoq (Nat.le_refl _))
  clear hg6
  go_wp2_with fail
  refine (spoil_any w2.heap.size zb.length _ _ w6 hoy6 (octv_of hob) (by omega)).mono ?_
  rintro e w7 ⟨⟨ry, rfl⟩, hg7⟩
  have b7 : Below w.heap.size w w7 := b6.grown hg7 b6.size (fun k e => Nat.le_trans s2 (hoy6.lt k e).1)
  have hoj7 := hoj6.kept hg7 (own_ne hoya hoj (Nat.le_refl _))
  have hop7 := hop6.kept hg7 (own_ne hoy4 hop (Nat.le_refl _))
  have hoq7 := hoq6.kept hg7 (own_ne hoy4 hoq (Nat.le_refl _))
  clear hg7
  have k1 := str_of (n := za.length + zb.length) (Rd.of_own hoj7) (by simp) cj
  have k2 := str_of (HRA.out.below b7) rfl ca
  have k3 := str_of (HRB.out.below b7) rfl cb
  have k4 := str_of (n := zb.length / 2) (Rd.of_own hop7) (by simp; omega) cp
  have k5 := str_of (n := zb.length - zb.length / 2) (Rd.of_own hoq7) (by simp) cq
  clear hoj7 hop7 hoq7 hoj6 hop6 hoq6 hoj5 hoy6 hoy5 hox5 hox4 hoy4 hoxa hoya hox hoy hoj hop hoq hox3
  have q1 := str_append za zb
  have q2 := str_append (zb.take (zb.length / 2)) (zb.drop (zb.length / 2))
  rw [List.take_append_drop] at q2
  have m1 : ¬ 9223372036854775807 < (strOfNums za).size + (strOfNums zb).size := by rw [strOfNums_size, strOfNums_size]; omega
  have m2 : ¬ 9223372036854775807 < (strOfNums (zb.take (zb.length / 2))).size + (strOfNums (zb.drop (zb.length / 2))).size := by rw [strOfNums_size, strOfNums_size]; simp; omega
  go_wp2
  go_ret
  exact ⟨rfl, b7⟩

end Go.Proofs.Ytedhahonanfnaaa
