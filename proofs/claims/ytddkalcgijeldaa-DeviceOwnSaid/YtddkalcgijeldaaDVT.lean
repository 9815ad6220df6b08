/-
  What New, Read, Do and Crash answer at whatever device, and such a device that came in. Conditions: its arguments are a machine's.
-/
import Derived.Test.YtddkalcgijeldaaDVR
import Derived.BigRegion
import Derived.Deep.DeepCutAuto
namespace Go.Proofs.Ytddkalcgijeldaa
open Go.ChangeShapes Go.WideShapes Go.ChangeAt Go.RowKit Go.Joins Go.Deep

/-- A device that came in. -/
structure Dv.Came (W : World) (D : Dv) : Prop where
  lies : D.Lies 0 W
  fits : D.Fits
  one : D.ws.length + 1 ≤ 4398046511104

section
variable {H : Type} {enc : TypeId × Value → H} {W : World}
set_option maxRecDepth 100000 in
theorem one_fields2 : oneCellFields Try.prog #[⟨"Sectors", 26, 0, false, "", "", 0⟩, ⟨"Waits", 27, 1, false, "", "", 24⟩] = true := by kernel_rfl
set_option maxRecDepth 100000 in
theorem one_fields3 : oneCellFields Try.prog #[⟨"Flush", 4, 0, false, "", "", 0⟩, ⟨"At", 3, 1, false, "", "", 8⟩, ⟨"Data", 34, 2, false, "", "", 16⟩] = true := by kernel_rfl
set_option maxRecDepth 100000 in
theorem open_device {r : Reach} {b0 : Nat} {v : Value} {d : DataW H} {ps : List MemPlace} (hval : Value.okWide Try.prog W r b0 29 v) (hd : DataW.Trod enc Try.prog W 0 (fun _ => true) true 29 v d ps) (hf : Fit Try.prog 29 d) :
    ∃ D : Dv, v = D.val ∧ D.Came W := by
  obtain ⟨v0, v1, y0, y1, m, rfl, rfl, _, h0, h1⟩ := open_agg2 Try.underlying29 one_fields2 pcellsD hval hd
  obtain ⟨A, l, c, hcs, hc, _, hr, hg, hb⟩ := opens_slice (t := 26) Try.underlying26 pcellsB (by omega) (fun _ => rfl) opens_octets h0 (fit_part Try.underlying29 hf (i := 0) rfl rfl)
  obtain ⟨B, ws, d, hcs', hc', _, hr', hg', hb'⟩ := opens_slice (t := 27) Try.underlying27 pcellsW (by omega) (fun _ => rfl) opens_write h1 (fit_part Try.underlying29 hf (i := 1) rfl rfl)
  injection hcs with hcs
  injection hcs' with hcs'
  subst hcs
  subst hcs'
  rw [pbytesB] at hb
  rw [pbytesW] at hb'
  rw [flat_one] at hr
  have h1 : l.length * 24 ≤ 140737488351232 := hb
  have h2 : ws.length * 32 ≤ 140737488351232 := hb'
  exact ⟨⟨A, l, c, B, ws, d⟩, rfl, ⟨RdF.zero hr, fun p hp => RdF.zero (hg p hp).reads, RdF.zero hr', fun x hx => RdF.zero (hg' x hx).reads⟩,
    ⟨by show l.length ≤ _; omega, by show ws.length ≤ _; omega, fun p hp => (hg p hp).len, fun x hx => (hg' x hx).len⟩, by show ws.length + 1 ≤ _; omega⟩
set_option maxRecDepth 100000 in
theorem open_act {r : Reach} {b0 : Nat} {v : Value} {d : DataW H} {ps : List MemPlace} (hval : Value.okWide Try.prog W r b0 36 v) (hd : DataW.Trod enc Try.prog W 0 (fun _ => true) true 36 v d ps) (hf : Fit Try.prog 36 d) :
    ∃ x : Ac, v = x.val ∧ x.p.Came W := by
  obtain ⟨v0, v1, v2, y0, y1, y2, m, rfl, rfl, _, h0, h1, h2⟩ := open_agg3 Try.underlying36 one_fields3 pcellsA hval hd
  obtain ⟨fl, k0, _⟩ := DataW.trod_bool Try.underlying4 h0
  obtain ⟨at_, k1, _, hw⟩ := DataW.trod_int Try.underlying3 h1
  obtain ⟨p, k2, hp⟩ := opens_octets m [v2] y2 h2 (fit_part Try.underlying36 hf (i := 2) rfl rfl)
  injection k0 with k0
  injection k1 with k1
  injection k2 with k2
  subst k0
  subst k1
  subst k2
  exact ⟨⟨fl, at_, p⟩, rfl, hp⟩
end

set_option maxRecDepth 100000 in
theorem new_any (n : Int) (w : World) :
    Calls Try.prog 12 #[.int .i64 n] w fun e w' => ∃ (E : Dv) (r : Int), e = .returned (ansD E.val r) ∧ Hid ((r = 0 ∧ 2 ≤ n ∧ n ≤ 8192) ∨ (r = 4 ∧ ¬ (2 ≤ n ∧ n ≤ 8192))) ∧ Below w.heap.size w w' := by
  by_cases h : 2 ≤ n ∧ n ≤ 8192
  · obtain ⟨k, rfl⟩ := Int.eq_ofNat_of_zero_le (show 0 ≤ n by omega)
    refine (new_ok k (by omega) (by omega) w).mono ?_
    rintro e w' ⟨D, rfl, _, _, hB⟩
    exact ⟨D, 0, rfl, .inl ⟨rfl, h⟩, hB⟩
  · refine (new_no n h w).mono ?_
    rintro e w' ⟨rfl, hB⟩
    exact ⟨⟨none, [], 0, none, [], 0⟩, 4, rfl, .inr ⟨rfl, h⟩, hB⟩

set_option maxRecDepth 100000 in
theorem read_any' (D : Dv) (n : Int) (w : World) (h : D.Came w) :
    Calls Try.prog 17 #[D.val, .int .i64 n] w fun e w' => ∃ (A : Option Addr) (k c : Nat) (r : Int), e = .returned (ansO (.slice A k c) r) ∧
      Hid ((¬ D.st.ok ∧ r = 9 ∧ k = 0) ∨ (D.st.ok ∧ r = 0 ∧ k = 64 ∧ 0 ≤ n ∧ n < D.ps.length) ∨ (D.st.ok ∧ r = 4 ∧ k = 0 ∧ ¬ (0 ≤ n ∧ n < D.ps.length))) ∧ Below w.heap.size w w' := by
  by_cases hok : D.st.ok
  · by_cases hn : 0 ≤ n ∧ n < D.ps.length
    · obtain ⟨k, rfl⟩ := Int.eq_ofNat_of_zero_le hn.1
      refine (read_ok D hok h.fits.m k (by omega) w h.lies).mono ?_
      rintro e w' ⟨g, cap, rfl, _, hB⟩
      exact ⟨_, _, _, _, rfl, .inr (.inl ⟨hok, rfl, rfl, hn⟩), hB⟩
    · refine (read_range D h.fits hok n hn w h.lies).mono ?_
      rintro e w' ⟨rfl, hB⟩
      exact ⟨_, _, _, _, rfl, .inr (.inr ⟨hok, rfl, rfl, hn⟩), hB⟩
  · refine (read_no D h.fits hok n w h.lies).mono ?_
    rintro e w' ⟨rfl, hB⟩
    exact ⟨_, _, _, _, rfl, .inl ⟨hok, rfl, rfl⟩, hB⟩

set_option maxRecDepth 100000 in
theorem do_any1 (D : Dv) (x : Ac) (b : Nat) (w : World) (h : D.Came w) (hx : x.p.Came w) (hb : Blk w b 36 [.bool x.fl, .int .i64 x.at_, x.p.val]) :
    Calls Try.prog 14 #[D.val, .slice (some ⟨b, 0, none⟩) 1 1] w fun e w' => ∃ (E : Dv) (r : Int), e = .returned (ansD E.val r) ∧
      Hid ((¬ D.st.ok ∧ r = 9 ∧ E.ps.length = 0) ∨ (D.st.ok ∧ r = actE D.ps.length x.fl x.at_ x.p.zs.length)) ∧ Below w.heap.size w w' := by
  have hacts : Acts w (some ⟨b, 0, none⟩) [x] := ⟨fun _ => ⟨b, 0, rfl, hb.lt, fun j u hu => by rw [Nat.zero_add]; exact (hb.cell j).trans hu⟩,
    fun y hy => by simp at hy; subst hy; exact hx.reads, fun y hy => by simp at hy; subst hy; exact hx.len, by simp⟩
  by_cases hok : D.st.ok
  · by_cases h0 : actE D.ps.length x.fl x.at_ x.p.zs.length = 0
    · have ha : actsE D.ps.length [x] = 0 := by simp [actsE, h0]
      refine (do_ok D h.fits hok (some ⟨b, 0, none⟩) [x] 1 ha h.one w h.lies hacts).mono ?_
      rintro e w' ⟨E, rfl, _, _, hB⟩
      exact ⟨E, 0, rfl, .inr ⟨hok, h0.symm⟩, hB⟩
    · have ha : actsE D.ps.length [x] = actE D.ps.length x.fl x.at_ x.p.zs.length := by simp only [actsE]; rw [if_neg h0]
      refine (do_err D h.fits hok (some ⟨b, 0, none⟩) [x] 1 (by rw [ha]; exact h0) w h.lies hacts).mono ?_
      rintro e w' ⟨rfl, hB⟩
      rw [ha]
      exact ⟨⟨none, [], 0, none, [], 0⟩, _, rfl, .inr ⟨hok, rfl⟩, hB⟩
  · refine (do_no D h.fits hok (some ⟨b, 0, none⟩) 1 1 w h.lies).mono ?_
    rintro e w' ⟨rfl, hB⟩
    exact ⟨⟨none, [], 0, none, [], 0⟩, 9, rfl, .inl ⟨hok, rfl, rfl⟩, hB⟩

set_option maxRecDepth 100000 in
theorem crash_any' (D : Dv) (w : World) (h : D.Came w) :
    Calls Try.prog 16 #[D.val, .slice none 0 0] w fun e w' => ∃ (E : Dv) (r : Int), e = .returned (ansD E.val r) ∧
      Hid ((¬ D.st.ok ∧ r = 9 ∧ E.ps.length = 0) ∨ (D.st.ok ∧ r = 0 ∧ E.ws.length = 0)) ∧ Below w.heap.size w w' := by
  by_cases hok : D.st.ok
  · refine (crash_ok D h.fits hok none [] 0 w h.lies (Rd.nil _ _)).mono ?_
    rintro e w' ⟨E, rfl, hst, _, hB⟩
    exact ⟨E, 0, rfl, .inr ⟨hok, rfl, by have := congrArg (fun s : DS => s.waits.length) hst; simpa [Dv.st] using this⟩, hB⟩
  · refine (crash_no D h.fits hok none 0 0 w h.lies).mono ?_
    rintro e w' ⟨rfl, hB⟩
    exact ⟨⟨none, [], 0, none, [], 0⟩, 9, rfl, .inl ⟨hok, rfl, rfl⟩, hB⟩
set_option maxRecDepth 100000 in
theorem Dv.Came.below {W W' : World} {D : Dv} (h : D.Came W) (hb : Below W.heap.size W W') : D.Came W' := ⟨h.lies.below hb, h.fits, h.one⟩
set_option maxRecDepth 100000 in
theorem Pt.Came.below {W W' : World} {p : Pt} (h : p.Came W) (hb : Below W.heap.size W W') : p.Came W' := ⟨h.reads.below hb, h.len, h.octs, h.cap, h.nil⟩

end Go.Proofs.Ytddkalcgijeldaa
