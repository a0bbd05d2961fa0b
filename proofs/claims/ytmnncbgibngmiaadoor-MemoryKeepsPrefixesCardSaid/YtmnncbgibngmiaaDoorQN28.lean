/-
  MemoryEvictsLikeFences answers true: the walk.
-/
import Derived.Test.YtmnncbgibngmiaaDoorQN27
namespace Go.Proofs.YtmnncbgibngmiaaDoor
open Go.RowKit Go.Maps
def imgOf (m : PM) : List (List Int × Int) := m.L.map fun l => (l.ws, l.code)
theorem imgOf_flat (m : PM) : flatI (imgOf m) = flatL m.L := by
  unfold flatI imgOf flatL
  rw [List.flatMap_map]
theorem imgOf_ok {m : PM} (h : m.Ok) : ImgI (imgOf m) := fun x hx => by
  obtain ⟨l, hl, rfl⟩ := List.mem_map.1 hx
  obtain ⟨ha, h0, h1⟩ := valid_words (h.lines l hl).val
  exact ⟨(h.lines l hl).len, fun z hz => okW_i64 (all_ok ha z hz), by show I64 l.code; unfold I64; omega⟩
theorem seen_ok {m : PM} (h : m.Ok) : ∀ x ∈ m.seen, x.length = 8 ∧ ∀ z ∈ x, I64 z := fun x hx => by
  obtain ⟨l, hl, rfl⟩ := List.mem_map.1 hx
  obtain ⟨h1, h2⟩ := (h.lines l hl).after l.pend.length
  exact ⟨h1, fun z hz => okW_i64 (all_ok h2 z hz)⟩
theorem copied {w w5 w6 : World} {p q : Nat} {m : PM} {F : Nat → Prop} (h : Has w w5 p m F) (hr : Rep w6 q m (New w5 w6)) (hb : Below w5.heap.size w5 w6) : Has w w6 q m (New w5 w6) :=
  ⟨hr, h.ok, h.tab.keep hb, fun h1 => by have := h.tab.lt; have := h1.1; omega, bel_on h.below hb, fun k hk => Nat.le_trans h.below.size hk.1⟩
theorem has_k {m : PM} {k : Nat} (hk : k < m.L.length) : m.has (k : Int) = true := by
  unfold PM.has
  simp
  omega
theorem pend_k {m : PM} {k : Nat} (hk : k < m.L.length) : pendP m (k : Int) = (m.line k).pend := by
  unfold pendP
  rw [has_k hk, if_pos rfl, Int.toNat_natCast]
theorem evict_k {m : PM} {k n : Nat} (hk : k < m.L.length) (hn : 1 ≤ n ∧ n ≤ (m.line k).pend.length) (e : List Int) : rec_ (evictP m (k : Int) (n : Int)) e = (0, (m.upd k (·.settle n)).add e) := by
  unfold evictP
  rw [has_k hk, if_neg (by simp), if_neg (by rw [Int.toNat_natCast]; omega), rec_0 rfl, Int.toNat_natCast, Int.toNat_natCast]
theorem evict_none {m : PM} {k : Nat} (hk : k < m.L.length) (hn : (m.line k).pend.length = 0) (e : List Int) : rec_ (evictP m (k : Int) 1) e = (1, m) := by
  unfold evictP
  rw [has_k hk, if_neg (by simp), if_pos (.inr (by rw [Int.toNat_natCast, hn]; decide)), rec_1 (show (1 : Int) ≠ 0 by decide)]
theorem flush_k {m : PM} {k : Nat} (hk : k < m.L.length) (e : List Int) : rec_ (flushP m (k : Int)) e = (0, (m.upd k (·.flushed)).add e) := by
  unfold flushP
  rw [has_k hk, if_neg (by simp), rec_0 rfl, Int.toNat_natCast]
set_option maxRecDepth 100000 in
set_option maxHeartbeats 8000000 in
set_option linter.unusedSimpArgs false in
theorem lawEvicts (z y : Int) (v : Value) (xs : List POp) (w : World) (hs : Script w v xs) (hT : Tab w) :
    Calls Tryd.prog 6 #[.int .i64 z, v, .int .i64 y] w fun e w' => e = .returned (.bool true) ∧ Below w.heap.size w w' := by
  have HBE := Lib.hid (begun_any z v xs w hs hT)
  clear hs hT
  go_enter Tryd.func6, Tryd.ntmps6
  go_wp2_with fail
  refine HBE.out.mono ?_
  rintro e w1 ⟨p, m, F, rfl, hh, hsm, hle⟩
  have H1 := Lib.hid hh
  have HSM := Lib.hid hsm
  have hlc := lines_any p m F w1 hh.rep
  have hpos := hh.ok.pos
  have hlea := fun w => least_any y (m.L.length : Int) w ⟨by omega, by omega⟩
  have HLC := Lib.hid hlc
  have HLE := Lib.hid hlea
  have HL8 := Lib.hid hle
  clear HBE hh hlc hlea hsm
  go_wp2_with (go_at_call 13; refine HLC.out.mono ?_; rintro e w' ⟨rfl, hw'⟩; obtain rfl := hw'.symm)
  refine (HLE.out _).mono ?_
  rintro e w' ⟨⟨k0, rfl, hk0, hk1⟩, hw'⟩
  obtain rfl := hw'.symm
  obtain ⟨k, rfl⟩ : ∃ k : Nat, k0 = k := ⟨k0.toNat, by omega⟩
  have hkl : k < m.L.length := by omega
  have HKL := Lib.hid hkl
  have hkI : I64 (k : Int) := small_i64 (by omega)
  have hpl : (m.line k).pend.length ≤ 80 := HSM.out.pend _ (PM.line_mem hkl)
  have hpn := pending_any p (k : Int) m F w1 hkI H1.out.ok.few (by rw [pend_k hkl]; omega) H1.out.rep
  rw [pend_k hkl] at hpn
  have HPN := Lib.hid hpn
  clear hpn hkl HLC HLE hk0 hk1
  go_wp2_with fail
  refine HPN.out.mono ?_
  rintro e w2 ⟨pv, rfl, hs2, _, hb⟩
  have H2 := Lib.hid (H1.out.stay hb)
  obtain ⟨A2, cap2, rfl, _⟩ := hs2.shape
  clear hs2 hb H1 HPN
  by_cases hn0 : (m.line k).pend.length = 0
  · rw [hn0]
    have HS := Lib.hid (sanity_any w2 H2.out.tab)
    go_wp2_with fail
    refine HS.out.mono ?_
    rintro e w3 ⟨rfl, hb⟩
    have H3 := Lib.hid (H2.out.stay hb)
    have hev := evictC_any p (k : Int) 1 m F w3 H3.out.ok (HSM.out.mono (by omega)) H3.out.rep H3.out.tab hkI (small_i64 (by omega))
    rw [evict_none HKL.out hn0] at hev
    have HEV := Lib.hid hev
    clear hb hev HS
    go_wp2_with fail
    refine HEV.out.mono ?_
    rintro e w4 ⟨rfl, hst⟩
    have H4 := Lib.hid (H3.out.step hst H3.out.ok)
    clear hst HEV
    go_wp2_with fail
    go_ret
    exact ⟨rfl, H4.out.below⟩
  · have hnI : ¬ (((m.line k).pend.length : Int) = 0) := by omega
    generalize (m.line k).pend.length = pl0 at *
    have HFE := Lib.hid (fenceC_any p m F w2 H2.out.ok (HSM.out.mono (by omega)) H2.out.rep H2.out.tab H2.out.not1)
    go_wp2_with fail
    refine HFE.out.mono ?_
    rintro e w3 ⟨rfl, hst⟩
    have hg := fence_good H2.out.ok HSM.out
    have H3 := Lib.hid (H2.out.step hst hg.ok)
    obtain ⟨F3, hF3⟩ : ∃ F3, F3 = Ex F w2 w3 := ⟨_, rfl⟩
    rw [← hF3] at H3
    have hmk : ∀ l ∈ ((fenceP m).add (evt 4 0 0 0 Z8)).L, l.mark = 0 := fun l hl => by
      obtain ⟨x, _, rfl⟩ := List.mem_map.1 (show l ∈ m.L.map (fun l => l.settle l.mark) from hl)
      exact fence_mark x
    have hl2 : ((fenceP m).add (evt 4 0 0 0 Z8)).L.length = m.L.length := hg.len
    have hs2 := hg.small
    clear hst HFE hF3 H2
    generalize (fenceP m).add (evt 4 0 0 0 Z8) = m2 at *
    have hkl2 : k < m2.L.length := by rw [hl2]; exact HKL.out
    have HK2 := Lib.hid hkl2
    have HMK := Lib.hid hmk
    have HS2 := Lib.hid hs2
    have h28 : m2.L.length ≤ 8 := by rw [hl2]; exact HL8.out
    have hpl2 : (m2.line k).pend.length ≤ 81 := HS2.out.pend _ (PM.line_mem hkl2)
    have hpn := pending_any p (k : Int) m2 F3 w3 hkI H3.out.ok.few (by rw [pend_k hkl2]; omega) H3.out.rep
    rw [pend_k hkl2] at hpn
    have HPN := Lib.hid hpn
    clear hpn hkl2 hmk hs2 hg hl2 HSM HKL
    go_wp2_with fail
    refine HPN.out.mono ?_
    rintro e w4 ⟨pv, rfl, hs4, _, hb⟩
    have H4 := Lib.hid (H3.out.stay hb)
    obtain ⟨A4, cap4, rfl, _⟩ := hs4.shape
    clear hs4 hb H3 HPN
    by_cases hn2 : (m2.line k).pend.length = 0
    · rw [hn2]
      have HS := Lib.hid (sanity_any w4 H4.out.tab)
      go_wp2_with fail
      refine HS.out.mono ?_
      rintro e w5 ⟨rfl, hb⟩
      have H5 := Lib.hid (H4.out.stay hb)
      clear hb HS
      go_wp2_with fail
      go_ret
      exact ⟨rfl, H5.out.below⟩
    · have hn2I : ¬ (((m2.line k).pend.length : Int) = 0) := by omega
      have HN2 := Lib.hid hn2
      obtain ⟨n, hn⟩ : ∃ n, (m2.line k).pend.length = n := ⟨_, rfl⟩
      have HN := Lib.hid hn
      rw [hn] at hn2I hpl2 hn2 ⊢
      clear hn
      go_wp2_with fail
      refine (copy_any p m2 F3 w4 H4.out.ok (HS2.out.mono (by omega)) H4.out.rep).mono ?_
      rintro e w5 ⟨⟨pa, rfl, hra⟩, hb⟩
      have HA5 := Lib.hid (copied H4.out hra hb)
      have H5 := Lib.hid (H4.out.stay hb)
      have h45 := hb.size
      have HF5 : Hid (∀ q, F3 q → q < w4.heap.size) := Lib.hid H4.out.rep.lt
      clear hb hra H4
      go_wp2_with fail
      refine (copy_any p m2 F3 w5 H5.out.ok (HS2.out.mono (by omega)) H5.out.rep).mono ?_
      rintro e w6 ⟨⟨pb, rfl, hrb⟩, hb⟩
      have HB6 := Lib.hid (copied H5.out hrb hb)
      have HA6 := Lib.hid (HA5.out.stay hb)
      have H6 := Lib.hid (H5.out.stay hb)
      have h56 := hb.size
      clear hb hrb H5 HA5
      have hea := evictC_any pa (k : Int) (n : Int) m2 (New w4 w5) w6 HA6.out.ok (HS2.out.mono (by omega)) HA6.out.rep HA6.out.tab hkI (small_i64 (by omega))
      rw [evict_k HK2.out ⟨by omega, by rw [HN.out]; exact Nat.le_refl _⟩] at hea
      have HEA := Lib.hid hea
      clear hea
      go_wp2_with fail
      refine HEA.out.mono ?_
      rintro e w7 ⟨rfl, hst⟩
      have hoka : ((m2.upd k (·.settle n)).add (evt 5 (k : Int) (n : Int) 0 Z8)).Ok := by
        have := (evict_good HA6.out.ok HS2.out (k : Int) (n : Int) hkI (small_i64 (by omega))).ok
        rw [evict_k HK2.out ⟨by omega, by rw [HN.out]; exact Nat.le_refl _⟩] at this
        exact this
      have HA7 := Lib.hid (HA6.out.step hst hoka)
      have hz7 := hst.2.size
      have HB7 := Lib.hid (HB6.out.other hst.2 (fun q h1 h2 => by have h3 := h1.1; have h4 := h2.2; omega) HA6.out.not1 HA6.out.new)
      have H7 := Lib.hid (H6.out.other hst.2 (fun q h1 h2 => by have h3 := HF5.out q h1; have h4 := h2.1; omega) HA6.out.not1 HA6.out.new)
      have HFA : Hid (∀ q, Ex (New w4 w5) w6 w7 q → (w4.heap.size ≤ q ∧ q < w5.heap.size) ∨ (w6.heap.size ≤ q ∧ q < w7.heap.size)) := Lib.hid fun q h => h
      obtain ⟨FA, hFA⟩ : ∃ FA, FA = Ex (New w4 w5) w6 w7 := ⟨_, rfl⟩
      rw [← hFA] at HA7 HFA
      clear hst hoka hFA HA6 HB6 H6 HEA
      have hfb := flushC_any pb (k : Int) m2 (New w5 w6) w7 HB7.out.ok (HS2.out.mono (by omega)) HB7.out.rep
      rw [flush_k HK2.out] at hfb
      have HFB := Lib.hid hfb
      clear hfb
      go_wp2_with fail
      refine HFB.out.mono ?_
      rintro e w8 ⟨rfl, hst⟩
      have hgb := flush_good HB7.out.ok HS2.out (k : Int) hkI
      rw [flush_k HK2.out] at hgb
      have HGB := Lib.hid hgb
      have HB8 := Lib.hid (HB7.out.step hst hgb.ok)
      have hz8 := hst.2.size
      have HA8 := Lib.hid (HA7.out.other hst.2 (fun q h1 h2 => by have h3 := HFA.out q h1; have h4 := h2.1; have h5 := h2.2; omega) HB7.out.not1 HB7.out.new)
      have H8 := Lib.hid (H7.out.other hst.2 (fun q h1 h2 => by have h3 := HF5.out q h1; have h4 := h2.1; omega) HB7.out.not1 HB7.out.new)
      have HFBB : Hid (∀ q, Ex (New w5 w6) w7 w8 q → (w5.heap.size ≤ q ∧ q < w6.heap.size) ∨ (w7.heap.size ≤ q ∧ q < w8.heap.size)) := Lib.hid fun q h => h
      obtain ⟨FB, hFB⟩ : ∃ FB, FB = Ex (New w5 w6) w7 w8 := ⟨_, rfl⟩
      rw [← hFB] at HB8 HFBB
      clear hst hgb hFB HA7 HB7 H7 HFB
      have HFC := Lib.hid (fenceC_any pb ((m2.upd k (·.flushed)).add (evt 3 (k : Int) 0 0 Z8)) FB w8 HB8.out.ok (HGB.out.small.mono (by omega)) HB8.out.rep HB8.out.tab HB8.out.not1)
      go_wp2_with fail
      refine HFC.out.mono ?_
      rintro e w9 ⟨rfl, hst⟩
      have hgc := fence_good HB8.out.ok HGB.out.small
      have HB9 := Lib.hid (HB8.out.step hst hgc.ok)
      have HA9 := Lib.hid (HA8.out.other hst.2 (fun q h1 h2 => by have h3 := HFA.out q h1; have h4 := HFBB.out q h2; omega) HB8.out.not1 HB8.out.new)
      have H9 := Lib.hid (H8.out.other hst.2 (fun q h1 h2 => by have h3 := HF5.out q h1; have h4 := HFBB.out q h2; omega) HB8.out.not1 HB8.out.new)
      have hLL : ((fenceP ((m2.upd k (·.flushed)).add (evt 3 (k : Int) 0 0 Z8))).add (evt 4 0 0 0 Z8)).L = (m2.upd k (·.settle n)).L := by
        have h5 := fence_evict HMK.out HK2.out
        rw [HN.out] at h5
        have h6 := congrArg PM.L h5; exact h6
      obtain ⟨FB9, hFB9⟩ : ∃ FB9, FB9 = Ex FB w8 w9 := ⟨_, rfl⟩
      rw [← hFB9] at HB9
      clear hst hgc hFB9 HA8 HB8 H8 HFC HGB
      generalize (fenceP ((m2.upd k (·.flushed)).add (evt 3 (k : Int) 0 0 Z8))).add (evt 4 0 0 0 Z8) = mb at *
      have hsea : ((m2.upd k (·.settle n)).add (evt 5 (k : Int) (n : Int) 0 Z8)).seen = m2.seen := seen_settle H9.out.ok HK2.out (by rw [HN.out]; exact Nat.le_refl _)
      have hLA : ((m2.upd k (·.settle n)).add (evt 5 (k : Int) (n : Int) 0 Z8)).L = (m2.upd k (·.settle n)).L := rfl
      generalize (m2.upd k (·.settle n)).add (evt 5 (k : Int) (n : Int) 0 Z8) = ma at *
      have hAB : mb.L = ma.L := hLL.trans hLA.symm
      have hseb : mb.seen = m2.seen := by rw [← hsea]; unfold PM.seen; rw [hAB]
      have hal : ma.L.length = m2.L.length := by rw [hLA, PM.upd_len]
      have HAB := Lib.hid hAB
      have HSA := Lib.hid hsea
      have HSB := Lib.hid hseb
      have HAL := Lib.hid hal
      clear hLL hLA hAB hsea hseb hal
      go_wp2_with fail
      refine (image_any pa ma FA w9 HA9.out.ok.few HA9.out.rep).mono ?_
      rintro e w10 ⟨va, rfl, hsa, _, hb⟩
      have HA10 := Lib.hid (HA9.out.stay hb)
      have HB10 := Lib.hid (HB9.out.stay hb)
      have H10 := Lib.hid (H9.out.stay hb)
      have HIA := Lib.hid (Rd.of_sl hsa)
      clear hb hsa HA9 HB9 H9
      go_wp2_with fail
      refine (image_any pb mb FB9 w10 HB10.out.ok.few HB10.out.rep).mono ?_
      rintro e w11 ⟨vb, rfl, hsb, _, hb⟩
      have HA11 := Lib.hid (HA10.out.stay hb)
      have HB11 := Lib.hid (HB10.out.stay hb)
      have H11 := Lib.hid (H10.out.stay hb)
      have HIA1 := Lib.hid (HIA.out.below hb)
      rw [HAB.out] at hsb
      have HIB1 := Lib.hid (Rd.of_sl hsb)
      clear hb hsb HA10 HB10 H10 HIA
      have HS := Lib.hid (sanity_any w11 H11.out.tab)
      go_wp2_with fail
      refine HS.out.mono ?_
      rintro e w12 ⟨rfl, hb⟩
      have HA12 := Lib.hid (HA11.out.stay hb)
      have HB12 := Lib.hid (HB11.out.stay hb)
      have H12 := Lib.hid (H11.out.stay hb)
      have himl : (imgOf ma).length = ma.L.length := List.length_map ..
      have hsi := sameImage_any (imgOf ma) va vb w12 (imgOf_ok HA11.out.ok) (by rw [himl, HAL.out]; omega) (by rw [himl, imgOf_flat]; exact HIA1.out.below hb) (by rw [himl, imgOf_flat]; exact HIB1.out.below hb)
      have HSI := Lib.hid hsi
      clear hb HS HA11 HB11 H11 hsi himl HIA1 HIB1
      go_wp2_with fail
      refine HSI.out.mono ?_
      rintro e w13 ⟨rfl, hb⟩
      have HA13 := Lib.hid (HA12.out.stay hb)
      have HB13 := Lib.hid (HB12.out.stay hb)
      have H13 := Lib.hid (H12.out.stay hb)
      clear hb HSI HA12 HB12 H12
      have hsl : m2.seen.length = m2.L.length := List.length_map ..
      have HSL := Lib.hid hsl
      have HSO := Lib.hid (seen_ok H13.out.ok)
      clear hsl
      go_wp2_with fail
      refine (seen_any pa ma FA w13 HA13.out.ok HA13.out.rep HA13.out.tab).mono ?_
      rintro e w14 ⟨sa, rfl, hsa, _, hb⟩
      rw [HSA.out, HAL.out, ← HSL.out] at hsa
      have HB14 := Lib.hid (HB13.out.stay hb)
      have H14 := Lib.hid (H13.out.stay hb)
      have R14 := Lib.hid (Rd.of_sl hsa)
      clear hb hsa HA13 HB13 H13
      go_wp2_with fail
      refine (seen_any p m2 F3 w14 H14.out.ok H14.out.rep H14.out.tab).mono ?_
      rintro e w15 ⟨sm, rfl, hsm, _, hb⟩
      rw [← HSL.out] at hsm
      have HB15 := Lib.hid (HB14.out.stay hb)
      have H15 := Lib.hid (H14.out.stay hb)
      have HSS := Lib.hid (sameSeen_any m2.seen sa sm w15 HSO.out (by rw [HSL.out]; omega) (R14.out.below hb) (Rd.of_sl hsm))
      clear hb hsm HB14 H14 R14
      go_wp2_with fail
      refine HSS.out.mono ?_
      rintro e w16 ⟨rfl, hb⟩
      have HB16 := Lib.hid (HB15.out.stay hb)
      have H16 := Lib.hid (H15.out.stay hb)
      clear hb HB15 H15 HSS
      go_wp2_with fail
      refine (seen_any pb mb FB9 w16 HB16.out.ok HB16.out.rep HB16.out.tab).mono ?_
      rintro e w17 ⟨sb, rfl, hsb, _, hb⟩
      rw [HSB.out, HAB.out, HAL.out, ← HSL.out] at hsb
      have H17 := Lib.hid (H16.out.stay hb)
      have R17 := Lib.hid (Rd.of_sl hsb)
      clear hb hsb HB16 H16
      go_wp2_with fail
      refine (seen_any p m2 F3 w17 H17.out.ok H17.out.rep H17.out.tab).mono ?_
      rintro e w18 ⟨sm2, rfl, hsm, _, hb⟩
      rw [← HSL.out] at hsm
      have H18 := Lib.hid (H17.out.stay hb)
      have HSS := Lib.hid (sameSeen_any m2.seen sb sm2 w18 HSO.out (by rw [HSL.out]; omega) (R17.out.below hb) (Rd.of_sl hsm))
      clear hb hsm H17 R17
      go_wp2_with fail
      refine HSS.out.mono ?_
      rintro e w19 ⟨rfl, hb⟩
      have H19 := Lib.hid (H18.out.stay hb)
      clear hb H18 HSS
      go_wp2_with fail
      go_ret
      exact ⟨rfl, H19.out.below⟩
end Go.Proofs.YtmnncbgibngmiaaDoor
