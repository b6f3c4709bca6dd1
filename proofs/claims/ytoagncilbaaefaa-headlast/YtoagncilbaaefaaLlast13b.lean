/-
  The law of the last sample: its walk.
-/
import Derived.Test.YtoagncilbaaefaaLlast13
import Derived.Test.YtoagncilbaaefaaWlast
namespace Go.Proofs.Ytoagncilbaaefaa.Hd
open Go.RowKit Go.Proofs.Lys Go.Maps Go.Proofs.Ytoagncilbaaefaa.N
set_option linter.unusedVariables false
set_option linter.unusedSimpArgs false

/-- Numbers that are read. -/
def IntSrc (w : World) (v : Value) (l : List Int) : Prop :=
  (∃ a c, v = .slice a 0 c ∧ l = []) ∨
  (0 < l.length ∧ ∃ b o c, v = .slice (some ⟨b, o, none⟩) l.length c ∧ ∀ i (hi : i < l.length), w.cell? ⟨b, o + i, none⟩ = some (.int .i64 l[i]))
theorem IntSrc.len {w : World} {v : Value} {l : List Int} (h : IntSrc w v l) : ∃ a c, v = .slice a l.length c := by
  rcases h with ⟨a, c, rfl, rfl⟩ | ⟨_, b, o, c, rfl, _⟩
  · exact ⟨a, c, rfl⟩
  · exact ⟨_, c, rfl⟩
theorem IntSrc.stay {w W : World} {v : Value} {l : List Int} (h : IntSrc w v l) (k : Kept w W) : IntSrc W v l := by
  rcases h with h | ⟨h0, b, o, c, rfl, hc⟩
  · exact .inl h
  · exact .inr ⟨h0, b, o, c, rfl, fun i hi => only_cell k (fun f => f) (hc i hi)⟩
theorem IntSrc.cell {w : World} {a : Option Addr} {c M : Nat} {l : List Int} (h : IntSrc w (.slice a M c) l) (hM : l.length = M) (k : Nat) (hk : k < M) : ∃ b o, a = some ⟨b, o, none⟩ ∧ w.cell? ⟨b, o + k, none⟩ = some (Value.int .i64 (l[k]'(by omega))) := by
  rcases h with ⟨a, c, e, e2⟩ | ⟨hpos, b, o, c, e1, hc⟩
  · subst e2
    simp at hM
    omega
  · rw [hM] at e1
    cases e1
    exact ⟨b, o, rfl, hc k (by omega)⟩

/-- The samples of times and values. -/
def tvL (ts vs : List Int) : List Smp := ts.zip vs
theorem tv_len {ts vs : List Int} (h : ts.length ≤ vs.length) : (tvL ts vs).length = ts.length := by
  unfold tvL
  rw [List.length_zip]
  omega
theorem tv_get {ts vs : List Int} {k : Nat} (hk : k < ts.length) (hk2 : k < vs.length) : (tvL ts vs)[k]? = some (ts[k], vs[k]) := by
  unfold tvL
  rw [List.getElem?_zip_eq_some]
  exact ⟨List.getElem?_eq_getElem hk, List.getElem?_eq_getElem hk2⟩
theorem tv_take {ts vs : List Int} {k : Nat} (hk : k < ts.length) (hk2 : k < vs.length) : (tvL ts vs).take (k + 1) = (tvL ts vs).take k ++ [(ts[k], vs[k])] := by
  have h := tv_get hk hk2
  have hl := (List.getElem?_eq_some_iff.1 h)
  obtain ⟨h1, h2⟩ := hl
  rw [← List.take_append_getElem h1, h2]
/-- What is known behind so many times. -/
structure LastI (ts vs : List Int) (k : Nat) (s : Smps) : Prop where
  put : s = putAll [] ((tvL ts vs).take k)
  rng : ∀ y ∈ (tvL ts vs).take k, -1000 ≤ y.1 ∧ y.1 ≤ 1000
theorem last_step {ts vs : List Int} {k : Nat} {s : Smps} (h : LastI ts vs k s) (hk : k < ts.length) (hk2 : k < vs.length) (hr : -1000 ≤ ts[k] ∧ ts[k] ≤ 1000) : LastI ts vs (k + 1) (putS (ts[k], vs[k]) s) ∧ writeM 9007199254740992 (stX s) [(labA nmX, (ts[k], vs[k]))] = .ok (stX (putS (ts[k], vs[k]) s)) := by
  have e := tv_take hk hk2
  have hw := write_stX (l := (tvL ts vs).take k) (x := (ts[k], vs[k])) hr h.rng
  rw [putAll_snoc, ← h.put] at hw
  refine ⟨⟨?_, fun y hy => ?_⟩, hw⟩
  · rw [e, putAll_snoc, ← h.put]
  · rw [e] at hy
    rcases List.mem_append.1 hy with hy | hy
    · exact h.rng y hy
    · rw [List.mem_singleton.1 hy]
      exact hr
/-- What the inner loop knows. -/
def wantB (ts vs : List Int) (k : Nat) (t : Int) : Bool := (lastV ((tvL ts vs).take k) t).isSome
def wantV (ts vs : List Int) (k : Nat) (t : Int) : Int := (lastV ((tvL ts vs).take k) t).getD 0
theorem want_step {ts vs : List Int} {k : Nat} (hk : k < ts.length) (hk2 : k < vs.length) (t : Int) : (ts[k] = t → wantB ts vs (k + 1) t = true ∧ wantV ts vs (k + 1) t = vs[k]) ∧ (ts[k] ≠ t → wantB ts vs (k + 1) t = wantB ts vs k t ∧ wantV ts vs (k + 1) t = wantV ts vs k t) := by
  unfold wantB wantV
  rw [tv_take hk hk2, lastV_snoc]
  constructor
  · intro h
    rw [if_pos h]
    exact ⟨rfl, rfl⟩
  · intro h
    rw [if_neg h]
    exact ⟨rfl, rfl⟩

/-- Has one of the first samples that time? -/
def thereB (S : Smps) (i : Nat) (t : Int) : Bool := (S.take i).any (fun y => decide (y.1 = t))
theorem there_step {S : Smps} {i : Nat} (hi : i < S.length) (t : Int) : thereB S (i + 1) t = (thereB S i t || decide (S[i].1 = t)) := by
  unfold thereB
  rw [← List.take_append_getElem hi, List.any_append]
  simp
/-- What is known of the samples at the end. -/
structure LastF (ts vs : List Int) (S : Smps) : Prop where
  rise : RiseS S
  yes : ∀ i (hi : i < S.length), wantB ts vs ts.length S[i].1 = true ∧ wantV ts vs ts.length S[i].1 = S[i].2
  all : ∀ k (hk : k < ts.length), thereB S S.length ts[k] = true
theorem last_fin {ts vs : List Int} {S : Smps} (hl : ts.length ≤ vs.length) (h : LastI ts vs ts.length S) : LastF ts vs S := by
  have htk : (tvL ts vs).take ts.length = tvL ts vs := List.take_of_length_le (by rw [tv_len hl]; exact Nat.le_refl _)
  have hm : ∀ y : Smp, y ∈ S ↔ lastV (tvL ts vs) y.1 = some y.2 := fun y => by
    have := putAll_mem ((tvL ts vs).take ts.length) y
    rw [← h.put, htk] at this
    exact this
  refine ⟨by rw [h.put]; exact putAll_rise List.Pairwise.nil _, fun i hi => ?_, fun k hk => ?_⟩
  · have h1 := (hm S[i]).1 (List.getElem_mem hi)
    unfold wantB wantV
    rw [htk, h1]
    exact ⟨rfl, rfl⟩
  · have h2 := tv_get hk (show k < vs.length by omega)
    obtain ⟨h3, h4⟩ := List.getElem?_eq_some_iff.1 h2
    obtain ⟨v, hv⟩ := lastV_some h3
    rw [h4] at hv
    have h5 := (hm (ts[k], v)).2 hv
    unfold thereB
    rw [List.take_length]
    exact List.any_eq_true.2 ⟨_, h5, by simp⟩

set_option maxRecDepth 100000 in
set_option maxHeartbeats 16000000 in
theorem last_walk (w : World) (hMx : Mx w) (va vb : Value) (ts vs : List Int) (ha : IntSrc w va ts) (hb : IntSrc w vb vs) (hla : ts.length ≤ 1000000000000000) (hlb : vs.length ≤ 1000000000000000) :
    Calls Try.prog 3 #[va, vb] w fun e w' => e = .returned (.bool true) ∧ Kept w w' := by
  have HAL := hid (alive_any w hMx)
  have HN := hid (fun W n => num_any W n)
  have HMX := hid hMx
  obtain ⟨a1, c1, rfl⟩ := ha.len
  obtain ⟨a2, c2, rfl⟩ := hb.len
  obtain ⟨L, hL⟩ : ∃ L, ts.length = L := ⟨_, rfl⟩
  obtain ⟨L2, hL2⟩ : ∃ L2, vs.length = L2 := ⟨_, rfl⟩
  rw [hL] at ha hla ⊢
  rw [hL2] at hb hlb ⊢
  have HA := hid ha
  have HB := hid hb
  have HL := hid hL
  have HL2 := hid hL2
  clear hMx ha hb hL hL2
  by_cases g1 : 100 < L
  · have d1 : (100 : Int) < (L : Int) := by omega
    go_enter Try.func3, Try.ntmps3
    go_wp2_with fail
    refine HAL.out.mono ?_
    rintro e w1 ⟨rfl, k1⟩
    have HK := hid k1
    clear k1 HAL
    go_wp2
    go_ret
    exact ⟨rfl, HK.out⟩
  by_cases g2 : L2 < L
  · have d1 : ¬ (100 : Int) < (L : Int) := by omega
    have d1' : decide ((100 : Int) < (L : Int)) = false := decide_eq_false d1
    have d2 : (L2 : Int) < (L : Int) := by omega
    go_enter Try.func3, Try.ntmps3
    go_wp2_with fail
    refine HAL.out.mono ?_
    rintro e w1 ⟨rfl, k1⟩
    have HK := hid k1
    clear k1 HAL
    go_wp2
    go_ret
    exact ⟨rfl, HK.out⟩
  have d1 : ¬ (100 : Int) < (L : Int) := by omega
  have d1' : decide ((100 : Int) < (L : Int)) = false := decide_eq_false d1
  have d2 : ¬ (L2 : Int) < (L : Int) := by omega
  have d2' : decide ((L2 : Int) < (L : Int)) = false := decide_eq_false d2
  have HR := hid (fun W t v => row_any W nmX t v)
  go_enter Try.func3, Try.ntmps3
  go_wp2_with fail
  refine HAL.out.mono ?_
  rintro e w1 ⟨rfl, k1⟩
  have HNW := hid (new_in k1 9007199254740992)
  clear k1 HAL
  go_wp2_with fail
  refine HNW.out.mono ?_
  rintro e w2 ⟨h, O, rfl, hI, hwin, k2, _⟩
  have hwin' : h.win = 9007199254740992 := by rw [hwin]; decide
  have HI := hid hI
  have HW := hid hwin'
  clear hI hwin hwin' k2 HNW
  obtain ⟨hb, hhb⟩ : ∃ hb, h.hb = hb := ⟨_, rfl⟩
  rw [hhb]
  have HHB := hid hhb
  clear hhb
  go_wp2
  go_loopw [7] (fun s wr => ∃ (k : Nat) (h : HeadC) (O : Nat → Prop) (sm : Smps), k ≤ L ∧ s = .int .i64 (k : Int) ∧ LastI ts vs k sm ∧ HeadIn w wr h O (stX sm) ∧ h.hb = hb ∧ h.win = 9007199254740992) (fun s _ => L - (intOf s).toNat)
  case atStart => exact ⟨0, h, O, [], by omega, rfl, ⟨rfl, fun y hy => (by cases hy)⟩, HI.out, HHB.out, HW.out⟩
  case round =>
    obtain ⟨k, h, O, sm, hk, rfl, hLI, hI, hhb, hwn⟩ := hrel
    have HLI := hid hLI
    have HI := hid hI
    have HB0 := hid hhb
    have HW0 := hid hwn
    have HK := hid hI.kept
    clear hLI hhb hwn
    by_cases hlt : k < L
    · have hk1 : k < ts.length := by have := HL.out; omega
      have hk2 : k < vs.length := by have := HL2.out; omega
      have hlt2 : k < L2 := by omega
      obtain ⟨b1, o1, rfl, x1⟩ := (HA.out.stay hI.kept).cell HL.out k hlt
      obtain ⟨b2, o2, rfl, x2⟩ := (HB.out.stay hI.kept).cell HL2.out k (by omega)
      have HST := hid (fun hr => last_step HLI.out hk1 hk2 hr)
      have hsl : countM (stX sm) ≤ 90000 := by
        rw [stX_len, HLI.out.put]
        have h1 := putAll_len ((tvL ts vs).take k) []
        rw [List.length_take] at h1
        simp only [List.length_nil] at h1
        omega
      have hlo1 : b1 < w.heap.size := by
        obtain ⟨b, o, e, hx⟩ := HA.out.cell HL.out k hlt
        cases e
        exact World.block_lt_of_cell? _ _ hx
      have hlo2 : b2 < w.heap.size := by
        obtain ⟨b, o, e, hx⟩ := HB.out.cell HL2.out k (by omega)
        cases e
        exact World.block_lt_of_cell? _ _ hx
      clear hI
      generalize ts[k]'hk1 = T at *
      generalize vs[k]'hk2 = V at *
      by_cases t1 : T < -1000
      · have e1 : decide (T < -1000) = true := decide_eq_true t1
        go_wp2
        go_ret
        exact ⟨rfl, HK.out⟩
      by_cases t2 : 1000 < T
      · have e1 : decide (T < -1000) = false := decide_eq_false t1
        have e2 : decide (1000 < T) = true := decide_eq_true t2
        go_wp2
        go_ret
        exact ⟨rfl, HK.out⟩
      have e1 : decide (T < -1000) = false := decide_eq_false t1
      have e2 : decide (1000 < T) = false := decide_eq_false t2
      obtain ⟨hL1, hWM⟩ := HST.out ⟨by omega, by omega⟩
      have HL1 := hid hL1
      have X1 := hid x1
      have X2 := hid x2
      have hold : Hid (∀ W, Only O wr W → W.cell? ⟨b1, o1 + k, none⟩ = some (.int .i64 T) ∧ W.cell? ⟨b2, o2 + k, none⟩ = some (.int .i64 V)) := fun W kW => ⟨only_cell kW (fun e => by have := HI.out.new _ e; have e : w.heap.size ≤ b1 := this; omega) X1.out, only_cell kW (fun e => by have := HI.out.new _ e; have e : w.heap.size ≤ b2 := this; omega) X2.out⟩
      have HWM := hid hWM
      clear HST hL1 hWM
      go_wp2_with fail
      refine wp_region_noPanic ?_
      refine wp_region_last (L := 1000) (S := fun w' => w'.cell? ⟨b1, o1 + k, none⟩ = some (.int .i64 T) ∧ w'.cell? ⟨b2, o2 + k, none⟩ = some (.int .i64 V)) (by kernel_rfl) ?_
      have hS : (fun w' : World => w'.cell? ⟨b1, o1 + k, none⟩ = some (.int .i64 T) ∧ w'.cell? ⟨b2, o2 + k, none⟩ = some (.int .i64 V)) wr.drew := ⟨x1, x2⟩
      clear x1 x2
      refine wpAnyN_take (i := 0) (v := .pointer (some ⟨hb, 0, none⟩)) rfl (by kernel_rfl) (by kernel_rfl) (by kernel_rfl) (by decide) (by kernel_rfl) (fun _ _ _ h => h) (Or.inl ⟨by rfl, ?_⟩) hS ?_
      · (intro w' hSw; obtain ⟨s0, s1⟩ := hSw; go_simp)
      go_frame
      refine wpAnyN_take (i := 1) (v := .slice (some ⟨b1, o1, none⟩) L c1) rfl (by kernel_rfl) (by kernel_rfl) (by kernel_rfl) (by decide) (by kernel_rfl) (fun _ _ _ h => h) (Or.inl ⟨by rfl, ?_⟩) hS ?_
      · (intro w' hSw; obtain ⟨s0, s1⟩ := hSw; go_simp)
      go_frame
      refine wpAnyN_take (i := 2) (v := .int .i64 (k : Int)) rfl (by kernel_rfl) (by kernel_rfl) (by kernel_rfl) (by decide) (by kernel_rfl) (fun _ _ _ h => h) (Or.inl ⟨by rfl, ?_⟩) hS ?_
      · (intro w' hSw; obtain ⟨s0, s1⟩ := hSw; go_simp)
      go_frame
      refine wpAnyN_take (i := 3) (v := .pointer (some ⟨b1, o1 + k, none⟩)) rfl (by kernel_rfl) (by kernel_rfl) (by kernel_rfl) (by decide) (by kernel_rfl) (fun _ _ _ h => h) (Or.inl ⟨by rfl, ?_⟩) hS ?_
      · (intro w' hSw; obtain ⟨s0, s1⟩ := hSw; go_simp)
      go_frame
      refine wpAnyN_take (i := 4) (v := .int .i64 T) rfl (by kernel_rfl) (by kernel_rfl) (by kernel_rfl) (by decide) (by kernel_rfl) (fun _ _ _ h => h) (Or.inl ⟨by rfl, ?_⟩) hS ?_
      · (intro w' hSw; obtain ⟨s0, s1⟩ := hSw; go_simp)
      go_frame
      refine wpAnyN_take (i := 5) (v := .slice (some ⟨b2, o2, none⟩) L2 c2) rfl (by kernel_rfl) (by kernel_rfl) (by kernel_rfl) (by decide) (by kernel_rfl) (fun _ _ _ h => h) (Or.inl ⟨by rfl, ?_⟩) hS ?_
      · (intro w' hSw; obtain ⟨s0, s1⟩ := hSw; go_simp)
      go_frame
      refine wpAnyN_take (i := 6) (v := .int .i64 (k : Int)) rfl (by kernel_rfl) (by kernel_rfl) (by kernel_rfl) (by decide) (by kernel_rfl) (fun _ _ _ h => h) (Or.inl ⟨by rfl, ?_⟩) hS ?_
      · (intro w' hSw; obtain ⟨s0, s1⟩ := hSw; go_simp)
      go_frame
      refine wpAnyN_take (i := 7) (v := .pointer (some ⟨b2, o2 + k, none⟩)) rfl (by kernel_rfl) (by kernel_rfl) (by kernel_rfl) (by decide) (by kernel_rfl) (fun _ _ _ h => h) (Or.inl ⟨by rfl, ?_⟩) hS ?_
      · (intro w' hSw; obtain ⟨s0, s1⟩ := hSw; go_simp)
      go_frame
      refine wpAnyN_take (i := 8) (v := .int .i64 V) rfl (by kernel_rfl) (by kernel_rfl) (by kernel_rfl) (by decide) (by kernel_rfl) (fun _ _ _ h => h) (Or.inl ⟨by rfl, ?_⟩) hS ?_
      · (intro w' hSw; obtain ⟨s0, s1⟩ := hSw; go_simp)
      go_frame
      refine wpAnyL_one (i := 9) (by kernel_rfl) rfl rfl ?_
      go_simp
      refine (HR.out _ T V).mono ?_
      rintro e w3 ⟨rfl, hl3, k3⟩
      have k3' : Kept wr w3 := ((Only.refl _ wr).drew).trans k3 (fun _ _ f => f)
      have HWr := hid (row_write HMX.out HI.out hsl nmX (by decide) T V _ (by simp) k3' hl3)
      rw [HW0.out, HB0.out, HWM.out] at HWr
      simp only [errM, modM] at HWr
      have K3 := hid k3'
      clear k3 k3' hl3
      refine ⟨hold.out _ (K3.out.mono (fun _ _ f => f.elim)), ?_⟩
      (try go_frame)
      refine wpAnyL_one (i := 10) (by kernel_rfl) rfl rfl ?_
      go_simp
      refine ⟨hold.out _ ((K3.out.mono (fun _ _ f => f.elim)).alloc _), ?_⟩
      (try go_frame)
      refine wpAnyL_one (i := 11) (by kernel_rfl) rfl rfl ?_
      go_simp
      refine HWr.out.mono ?_
      rintro e w4 ⟨rfl, h4, O4, hP4⟩
      refine ⟨hold.out _ hP4.only, ?_⟩
      have HI4 := hid hP4.in_
      have HW4 := hid (hP4.win.trans HW0.out)
      have HB4 := hid (hP4.hb.trans HB0.out)
      have hS4 := hid (hold.out _ hP4.only)
      clear hP4 HWr
      (try go_frame)
      refine wpAnyL_one (i := 12) (by kernel_rfl) rfl rfl ?_
      go_simp
      refine ⟨hS4.out, ?_⟩
      (try go_frame)
      refine wpAnyN_done (by kernel_rfl) ?_
      refine NoPanic.normal ?_
      clear hS
      go_wp2_with fail
      refine (HN.out _ _).mono ?_
      rintro e w9 ⟨rfl, hw⟩
      replace hw := hw.symm
      subst hw
      go_wp2
      refine ⟨⟨k + 1, h4, O4, _, by omega, by go_num, HL1.out, HI4.out, HB4.out, HW4.out⟩, ?_⟩
      simp [intOf]
      omega
    · have e : k = L := by omega
      subst e
      have hLF : LastF ts vs sm := last_fin (by have := HL.out; have := HL2.out; omega) (by rw [HL.out]; exact HLI.out)
      have HLF := hid hLF
      have hsl : countM (stX sm) ≤ 100000 ∧ sm.length ≤ 1000 := by
        have h1 := putAll_len ((tvL ts vs).take k) []
        rw [List.length_take, ← HLI.out.put] at h1
        simp only [List.length_nil] at h1
        rw [stX_len]
        omega
      have kA : Kept wr (wr.alloc (.cells #[.string ⟨#[97]⟩, .string nmX] 39)) := (Only.refl _ wr).alloc _
      have hI2 := hI.stay kA
      have HSM := hid (samples_any hI2.at_ hI2.is_ hsl.1 _ (labA nmX) (lab_lit wr (⟨#[97]⟩, nmX)) (by decide) (fun x hx => by
        have : x = (⟨#[97]⟩, nmX) := by simpa using hx
        rw [this]
        exact ⟨by show (⟨#[97]⟩ : ByteArray).size ≤ 100000; decide, by show nmX.size ≤ 100000; decide⟩))
      rw [look_stX, HB0.out] at HSM
      have KA := hid hI2.kept
      clear hLF hI2 kA hI
      go_wp2_with fail
      refine HSM.out.mono ?_
      rintro e w3 ⟨u, rfl, hu, k3⟩
      obtain ⟨a9, c9, rfl⟩ := ownN_slice hu
      have HU := hid (SmpAt.src hu)
      have K3 := hid (KA.out.trans k3 (fun _ _ f => f))
      clear hu k3 HSM KA
      obtain ⟨N, hN⟩ : ∃ N, sm.length = N := ⟨_, rfl⟩
      have HNN := hid hN
      have hNb : N ≤ 1000 := by rw [← hN]; exact hsl.2
      rw [hN] at HU ⊢
      clear hN hsl
      go_wp2
      go_loopw [10] (fun s wr => ∃ (i : Nat), i ≤ N ∧ s = .int .i64 (i : Int) ∧ Kept w3 wr) (fun s _ => N - (intOf s).toNat)
      case atStart => exact ⟨0, by omega, rfl, Only.refl _ _⟩
      case round =>
        obtain ⟨i, hi, rfl, kr⟩ := hrel
        have HKi := hid kr
        by_cases hlti : i < N
        · have hil : i < sm.length := by have := HNN.out; omega
          obtain ⟨b9, o9, rfl, z0, z1⟩ := (HU.out.stay kr).cell HNN.out i hlti
          obtain ⟨hy1, hy2⟩ := HLF.out.yes i hil
          rw [HL.out] at hy1 hy2
          have HZ : Hid (∀ W, Kept w3 W → W.cell? ⟨b9, o9 + i * 2, none⟩ = some (.int .i64 (sm[i]'hil).1) ∧ W.cell? ⟨b9, o9 + i * 2 + 1, none⟩ = some (.int .i64 (sm[i]'hil).2)) := fun W kW => by
            obtain ⟨b, o, e, h1, h2⟩ := (HU.out.stay kW).cell HNN.out i hlti
            simp only [Option.some.injEq, Addr.mk.injEq] at e
            obtain ⟨rfl, rfl, _⟩ := e
            exact ⟨h1, h2⟩
          have HPR : Hid (∀ i', i = i' + 1 → ∀ W, Kept w3 W → ∃ t', W.cell? ⟨b9, o9 + i' * 2, none⟩ = some (.int .i64 t') ∧ t' < (sm[i]'hil).1) := fun i' e W kW => by
            obtain ⟨b, o, e2, h1, h2⟩ := (HU.out.stay kW).cell HNN.out i' (by omega)
            simp only [Option.some.injEq, Addr.mk.injEq] at e2
            obtain ⟨rfl, rfl, _⟩ := e2
            exact ⟨_, h1, rise_get HLF.out.rise (by omega) hil⟩
          have HY1 := hid hy1
          have HY2 := hid hy2
          clear kr z0 z1 hy1 hy2
          generalize (sm[i]'hil).1 = T at *
          generalize (sm[i]'hil).2 = V at *
          go_wp2
          go_loopw [11, 12, 13] (fun s1 s2 s3 wr => ∃ (j : Nat), j ≤ k ∧ s3 = .int .i64 (j : Int) ∧ s2 = .bool (wantB ts vs j T) ∧ s1 = .int .i64 (wantV ts vs j T) ∧ Kept w3 wr) (fun _ _ s _ => k - (intOf s).toNat)
          case atStart => exact ⟨0, by omega, rfl, rfl, rfl, HKi.out⟩
          case round =>
            obtain ⟨j, hj, rfl, rfl, rfl, kr⟩ := hrel
            have HKj := hid kr
            by_cases hltj : j < k
            · have hj1 : j < ts.length := by have := HL.out; omega
              have hj2 : j < vs.length := by have := HL2.out; omega
              have hj3 : j < L2 := by omega
              obtain ⟨b1, o1, rfl, y1⟩ := (HA.out.stay (K3.out.trans kr (fun _ _ f => f))).cell HL.out j hltj
              obtain ⟨b2, o2, rfl, y2⟩ := (HB.out.stay (K3.out.trans kr (fun _ _ f => f))).cell HL2.out j hj3
              obtain ⟨z0, z1⟩ := HZ.out _ kr
              have hws := want_step hj1 hj2 T
              have HWS := hid hws
              have Y2 := hid y2
              clear kr hws z1 y2
              generalize ts[j]'hj1 = T1 at *
              generalize vs[j]'hj2 = V1 at *
              by_cases hTT : T1 = T
              · obtain ⟨hw1, hw2⟩ := HWS.out.1 hTT
                have HW1 := hid hw1
                have HW2 := hid hw2
                subst hTT
                clear hw1 hw2
                go_wp2_with fail
                go_quiet (fail)
                have y2 : (wr.drewN nq).cell? ⟨b2, o2 + j, none⟩ = some (.int .i64 V1) := Y2.out
                go_wp2
                refine ⟨⟨j + 1, by omega, by go_num, by rw [HW1.out], by rw [HW2.out], kept_drewN HKj.out _⟩, ?_⟩
                simp [intOf]
                omega
              · obtain ⟨hw1, hw2⟩ := HWS.out.2 hTT
                have HW1 := hid hw1
                have HW2 := hid hw2
                have hdT : decide (T1 = T) = false := decide_eq_false hTT
                clear hw1 hw2
                go_wp2_with fail
                go_quiet (fail)
                go_wp2
                refine ⟨⟨j + 1, by omega, by go_num, by rw [HW1.out], by rw [HW2.out], kept_drewN HKj.out _⟩, ?_⟩
                simp [intOf]
                omega
            · have e : j = k := by omega
              subst e
              obtain ⟨z0, z1⟩ := HZ.out _ kr
              rw [HY1.out, HY2.out]
              clear kr
              cases i with
              | zero =>
                go_wp2_with fail
                go_quiet (fail)
                go_wp2
                refine ⟨⟨0 + 1, by omega, by go_num, kept_drewN HKj.out _⟩, ?_⟩
                simp [intOf]
                omega
              | succ i' =>
                obtain ⟨t', zp, hlt'⟩ := HPR.out i' rfl _ HKj.out
                have hd5 : decide (T ≤ t') = false := decide_eq_false (by omega)
                have hd6 : decide ((0 : Int) < (i' : Int) + 1) = true := decide_eq_true (by omega)
                have hw7 : IntKind.i64.wrap ((i' : Int) + 1 - 1) = (i' : Int) := by rw [IntKind.wrap_i64]; omega
                have hw8 : IntKind.i64.wrap (i' : Int) = (i' : Int) := by rw [IntKind.wrap_i64]; omega
                have hi9 : i' < N := by omega
                go_wp2_with fail
                go_quiet (fail)
                go_wp2
                refine ⟨⟨i' + 1 + 1, by omega, by go_num, kept_drewN HKj.out _⟩, ?_⟩
                simp [intOf]
                omega
        · have e : i = N := by omega
          subst e
          go_wp2
          go_loopw [14] (fun s wr => ∃ (q : Nat), q ≤ k ∧ s = .int .i64 (q : Int) ∧ Kept w3 wr) (fun s _ => k - (intOf s).toNat)
          case atStart => exact ⟨0, by omega, rfl, HKi.out⟩
          case round =>
            obtain ⟨q, hq, rfl, kr⟩ := hrel
            have HKq := hid kr
            by_cases hltq : q < k
            · have hq1 : q < ts.length := by have := HL.out; omega
              obtain ⟨b1, o1, rfl, y1⟩ := (HA.out.stay (K3.out.trans kr (fun _ _ f => f))).cell HL.out q hltq
              have hth := HLF.out.all q hq1
              rw [HNN.out] at hth
              have HTH := hid hth
              have HY : Hid (∀ W, Kept w3 W → W.cell? ⟨b1, o1 + q, none⟩ = some (.int .i64 (ts[q]'hq1))) := fun W kW => by
                obtain ⟨b, o, e, h1⟩ := (HA.out.stay (K3.out.trans kW (fun _ _ f => f))).cell HL.out q hltq
                simp only [Option.some.injEq, Addr.mk.injEq] at e
                obtain ⟨rfl, rfl, _⟩ := e
                exact h1
              clear kr hth y1
              generalize ts[q]'hq1 = T at *
              go_wp2
              go_loopw [15, 16] (fun s1 s2 wr => ∃ (j : Nat), j ≤ i ∧ s2 = .int .i64 (j : Int) ∧ s1 = .bool (thereB sm j T) ∧ Kept w3 wr) (fun _ s _ => i - (intOf s).toNat)
              case atStart => exact ⟨0, by omega, rfl, rfl, HKq.out⟩
              case round =>
                obtain ⟨j, hj, rfl, rfl, kr⟩ := hrel
                have HKj := hid kr
                by_cases hltj : j < i
                · have hj1 : j < sm.length := by have := HNN.out; omega
                  obtain ⟨b9, o9, rfl, z0, z1⟩ := (HU.out.stay kr).cell HNN.out j hltj
                  have y1 := HY.out _ kr
                  have hst := there_step hj1 T
                  clear kr z1
                  generalize (sm[j]'hj1).1 = T1 at *
                  cases hb : thereB sm j T with
                  | true =>
                    rw [hb] at hst
                    have HST := hid hst
                    clear hst hb
                    go_wp2_with fail
                    go_quiet (fail)
                    go_wp2
                    refine ⟨⟨j + 1, by omega, by go_num, by rw [HST.out]; rfl, kept_drewN HKj.out _⟩, ?_⟩
                    simp [intOf]
                    omega
                  | false =>
                    rw [hb, Bool.false_or] at hst
                    have HST := hid hst
                    clear hst hb
                    by_cases hTT : T1 = T
                    · rw [decide_eq_true hTT] at HST
                      subst hTT
                      go_wp2_with fail
                      go_quiet (fail)
                      go_wp2
                      refine ⟨⟨j + 1, by omega, by go_num, by rw [HST.out], kept_drewN HKj.out _⟩, ?_⟩
                      simp [intOf]
                      omega
                    · rw [decide_eq_false hTT] at HST
                      have hdT : decide (T1 = T) = false := decide_eq_false hTT
                      go_wp2_with fail
                      go_quiet (fail)
                      go_wp2
                      refine ⟨⟨j + 1, by omega, by go_num, by rw [HST.out]; simp [hTT], kept_drewN HKj.out _⟩, ?_⟩
                      simp [intOf]
                      omega
                · have e : j = i := by omega
                  subst e
                  rw [HTH.out]
                  clear kr
                  go_wp2
                  refine ⟨⟨q + 1, by omega, by go_num, HKj.out⟩, ?_⟩
                  simp [intOf]
                  omega
            · have e : q = k := by omega
              subst e
              go_wp2
              go_ret
              exact ⟨rfl, K3.out.trans HKq.out (fun _ _ f => f)⟩
end Go.Proofs.Ytoagncilbaaefaa.Hd
