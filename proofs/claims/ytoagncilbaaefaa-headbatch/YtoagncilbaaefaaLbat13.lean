/-
  The law of batches: a batch with a bad row changes nothing; a batch is its rows one by one.
-/
import Derived.Test.YtoagncilbaaefaaHbat
namespace Go.Proofs.Ytoagncilbaaefaa.Hd
open Go.RowKit Go.Proofs.Lys Go.Maps Go.Proofs.Ytoagncilbaaefaa.N
set_option linter.unusedVariables false
set_option linter.unusedSimpArgs false

theorem wf64b {n : Int} (h : (Lit.int .i64 n).wf = true) : -9223372036854775808 ≤ n ∧ n ≤ 9223372036854775807 := by
  simp [Lit.wf, IntKind.min, IntKind.max, IntKind.bits, IntKind.signed] at h
  exact h
theorem batch_step {win : Int} {M F : Mod} {rs : List Row} {i : Nat} (hi : i < rs.length) (hF : rowsM win [] rs = .ok F) (hM : rowsM win [] (rs.take i) = .ok M) : ∃ N, rowM win M rs[i] = .ok N ∧ rowsM win [] (rs.take (i + 1)) = .ok N := by
  have e : rs = rs.take i ++ (rs[i] :: rs.drop (i + 1)) := by rw [← List.drop_eq_getElem_cons hi, List.take_append_drop]
  cases hr : rowM win M rs[i] with
  | error x =>
    rw [e, rowsM_app, hM] at hF
    simp only at hF
    rw [rowsM, hr] at hF
    cases hF
  | ok N =>
    refine ⟨N, rfl, ?_⟩
    rw [take_row hi, rowsM_app, hM]
    simp only
    rw [rowsM, hr]
    rfl
theorem rows_nz {win : Int} (M : Mod) (q : List Row) (x : Int) : rowsM win M q = .error x → x ≠ 0 := by
  induction q generalizing M with
  | nil => intro h; cases h
  | cons r q ih =>
    intro h
    rw [rowsM] at h
    cases hr : rowM win M r with
    | ok N => rw [hr] at h; exact ih N h
    | error y =>
      rw [hr] at h
      simp only [Except.error.injEq] at h
      subst h
      unfold rowM at hr
      split at hr
      · cases hr; decide
      · split at hr
        · cases hr; decide
        · split at hr
          · split at hr
            · cases hr; decide
            · cases hr
          · split at hr
            · cases hr; decide
            · cases hr
theorem write_bad {win : Int} {rs : List Row} {k : Nat} (hl : rs.length ≤ 100) : ∃ e : Int, e ≠ 0 ∧ writeM win [] (rs.take k ++ badR :: rs.drop k) = .error e := by
  have hle : (rs.take k ++ badR :: rs.drop k).length = rs.length + 1 := by simp [List.length_take, List.length_drop]; omega
  unfold writeM
  rw [if_neg (by omega), if_neg (by omega), rowsM_app]
  cases hr : rowsM win [] (rs.take k) with
  | error x => exact ⟨x, rows_nz _ _ _ hr, rfl⟩
  | ok N =>
    refine ⟨20, by decide, ?_⟩
    simp only
    rw [rowsM, rowM]
    simp only [bad_make]
/-- What the whole batch answers. -/
def BatE (rs : List Row) (ey : Int) (Mb : Mod) : Prop := (ey = 0 ∧ rowsM 9007199254740992 [] rs = .ok Mb) ∨ (ey ≠ 0 ∧ Mb = [])
theorem bat_e (rs : List Row) : BatE rs (errM (writeM 9007199254740992 [] rs)) (modM [] (writeM 9007199254740992 [] rs)) := by
  unfold writeM
  by_cases h0 : rs.length = 0
  · rw [if_pos h0]
    exact .inr ⟨by decide, rfl⟩
  · rw [if_neg h0]
    by_cases h1 : 200 < rs.length
    · rw [if_pos h1]
      exact .inr ⟨by decide, rfl⟩
    · rw [if_neg h1]
      cases hr : rowsM 9007199254740992 [] rs with
      | error x => exact .inr ⟨rows_nz _ _ _ hr, rfl⟩
      | ok N => exact .inl ⟨rfl, hr⟩
theorem one_row {rs : List Row} {i : Nat} (hi : i < rs.length) : (rs.take (i + 1)).drop i = [rs[i]] := by
  rw [take_row hi]
  exact List.drop_left' (by rw [List.length_take]; omega)
theorem write_one_ok {win : Int} {M N : Mod} {r : Row} (h : rowM win M r = .ok N) : writeM win M [r] = .ok N := by
  unfold writeM
  rw [if_neg (by simp), if_neg (by simp), rowsM, h]
  rfl
theorem bad_ok {rs : List Row} (h : RowsOk rs) (hl : rs.length ≤ 100) (k : Nat) : RowsOk (rs.take k ++ badR :: rs.drop k) := by
  have hle : (rs.take k ++ badR :: rs.drop k).length = rs.length + 1 := by simp [List.length_take, List.length_drop]; omega
  refine ⟨by omega, fun r hr => ?_⟩
  rcases List.mem_append.1 hr with hr | hr
  · exact h.2 r (List.mem_of_mem_take hr)
  · rcases List.mem_cons.1 hr with rfl | hr
    · refine ⟨by simp, fun x hx => ?_⟩
      have : x = (⟨#[]⟩, ⟨#[]⟩) := by simpa using hx
      rw [this]
      exact ⟨by show (⟨#[]⟩ : ByteArray).size ≤ 100000; decide, by show (⟨#[]⟩ : ByteArray).size ≤ 100000; decide⟩
    · exact h.2 r (List.mem_of_mem_drop hr)
theorem rows_ok {rs : List Row} (hl : rs.length ≤ 1000) (h : ∀ r ∈ rs, bigN r.1 ≤ 4000) : RowsOk rs :=
  ⟨by omega, fun r hr => ⟨by have := (bigN_small (h r hr)).2; omega, (bigN_small (h r hr)).1⟩⟩
theorem mod_small {M : Mod} (h : ModOk M) (hc : countM M ≤ 100000) : M.length ≤ 1000000 ∧ ∀ x ∈ M, x.1.length ≤ 1000000 ∧ x.2.length ≤ 1000000 :=
  ⟨by have := h.len; omega, fun x hx => ⟨by have := (h.made x hx).len16; omega, by have := countM_mem hx; omega⟩⟩
/-- The two heads that the law compares. -/
structure TwoH (w0 W : World) (hb hc : HeadC) (Ob Oc : Nat → Prop) (F M : Mod) : Prop where
  b : HeadIn w0 W hb Ob F
  c : HeadIn w0 W hc Oc M
  apart : ∀ j, Ob j → ¬ Oc j
theorem TwoH.stay {w0 W W' : World} {hb hc : HeadC} {Ob Oc : Nat → Prop} {F M : Mod} (h : TwoH w0 W hb hc Ob Oc F M) (k : Kept W W') : TwoH w0 W' hb hc Ob Oc F M := ⟨h.b.stay k, h.c.stay k, h.apart⟩
theorem TwoH.write {w0 W w' : World} {hb hc hc' : HeadC} {Ob Oc Oc' : Nat → Prop} {F M N : Mod} (h : TwoH w0 W hb hc Ob Oc F M) (hP : WrIn w0 W hc Oc N hc' Oc' w') : TwoH w0 w' hb hc' Ob Oc' F N :=
  ⟨h.b.only hP.only h.apart h.c.new, hP.in_, fun j hj hj' => by
    rcases hP.old j hj' with h1 | h1
    · exact h.apart j hj h1
    · have := h.b.at_.lt j hj
      omega⟩
set_option maxRecDepth 100000 in
set_option maxHeartbeats 8000000 in
theorem batch_walk (w : World) (hMx : Mx w) (v : Value) (rs : List Row) (hs : RowsCap w v rs) (at_ : Int) (hat : -9223372036854775808 ≤ at_ ∧ at_ ≤ 9223372036854775807) :
    Calls Try.prog 5 #[v, .int .i64 at_] w fun e w' => e = .returned (.bool true) ∧ Kept w w' := by
  have HAL := hid (alive_any w hMx)
  have HBG := hid (fun W (k : Kept w W) => bigrows_any W v rs ⟨hs.in_.src.stay k, hs.in_.came, hs.in_.len⟩)
  have HN := hid (fun W n => num_any W n)
  have HMX := hid hMx
  have hsrc0 := hs.in_.src.lt.weak (Z' := fun j => j < w.heap.size) (fun _ h => h.2)
  obtain ⟨ra, rc, rfl, hcap⟩ := hs.cap
  have HLEN := hid hs.in_.len
  have HSRC := hid hsrc0
  obtain ⟨L, hL⟩ : ∃ L, rs.length = L := ⟨_, rfl⟩
  have hLb : L ≤ 1000000000000000 := by rw [← hL]; exact hs.in_.len
  have HCAP := hid hcap
  have HL := hid hL
  clear hs hsrc0 hMx hcap
  rw [hL] at HBG HSRC ⊢
  clear hL
  go_enter Try.func5, Try.ntmps5
  go_wp2_with fail
  refine HAL.out.mono ?_
  rintro e w1 ⟨rfl, k1⟩
  have K1 := hid k1
  clear k1 HAL
  go_wp2_with fail
  refine (HBG.out w1 K1.out).mono ?_
  rintro e w2 ⟨⟨big, rfl, hbig⟩, k2⟩
  have K2 := hid (K1.out.trans k2 (fun _ _ f => f))
  have HBIG := hid hbig
  clear k2 K1 HBG hbig
  cases big with
  | true =>
    go_wp2
    go_ret
    exact ⟨rfl, K2.out⟩
  | false =>
  by_cases g1 : 100 < L
  · have d1 : decide ((100 : Int) < (L : Int)) = true := decide_eq_true (by omega)
    go_wp2
    go_ret
    exact ⟨rfl, K2.out⟩
  have d1 : decide ((100 : Int) < (L : Int)) = false := decide_eq_false (by omega)
  by_cases g2 : at_ < 0
  · have d2 : decide (at_ < 0) = true := decide_eq_true g2
    go_wp2
    go_ret
    exact ⟨rfl, K2.out⟩
  have d2 : decide (at_ < 0) = false := decide_eq_false g2
  by_cases g3 : (L : Int) < at_
  · have d3 : decide ((L : Int) < at_) = true := decide_eq_true g3
    go_wp2
    go_ret
    exact ⟨rfl, K2.out⟩
  have d3 : decide ((L : Int) < at_) = false := decide_eq_false g3
  obtain ⟨k, rfl⟩ : ∃ k : Nat, at_ = (k : Int) := ⟨at_.toNat, by omega⟩
  have hkL : k ≤ L := by omega
  have HKL := hid hkL
  have HRL : Hid (rs.length ≤ 1000) := by have := HL.out; show rs.length ≤ 1000; omega
  have HRL1 : Hid (rs.length ≤ 100) := by have := HL.out; show rs.length ≤ 100; omega
  have HOK := hid (rows_ok HRL.out (HBIG.out rfl))
  have HNW := hid (fun W (kk : Kept w W) => new_in kk 9007199254740992)
  clear HBIG hat
  go_wp2_with fail
  refine (HNW.out _ K2.out).mono ?_
  rintro e w3 ⟨ha, Oa, rfl, hIa, hwa, k3, hna⟩
  obtain ⟨ba, hba⟩ : ∃ b, ha.hb = b := ⟨_, rfl⟩
  have HIa := hid hIa
  have HWa := hid (show ha.win = 9007199254740992 by rw [hwa]; decide)
  have HBa := hid hba
  rw [hba]
  clear hIa hwa k3 hna hba K2
  go_wp2_with fail
  refine (HNW.out _ HIa.out.kept).mono ?_
  rintro e w4 ⟨hb, Ob, rfl, hIb, hwb, k4, hnb⟩
  obtain ⟨bb, hbb⟩ : ∃ b, hb.hb = b := ⟨_, rfl⟩
  have HIb := hid hIb
  have HIa4 := hid (HIa.out.stay k4)
  have HWb := hid (show hb.win = 9007199254740992 by rw [hwb]; decide)
  have HBb := hid hbb
  have HAB := hid (show ∀ j, Ob j → ¬ Oa j from fun j h1 h2 => by have := hnb j h1; have := HIa.out.at_.lt j h2; omega)
  rw [hbb]
  clear hIb hwb k4 hnb hbb HIa
  go_wp2_with fail
  refine (HNW.out _ HIb.out.kept).mono ?_
  rintro e w5 ⟨hc, Oc, rfl, hIc, hwc, k5, hnc⟩
  obtain ⟨bc, hbc⟩ : ∃ b, hc.hb = b := ⟨_, rfl⟩
  have HTW : Hid (TwoH w w5 hb hc Ob Oc [] []) := ⟨HIb.out.stay k5, hIc, fun j h1 h2 => by have := hnc j h2; have := HIb.out.at_.lt j h1; omega⟩
  have HAC := hid (show ∀ j, Oc j → ¬ Oa j from fun j h1 h2 => by have := hnc j h1; have := HIa4.out.at_.lt j h2; omega)
  have HIa5 := hid (HIa4.out.stay k5)
  have HWc := hid (show hc.win = 9007199254740992 by rw [hwc]; decide)
  have HBc := hid hbc
  rw [hbc]
  clear hIc hwc k5 hnc hbc HIa4 HIb HNW
  have hsrc5 := HSRC.out.stay HTW.out.b.kept
  have hcapL : rs.length ≤ rc := HCAP.out
  obtain ⟨a1, c1, s1, hs1⟩ := row_to (rs := rs) (c := rc) (a := ra) (by rw [HL.out]; exact hsrc5) hcapL (hi := k) (by rw [HL.out]; exact hkL)
  obtain ⟨a2, c2, s2, hs2⟩ := row_from (rs := rs) (c := rc) (a := ra) (by rw [HL.out]; exact hsrc5) hcapL (lo := k) (by rw [HL.out]; exact hkL)
  rw [HL.out] at s1 s2 hs2
  obtain ⟨q1, e1, hq1, hcp⟩ := bad_copy hs1 (by rw [List.length_take]; have := HRL.out; omega)
  have HE1 := hid e1
  have HQ1 := hid hq1
  have HCP := hid hcp
  have HS2 := hid hs2
  clear e1 hq1 hcp hs1 hs2 hsrc5 hcapL
  go_wp2_with fail
  apply wp_region_then (D := fun v5 X5 => BadD w5 (fun j => True ∧ j < w.heap.size) rs k v5 X5)
  case h1 =>
    refine wp_region_noPanic ?_
    refine wp_region_last (L := 1000) (S := fun w' => True) (by kernel_rfl) ?_
    have hS : (fun w' : World => True) w5.drew := trivial
    refine wpAnyN_take (i := 0) (v := .slice ra L rc) rfl (by kernel_rfl) (by kernel_rfl) (by kernel_rfl) (by decide) (by kernel_rfl) (fun _ _ _ h => h) (Or.inl ⟨by rfl, ?_⟩) hS ?_
    · (intro w' hSw; go_simp)
    go_frame
    refine wpAnyN_take (i := 1) (v := .int .i64 (k : Int)) rfl (by kernel_rfl) (by kernel_rfl) (by kernel_rfl) (by decide) (by kernel_rfl) (fun _ _ _ h => h) (Or.inl ⟨by rfl, ?_⟩) hS ?_
    · (intro w' hSw; go_simp)
    go_frame
    refine wpAnyN_take (i := 2) (v := .slice a1 k c1) rfl (by kernel_rfl) (by kernel_rfl) (by kernel_rfl) (by decide) (by kernel_rfl) (fun _ _ _ h => h) (Or.inl ⟨by rfl, ?_⟩) hS ?_
    · (intro w' hSw; go_simp)
    go_frame
    refine wpAnyN_take (i := 4) (v := .agg #[.string ⟨#[]⟩, .string ⟨#[]⟩]) rfl (by kernel_rfl) (by kernel_rfl) (by kernel_rfl) (by decide) (by kernel_rfl) (fun _ _ _ h => h) (Or.inl ⟨by rfl, ?_⟩) hS ?_
    · (intro w' hSw; go_simp)
    go_frame
    refine wpAnyN_take (i := 9) (v := .slice ra L rc) rfl (by kernel_rfl) (by kernel_rfl) (by kernel_rfl) (by decide) (by kernel_rfl) (fun _ _ _ h => h) (Or.inl ⟨by rfl, ?_⟩) hS ?_
    · (intro w' hSw; go_simp)
    go_frame
    refine wpAnyN_take (i := 10) (v := .int .i64 (k : Int)) rfl (by kernel_rfl) (by kernel_rfl) (by kernel_rfl) (by decide) (by kernel_rfl) (fun _ _ _ h => h) (Or.inl ⟨by rfl, ?_⟩) hS ?_
    · (intro w' hSw; go_simp)
    go_frame
    refine wpAnyN_take (i := 11) (v := .slice a2 (L - k) c2) rfl (by kernel_rfl) (by kernel_rfl) (by kernel_rfl) (by decide) (by kernel_rfl) (fun _ _ _ h => h) (Or.inl ⟨by rfl, ?_⟩) hS ?_
    · (intro w' hSw; go_simp)
    go_frame
    refine wpAnyL_two (i := 3) (j := 5) (by kernel_rfl) rfl rfl rfl rfl ?_ ?_
    · obtain ⟨v3, X3, R3, hv3, k3, o3⟩ := HCP.out w5.drew ((Only.refl _ w5).drew)
      clear o3
      refine oper_appendH _ _ _ rfl rfl rfl R3 ?_
      refine ⟨trivial, ?_⟩
      go_frame
      refine wpAnyL_one (i := 5) (by kernel_rfl) rfl rfl ?_
      go_simp
      (try go_frame)
      refine wpAnyN_take (i := 6) (v := .agg #[.slice (some ⟨X3.heap.size, 0, none⟩) 1 1, .int .i64 0, .int .i64 0]) rfl (by kernel_rfl) (by kernel_rfl) (by kernel_rfl) (by decide) (by kernel_rfl) (fun _ _ _ h => h) (Or.inl ⟨by rfl, ?_⟩) hS ?_
      · (intro w' hSw; go_simp)
      go_frame
      refine wpAnyL_one (i := 7) (by kernel_rfl) rfl rfl ?_
      go_simp
      (try go_frame)
      have hbl := Blk.new X3 [.string ⟨#[]⟩, .string ⟨#[]⟩] 39
      have hbr := Blk.new (X3.alloc (.cells #[.string ⟨#[]⟩, .string ⟨#[]⟩] 39)) [.slice (some ⟨X3.heap.size, 0, none⟩) 1 1, .int .i64 0, .int .i64 0] 32
      have hsz : (X3.alloc (.cells #[.string ⟨#[]⟩, .string ⟨#[]⟩] 39)).heap.size = X3.heap.size + 1 := by simp
      rw [hsz] at hbr
      have ka : Kept X3 ((X3.alloc (.cells #[.string ⟨#[]⟩, .string ⟨#[]⟩] 39)).alloc (.cells #[.slice (some ⟨X3.heap.size, 0, none⟩) 1 1, .int .i64 0, .int .i64 0] 32)) := ((Only.refl _ X3).alloc _).alloc _
      have hbp : BadP w5 ((X3.alloc (.cells #[.string ⟨#[]⟩, .string ⟨#[]⟩] 39)).alloc (.cells #[.slice (some ⟨X3.heap.size, 0, none⟩) 1 1, .int .i64 0, .int .i64 0] 32)) v3 X3.heap.size (X3.heap.size + 1) q1 := ⟨ownN_stay hv3 ka, (((Only.refl _ w5).drew).trans k3 (fun _ _ f => f)).trans ka (fun _ _ f => f), hbl.alloc _, hbr, Nat.le_trans (Nat.le_refl _) k3.size⟩
      clear hbl hbr hsz ka k3
      obtain ⟨v4, X4, v5, X5, R4, R5, HBD⟩ := bad_tail HE1.out HQ1.out HS2.out HRL.out hbp
      clear hbp
      refine wpAnyL_one (i := 8) (by kernel_rfl) rfl rfl (oper_appendH _ _ _ rfl rfl rfl R4 ?_)
      refine ⟨trivial, ?_⟩
      go_frame
      refine wpAnyL_one (i := 12) (by kernel_rfl) rfl rfl (oper_appendH _ _ _ rfl rfl rfl R5 ?_)
      refine ⟨trivial, ?_⟩
      go_frame
      refine wpAnyL_one (i := 13) (by kernel_rfl) rfl rfl ?_
      go_simp
      refine wpAnyN_done (by kernel_rfl) ?_
      refine NoPanic.normal ?_
      clear hv3 R3 R4 R5
      generalize X3.heap.size + 1 = br
      generalize X3.heap.size = bl
      exact ⟨rfl, bl, br, v3, v4, v5, rfl, HBD.out⟩
    · go_simp
      (try go_frame)
      refine wpAnyN_take (i := 6) (v := .agg #[.slice (some ⟨w5.heap.size, 0, none⟩) 1 1, .int .i64 0, .int .i64 0]) rfl (by kernel_rfl) (by kernel_rfl) (by kernel_rfl) (by decide) (by kernel_rfl) (fun _ _ _ h => h) (Or.inl ⟨by rfl, ?_⟩) hS ?_
      · (intro w' hSw; go_simp)
      go_frame
      have hlabY := Blk.new w5.drew [.string ⟨#[]⟩, .string ⟨#[]⟩] 39
      have kY : Kept w5 (w5.drew.alloc (.cells #[.string ⟨#[]⟩, .string ⟨#[]⟩] 39)) := ((Only.refl _ w5).drew).alloc _
      refine wpAnyL_two (i := 3) (j := 7) (by kernel_rfl) rfl rfl rfl rfl ?_ ?_
      · obtain ⟨v3, X3, R3, hv3, k3, o3⟩ := HCP.out (w5.drew.alloc (.cells #[.string ⟨#[]⟩, .string ⟨#[]⟩] 39)) kY
        clear o3
        refine oper_appendH _ _ _ rfl rfl rfl R3 ?_
        refine ⟨trivial, ?_⟩
        go_frame
        refine wpAnyL_one (i := 7) (by kernel_rfl) rfl rfl ?_
        go_simp
        (try go_frame)
        have hbr := Blk.new X3 [.slice (some ⟨w5.heap.size, 0, none⟩) 1 1, .int .i64 0, .int .i64 0] 32
        have ka : Kept X3 (X3.alloc (.cells #[.slice (some ⟨w5.heap.size, 0, none⟩) 1 1, .int .i64 0, .int .i64 0] 32)) := (Only.refl _ X3).alloc _
        have hbp : BadP w5 (X3.alloc (.cells #[.slice (some ⟨w5.heap.size, 0, none⟩) 1 1, .int .i64 0, .int .i64 0] 32)) v3 w5.heap.size X3.heap.size q1 := ⟨ownN_stay hv3 ka, (kY.trans k3 (fun _ _ f => f)).trans ka (fun _ _ f => f), (k3.blk hlabY (fun f => f)).alloc _, hbr, Nat.le_refl _⟩
        clear hbr ka k3 kY hlabY
        obtain ⟨v4, X4, v5, X5, R4, R5, HBD⟩ := bad_tail HE1.out HQ1.out HS2.out HRL.out hbp
        clear hbp
        refine wpAnyL_one (i := 8) (by kernel_rfl) rfl rfl (oper_appendH _ _ _ rfl rfl rfl R4 ?_)
        refine ⟨trivial, ?_⟩
        go_frame
        refine wpAnyL_one (i := 12) (by kernel_rfl) rfl rfl (oper_appendH _ _ _ rfl rfl rfl R5 ?_)
        refine ⟨trivial, ?_⟩
        go_frame
        refine wpAnyL_one (i := 13) (by kernel_rfl) rfl rfl ?_
        go_simp
        refine wpAnyN_done (by kernel_rfl) ?_
        refine NoPanic.normal ?_
        exact ⟨rfl, w5.heap.size, X3.heap.size, v3, v4, v5, rfl, HBD.out⟩
      · go_simp
        (try go_frame)
        have hrowY := Blk.new (w5.drew.alloc (.cells #[.string ⟨#[]⟩, .string ⟨#[]⟩] 39)) [.slice (some ⟨w5.heap.size, 0, none⟩) 1 1, .int .i64 0, .int .i64 0] 32
        have hsz : (w5.drew.alloc (.cells #[.string ⟨#[]⟩, .string ⟨#[]⟩] 39)).heap.size = w5.heap.size + 1 := by simp
        rw [hsz] at hrowY
        have kY2 : Kept (w5.drew.alloc (.cells #[.string ⟨#[]⟩, .string ⟨#[]⟩] 39)) ((w5.drew.alloc (.cells #[.string ⟨#[]⟩, .string ⟨#[]⟩] 39)).alloc (.cells #[.slice (some ⟨w5.heap.size, 0, none⟩) 1 1, .int .i64 0, .int .i64 0] 32)) := (Only.refl _ _).alloc _
        clear hsz
        obtain ⟨v3, X3, R3, hv3, k3, o3⟩ := HCP.out ((w5.drew.alloc (.cells #[.string ⟨#[]⟩, .string ⟨#[]⟩] 39)).alloc (.cells #[.slice (some ⟨w5.heap.size, 0, none⟩) 1 1, .int .i64 0, .int .i64 0] 32)) (kY.trans kY2 (fun _ _ f => f))
        clear o3
        refine wpAnyL_one (i := 3) (by kernel_rfl) rfl rfl (oper_appendH _ _ _ rfl rfl rfl R3 ?_)
        refine ⟨trivial, ?_⟩
        go_frame
        have hbp : BadP w5 X3 v3 w5.heap.size (w5.heap.size + 1) q1 := ⟨hv3, (kY.trans kY2 (fun _ _ f => f)).trans k3 (fun _ _ f => f), k3.blk (hlabY.alloc _) (fun f => f), k3.blk hrowY (fun f => f), Nat.le_refl _⟩
        clear k3 kY kY2 hlabY hrowY
        obtain ⟨v4, X4, v5, X5, R4, R5, HBD⟩ := bad_tail HE1.out HQ1.out HS2.out HRL.out hbp
        clear hbp
        refine wpAnyL_one (i := 8) (by kernel_rfl) rfl rfl (oper_appendH _ _ _ rfl rfl rfl R4 ?_)
        refine ⟨trivial, ?_⟩
        go_frame
        refine wpAnyL_one (i := 12) (by kernel_rfl) rfl rfl (oper_appendH _ _ _ rfl rfl rfl R5 ?_)
        refine ⟨trivial, ?_⟩
        go_frame
        refine wpAnyL_one (i := 13) (by kernel_rfl) rfl rfl ?_
        go_simp
        refine wpAnyN_done (by kernel_rfl) ?_
        refine NoPanic.normal ?_
        exact ⟨rfl, w5.heap.size, w5.heap.size + 1, v3, v4, v5, rfl, HBD.out⟩
  case h2 =>
    intro bl br v3 v4 v5 X5 hBD
    have HTX := hid (HTW.out.stay hBD.2)
    have HIaX := hid (HIa5.out.stay hBD.2)
    have hsrcX : RowSrc X5 (fun j => ¬ Oa j) v5 (rs.take k ++ badR :: rs.drop k) := hBD.1.weak (fun j hj hO => by
      rcases hj with h | h
      · have := HIa5.out.new j hO
        omega
      · have := HIa5.out.at_.lt j hO
        omega)
    have HWA := hid (write_in HMX.out HIaX.out (by decide) _ _ hsrcX (bad_ok HOK.out HRL1.out k))
    obtain ⟨ex, hex, hwx⟩ := write_bad (win := 9007199254740992) (rs := rs) (k := k) HRL1.out
    rw [HWa.out, HBa.out, hwx] at HWA
    simp only [errM, modM] at HWA
    have d4 : decide (ex = 0) = false := decide_eq_false hex
    have d4' : (ex == 0) = false := by simpa using hex
    clear hBD hsrcX hwx HTW HIa5 HCP HQ1 HE1 HS2
    go_wp2_with fail
    refine HWA.out.mono ?_
    rintro e w6 ⟨rfl, ha6, Oa6, hP6⟩
    have HTW6 : Hid (TwoH w w6 hb hc Ob Oc [] []) := ⟨HTX.out.b.only hP6.only HAB.out HIaX.out.new, HTX.out.c.only hP6.only HAC.out HIaX.out.new, HTX.out.apart⟩
    have HAB6 : Hid (∀ j, Oa6 j → ¬ Ob j) := fun j h1 h2 => by
      rcases hP6.old j h1 with h | h
      · exact HAB.out j h2 h
      · have := HTX.out.b.at_.lt j h2
        omega
    have HIa6 := hid hP6.in_
    have HB6 := hid (hP6.hb.trans HBa.out)
    have hs6 : RowSrc w6 (fun j => ¬ Ob j) (.slice ra L rc) rs := (HSRC.out.stay HTW6.out.b.kept).weak (fun j hj hO => by
      have := HTW6.out.b.new j hO
      omega)
    have HWB := hid (write_in HMX.out HTW6.out.b (by decide) _ _ hs6 HOK.out)
    have HBE := hid (bat_e rs)
    rw [HWb.out, HBb.out] at HWB
    obtain ⟨ey, hey⟩ : ∃ ey, errM (writeM 9007199254740992 [] rs) = ey := ⟨_, rfl⟩
    obtain ⟨Mb, hMb⟩ : ∃ Mb, modM [] (writeM 9007199254740992 [] rs) = Mb := ⟨_, rfl⟩
    rw [hey, hMb] at HWB HBE
    clear hey hMb hs6 hP6 HWA HTX HIaX HBa
    go_wp2_with fail
    refine HWB.out.mono ?_
    rintro e w7 ⟨rfl, hb7, Ob7, hP7⟩
    have HIa7 := hid (HIa6.out.only hP7.only HAB6.out HTW6.out.b.new)
    have HTW7 : Hid (TwoH w w7 hb7 hc Ob7 Oc Mb []) := ⟨hP7.in_, HTW6.out.c.only hP7.only (fun j h1 h2 => HTW6.out.apart j h2 h1) HTW6.out.b.new, fun j h1 h2 => by
      rcases hP7.old j h1 with h | h
      · exact HTW6.out.apart j h h2
      · have := HTW6.out.c.at_.lt j h2
        omega⟩
    have HB7 := hid (hP7.hb.trans HBb.out)
    have HCA := hid (fun W (kk : Kept w7 W) => count_any (HIa7.out.at_.stay kk) HIa7.out.is_ (by decide))
    have HAA := hid (fun W (kk : Kept w7 W) => all_head (HIa7.out.at_.stay kk) HIa7.out.is_ (by decide))
    have hc0 : countM ([] : Mod) = 0 := rfl
    rw [HB6.out, hc0] at HCA
    rw [HB6.out] at HAA
    clear hP7 HWB HIa6 HAB6 HTW6 HIa7 HB6 hc0 HBb HAB
    go_wp2_with fail
    refine (HN.out _ _).mono ?_
    rintro e w8 ⟨rfl, hw⟩
    replace hw := hw.symm
    subst hw
    go_wp2_with fail
    refine (HCA.out _ (Only.refl _ _)).mono ?_
    rintro e w9 ⟨rfl, k9⟩
    have K9 := hid k9
    clear k9 HCA
    go_wp2_with fail
    refine (HAA.out _ K9.out).mono ?_
    rintro e w10 ⟨va, qa, rfl, hSa, hqa, k10⟩
    have hqa0 : qa = [] := List.map_eq_nil_iff.1 hqa
    subst hqa0
    obtain ⟨aa, ca, rfl⟩ := ownN_slice hSa.row
    have K10 := hid (K9.out.trans k10 (fun _ _ f => f))
    have HTW10 := hid (HTW7.out.stay K10.out)
    clear hSa hqa k10 K9 HAA HTW7 K10
    by_cases gy : ey = 0
    · subst gy
      have hF : rowsM 9007199254740992 [] rs = .ok Mb := by
        rcases HBE.out with h | h
        · exact h.2
        · exact absurd rfl h.1
      have HF := hid hF
      clear hF HBE
      go_wp2_with fail
      refine (HN.out _ _).mono ?_
      rintro e w8 ⟨rfl, hw⟩
      replace hw := hw.symm
      subst hw
      go_wp2_with fail
      go_loopw [13] (fun s wr => ∃ (i : Nat) (hc : HeadC) (Oc : Nat → Prop) (M : Mod), i ≤ L ∧ s = .int .i64 (i : Int) ∧ rowsM 9007199254740992 [] (rs.take i) = .ok M ∧ TwoH w wr hb7 hc Ob7 Oc Mb M ∧ hc.hb = bc ∧ hc.win = 9007199254740992) (fun s _ => L - (intOf s).toNat)
      case atStart => exact ⟨0, hc, Oc, [], by omega, rfl, rfl, HTW10.out, HBc.out, HWc.out⟩
      case round =>
        obtain ⟨i, hc, Oc, M, hi, rfl, hM, hT, hhb, hwn⟩ := hrel
        have HM := hid hM
        have HT := hid hT
        have HHB := hid hhb
        have HWN := hid hwn
        have hcM : countM M ≤ 1000 := by
          have h1 := countM_rows ModOk.nil hM
          rw [List.length_take] at h1
          simp only [countM] at h1
          omega
        clear hM hT hhb hwn
        by_cases hlt : i < L
        · have hir : i < rs.length := by rw [HL.out]; exact hlt
          obtain ⟨N, hN1, hN2⟩ := batch_step hir HF.out HM.out
          have hsr := HSRC.out.stay HT.out.b.kept
          obtain ⟨a3, c3, s3, hs3⟩ := row_sub (rs := rs) (c := rc) (a := ra) (by rw [HL.out]; exact hsr) HCAP.out (lo := i) (hi := i + 1) (by omega) (by omega)
          rw [show i + 1 - i = 1 by omega] at s3 hs3
          rw [HL.out] at s3
          rw [one_row hir] at hs3
          have s3' : ∀ W, (Instr.sliceAt 34 (.slice ra L rc) (some (.int .i64 (i : Int))) (some (.int .i64 ((i : Int) + 1))) none).run Try.prog W = .ok (.slice a3 1 c3) W := fun W => s3 W
          have HWC := hid (write_in HMX.out HT.out.c (by omega) _ _ (hs3.weak (fun j hj hO => by have := HT.out.c.new j hO; omega)) ⟨by simp, fun r hr => by rw [List.mem_singleton.1 hr]; exact HOK.out.2 _ (List.getElem_mem hir)⟩)
          rw [HWN.out, HHB.out, write_one_ok hN1] at HWC
          simp only [errM, modM] at HWC
          have HN2 := hid hN2
          clear s3 hs3 hsr hN1 hN2
          go_wp2_with fail
          refine HWC.out.mono ?_
          rintro e w12 ⟨rfl, hc12, Oc12, hP12⟩
          have HT12 := hid (HT.out.write hP12)
          have HB12 := hid (hP12.hb.trans HHB.out)
          have HW12 := hid (hP12.win.trans HWN.out)
          clear hP12 HWC
          go_wp2_with fail
          refine (HN.out _ _).mono ?_
          rintro e w8 ⟨rfl, hw⟩
          replace hw := hw.symm
          subst hw
          go_wp2
          refine ⟨⟨i + 1, hc12, Oc12, N, by omega, by go_num, HN2.out, HT12.out, HB12.out, HW12.out⟩, ?_⟩
          simp [intOf]
          omega
        · have e : i = L := by omega
          subst e
          have hMM : Mb = M := by
            have h1 := HM.out
            rw [← HL.out, List.take_length, HF.out] at h1
            cases h1
            rfl
          subst hMM
          have hsm := mod_small HT.out.b.is_.ok (by omega)
          have HSM := hid hsm
          have HALb := hid (fun W (kk : Kept wr W) => all_head (HT.out.b.at_.stay kk) HT.out.b.is_ (by omega))
          have HALc := hid (fun W (kk : Kept wr W) => all_head (HT.out.c.at_.stay kk) HT.out.c.is_ (by omega))
          have HCb := hid (fun W (kk : Kept wr W) => count_any (HT.out.b.at_.stay kk) HT.out.b.is_ (by omega))
          have HCc := hid (fun W (kk : Kept wr W) => count_any (HT.out.c.at_.stay kk) HT.out.c.is_ (by omega))
          have HKF := hid HT.out.b.kept
          rw [HB7.out] at HALb HCb
          rw [HHB.out] at HALc HCc
          obtain ⟨cn, hcn⟩ : ∃ cn, countM Mb = cn := ⟨_, rfl⟩
          rw [hcn] at HCb HCc hcM
          clear hcn hsm HT HM HF
          go_wp2_with fail
          refine (HALb.out _ (Only.refl _ _)).mono ?_
          rintro e w20 ⟨vb, qb, rfl, hSb, hqb, k20⟩
          have HSb := hid (show SerSrc w20 vb Mb from by rw [← hqb]; exact SerAt.src hSb)
          have K20 := hid k20
          clear hSb hqb k20
          go_wp2_with fail
          refine (HALc.out _ K20.out).mono ?_
          rintro e w21 ⟨vc, qc, rfl, hSc, hqc, k21⟩
          have HSc := hid (show SerSrc w21 vc Mb from by rw [← hqc]; exact SerAt.src hSc)
          have HSb1 := hid (HSb.out.stay k21)
          have K21 := hid (K20.out.trans k21 (fun _ _ f => f))
          clear hSc hqc k21 HSb K20
          go_wp2_with fail
          refine (same_series w21 vb vc Mb HSb1.out HSc.out HSM.out.1 HSM.out.2).mono ?_
          rintro e w22 ⟨rfl, k22⟩
          have K22 := hid (K21.out.trans k22 (fun _ _ f => f))
          clear k22
          go_wp2_with fail
          refine (HCb.out _ K22.out).mono ?_
          rintro e w23 ⟨rfl, k23⟩
          have K23 := hid (K22.out.trans k23 (fun _ _ f => f))
          clear k23
          go_wp2_with fail
          refine (HCc.out _ K23.out).mono ?_
          rintro e w24 ⟨rfl, k24⟩
          have K24 := hid (HKF.out.trans (K23.out.trans k24 (fun _ _ f => f)) (fun _ _ f => f))
          clear k24
          go_wp2
          go_ret
          exact ⟨rfl, K24.out⟩
    · have hMb0 : Mb = [] := by
        rcases HBE.out with h | h
        · exact absurd h.1 gy
        · exact h.2
      subst hMb0
      have d5 : decide (ey = 0) = false := decide_eq_false gy
      have d5' : (ey == 0) = false := by simpa using gy
      have HCb := hid (fun W (kk : Kept w10 W) => count_any (HTW10.out.b.at_.stay kk) HTW10.out.b.is_ (by decide))
      have hc0 : countM ([] : Mod) = 0 := rfl
      rw [HB7.out, hc0] at HCb
      have HKF := hid HTW10.out.b.kept
      clear hc0 HTW10
      go_wp2_with fail
      refine (HN.out _ _).mono ?_
      rintro e w8 ⟨rfl, hw⟩
      replace hw := hw.symm
      subst hw
      go_wp2_with fail
      refine (HCb.out _ (Only.refl _ _)).mono ?_
      rintro e w23 ⟨rfl, k23⟩
      have K23 := hid (HKF.out.trans k23 (fun _ _ f => f))
      clear k23
      go_wp2
      go_ret
      exact ⟨rfl, K23.out⟩
end Go.Proofs.Ytoagncilbaaefaa.Hd
