/-
  put: a sample is laid at its place.
-/
import Derived.Test.YtnbfbnhiikliaaaGreatHins2
import Derived.Test.YtnbfbnhiikliaaaGreatWlast
namespace Go.Proofs.YtnbfbnhiikliaaaGreat.Hd
open Go.RowKit Go.Proofs.Lys Go.Proofs.YtnbfbnhiikliaaaGreat.N
set_option linter.unusedVariables false
set_option linter.unusedSimpArgs false

theorem smpL_set (q : Smps) (k : Nat) (p : Smp) (hk : k < q.length) : smpL (q.set k p) = ((smpL q).set (k * 2) (.int .i64 p.1)).set (k * 2 + 1) (.int .i64 p.2) := by
  induction q generalizing k with
  | nil => simp at hk
  | cons a q ih =>
    cases k with
    | zero => rfl
    | succ k =>
      have := ih k (by simpa using hk)
      rw [List.set_cons_succ]
      simp only [smpL, show (k + 1) * 2 = k * 2 + 1 + 1 by omega, List.set_cons_succ, this]
theorem smp_set {w : World} {base g cap k : Nat} {q : Smps} (h : SmpAt w base (.slice (some ⟨g, 0, none⟩) q.length cap) q) (hk : k < q.length) (p : Smp) :
    w.frozen? ⟨g, k * 2, none⟩ = false ∧ (w.setCell ⟨g, k * 2, none⟩ (.int .i64 p.1)).frozen? ⟨g, k * 2 + 1, none⟩ = false ∧
    SmpAt ((w.setCell ⟨g, k * 2, none⟩ (.int .i64 p.1)).setCell ⟨g, k * 2 + 1, none⟩ (.int .i64 p.2)) base (.slice (some ⟨g, 0, none⟩) q.length cap) (q.set k p) := by
  refine ⟨h.frozenAt _, ((h.stored (k * 2) (.int .i64 p.1)).1).frozenAt _, ?_⟩
  have h1 := (((h.stored (k * 2) (.int .i64 p.1)).1).stored (k * 2 + 1) (.int .i64 p.2)).1
  show World.ownsRow _ _ _ _ _ _ _
  rw [List.length_set, smpL_set q k p hk]
  exact h1

/-- What put leaves of a series. -/
def PutP (w : World) (c : SerC) (x : Smp) (e : Ending) (w' : World) : Prop :=
  e = .returned (.tuple #[]) ∧ ∃ sv', SerOk w' ⟨c.b, c.lv, sv', c.labs, putS x c.smps⟩ ∧ Only (fun k => k = c.b ∨ c.sv.ownBlock = some k) w w' ∧ ∀ k, sv'.ownBlock = some k → c.sv.ownBlock = some k ∨ w.heap.size ≤ k

set_option maxRecDepth 100000 in
set_option maxHeartbeats 4000000 in
theorem put_any (w : World) (c : SerC) (S : SerOk w c) (hr : RiseS c.smps) (hl : c.smps.length ≤ 100000) (x : Smp) :
    Calls Tryz.prog 38 #[.pointer (some ⟨c.b, 0, none⟩), .agg #[.int .i64 x.1, .int .i64 x.2]] w (PutP w c x) := by
  obtain ⟨T, V⟩ := x
  obtain ⟨w0, hw0⟩ : ∃ w0, w0 = w.alloc (.cells #[.int .i64 T, .int .i64 V] 38) := ⟨_, rfl⟩
  have k0 : Kept w w0 := by rw [hw0]; exact (Only.refl _ w).alloc _
  have bx : Blk w0 w.heap.size [.int .i64 T, .int .i64 V] 38 := by rw [hw0]; exact Blk.new w _ _
  have S0 := S.only k0 (fun _ _ f => f)
  have HP := hid (place_any w0 c S0 hr (by omega) T)
  have x0 := bx.cell 0 rfl
  have x1 := bx.cell 1 rfl
  have hS0 := hid S0
  have K0 := hid k0
  have BX := hid bx
  have hsvlt := hid (fun k (hk : c.sv.ownBlock = some k) => (ownN_lt S.smp hk).2)
  subst hw0
  clear k0 bx S0
  go_enter Tryz.func38, Tryz.ntmps38
  go_wp2_with fail
  refine HP.out.mono ?_
  rintro e w1 ⟨rfl, k1⟩
  have S1 := hS0.out.only k1 (fun _ _ f => f)
  have bx1 := k1.blk BX.out (fun f => f)
  have x0 := bx1.cell 0 rfl
  have x1 := bx1.cell 1 rfl
  have K1 := hid (K0.out.trans k1 (fun _ _ f => f))
  have hsz := hid k1.size
  clear k1 HP hS0 BX
  have hput := putS_eq (T, V) c.smps
  have hple := placeS_le T c.smps
  simp only at hput
  obtain ⟨at_, hat⟩ : ∃ at_, placeS T c.smps = at_ := ⟨_, rfl⟩
  rw [hat] at hput hple ⊢
  have d1 := S1.blk.cell 1 rfl
  have d0 := S1.blk.cell 0 rfl
  have fb := S1.blk.frozen 1
  by_cases hlt : at_ < c.smps.length
  · obtain ⟨g, cap, hsv⟩ := ownN_some S1.smp (by omega)
    have hsrc := SmpAt.src S1.smp
    rw [hsv] at hsrc
    obtain ⟨b0, o0, e0, y0, y1⟩ := hsrc.cell rfl at_ hlt
    simp only [Option.some.injEq, Addr.mk.injEq] at e0
    obtain ⟨rfl, rfl, _⟩ := e0
    rw [Nat.zero_add] at y0 y1
    rw [List.getD_eq_getElem?_getD, List.getElem?_eq_getElem hlt, Option.getD_some] at hput
    rw [hsv] at d1
    by_cases heq : (c.smps[at_]'hlt).1 = T
    · rw [dif_pos ⟨hlt, heq⟩] at hput
      have HPUT := hid hput
      have HSV := hid hsv
      have HS1 := hid S1
      have HBX := hid bx1
      clear hput S1 hsrc hsv y1 hr
      generalize (c.smps[at_]'hlt).1 = T0 at y0 heq
      subst heq
      have hlt' : (at_ : Int) < (c.smps.length : Int) := by omega
      go_wp2_with fail
      go_quiet (fail)
      have kq : Kept w1 (w1.drewN nq) := kept_drewN (Only.refl _ w1) nq
      generalize w1.drewN nq = wq at kq ⊢
      have Sq := HS1.out.only kq (fun _ _ f => f)
      have bq := kq.blk HBX.out (fun f => f)
      have hat1 : SmpAt wq 0 (.slice (some ⟨g, 0, none⟩) c.smps.length cap) c.smps := by rw [← HSV.out]; exact Sq.smp
      obtain ⟨f1, f2, hnew⟩ := smp_set hat1 hlt (T0, V)
      simp only at f1 f2 hnew
      obtain ⟨b0, o0, e0, z0, z1⟩ := (SmpAt.src hat1).cell rfl at_ hlt
      simp only [Option.some.injEq, Addr.mk.injEq] at e0
      obtain ⟨rfl, rfl, _⟩ := e0
      rw [Nat.zero_add] at z0 z1
      have x0 := bq.cell 0 rfl
      have x1 := bq.cell 1 rfl
      have d1 := Sq.blk.cell 1 rfl
      rw [HSV.out] at d1
      have HNEW := hid hnew
      have HSq := hid Sq
      have HKq := hid (K1.out.trans kq (fun _ _ f => f))
      clear hnew hat1 Sq bq kq y0 d0 HS1 HBX
      have hgne : Hid (g ≠ c.b) := HSq.out.ne.2.1 g (by rw [HSV.out]; rfl)
      generalize (c.smps[at_]'hlt).1 = u0 at z0
      generalize (c.smps[at_]'hlt).2 = u1 at z1
      have HLEN := hid hlt
      have hlL : at_ < c.smps.length := hlt
      go_wp2_with fail
      go_region
      all_goals
        go_wp2
        go_end0
        refine ⟨rfl, c.sv, ⟨?_, ?_, ?_⟩, ?_, fun k hk => .inl hk⟩
        · exact (((HSq.out.blk).other (a := ⟨g, at_ * 2, none⟩) (fun e => hgne.out e.symm) _).other (a := ⟨g, at_ * 2 + 1, none⟩) (fun e => hgne.out e.symm) _).drew
        · refine ownN_only HSq.out.lab (((((Only.refl (fun k => k = g) wq).setCell (p := ⟨g, at_ * 2, none⟩) (fun _ => rfl) _).setCell (p := ⟨g, at_ * 2 + 1, none⟩) (fun _ => rfl) _)).drew) (fun k hk e => ?_)
          exact HSq.out.ne.2.2 k g hk (by rw [HSV.out]; rfl) e
        · show SmpAt _ 0 c.sv (putS (T0, V) c.smps)
          rw [HPUT.out, HSV.out]
          have h1 := HNEW.out
          exact h1
        · refine (HKq.out.mono (O' := fun k => k = c.b ∨ c.sv.ownBlock = some k) (fun _ _ f => f.elim)).trans (((((Only.refl (fun k => k = g) wq).setCell (p := ⟨g, at_ * 2, none⟩) (fun _ => rfl) _).setCell (p := ⟨g, at_ * 2 + 1, none⟩) (fun _ => rfl) _)).drew) (fun k hk e => ?_)
          exact .inr (by rw [HSV.out, e]; rfl)
    · rw [dif_neg (fun h => heq h.2)] at hput
      have HPUT := hid hput
      have HSV := hid hsv
      have HS1 := hid S1
      have HBX := hid bx1
      have hd : decide ((c.smps[at_]'hlt).1 = T) = false := decide_eq_false heq
      clear hput S1 hsrc y1 hr
      generalize (c.smps[at_]'hlt).1 = T0 at y0 heq hd
      have hlt' : (at_ : Int) < (c.smps.length : Int) := by omega
      go_wp2_with fail
      go_quiet (fail)
      have kq : Kept w1 (w1.drewN nq) := kept_drewN (Only.refl _ w1) nq
      generalize w1.drewN nq = wq at kq ⊢
      have Sq := HS1.out.only kq (fun _ _ f => f)
      have bq := kq.blk HBX.out (fun f => f)
      have HKq := hid (K1.out.trans kq (fun _ _ f => f))
      clear d1 d0 fb HS1 HBX x0 x1 hsv
      have HI := hid (fun (W : World) (h : SmpAt W 0 c.sv c.smps) (xb : Nat) (hb : Blk W xb [.int .i64 T, .int .i64 V] 38) (hne : ∀ k, c.sv.ownBlock = some k → xb ≠ k) => insert_any (x := (T, V)) h hple hl hb hne)
      obtain ⟨q, hq⟩ : ∃ q, c.smps.take at_ ++ (T, V) :: c.smps.drop at_ = q := ⟨_, rfl⟩
      rw [hq] at HI HPUT
      clear hq
      generalize hcb : c.b = cb
      generalize hsv : c.sv = sv at HI HSV
      have HSQ := hid Sq
      have HCB := hid hcb
      have HSVV := hid hsv
      have bs := Sq.blk
      rw [hcb, hsv] at bs
      have BS := hid bs
      have BQ := hid bq
      clear Sq bs bq hcb hsv
      go_wp2_with fail
      refine wp_region_noPanic ?_
      refine wp_region_last (L := 11) (S := fun w' => Blk w' cb [c.lv, sv] 79 ∧ Blk w' w.heap.size [.int .i64 T, .int .i64 V] 38) (by kernel_rfl) ?_
      have hS : (fun w' : World => Blk w' cb [c.lv, sv] 79 ∧ Blk w' w.heap.size [.int .i64 T, .int .i64 V] 38) wq.drew := ⟨BS.out, BQ.out⟩
      refine wpAnyL_take (i := 0) (v := .pointer (some ⟨cb, 0, none⟩)) rfl (by kernel_rfl) (by kernel_rfl) (by kernel_rfl) (by kernel_rfl) (by kernel_rfl) (fun _ _ _ h => h) (Or.inl ⟨by rfl, ?_⟩) hS ?_
      · (intro w' hSw; have s0 := hSw.1.cell 0 rfl; have s1 := hSw.1.cell 1 rfl; have s2 := hSw.2.cell 0 rfl; have s3 := hSw.2.cell 1 rfl; clear hSw; go_simp)
      go_frame
      refine wpAnyL_take (i := 1) (v := .pointer (some ⟨cb, 0, none⟩)) rfl (by kernel_rfl) (by kernel_rfl) (by kernel_rfl) (by kernel_rfl) (by kernel_rfl) (fun _ _ _ h => h) (Or.inl ⟨by rfl, ?_⟩) hS ?_
      · (intro w' hSw; have s0 := hSw.1.cell 0 rfl; have s1 := hSw.1.cell 1 rfl; have s2 := hSw.2.cell 0 rfl; have s3 := hSw.2.cell 1 rfl; clear hSw; go_simp)
      go_frame
      refine wpAnyL_take (i := 2) (v := .pointer (some ⟨cb, 0, none⟩)) rfl (by kernel_rfl) (by kernel_rfl) (by kernel_rfl) (by kernel_rfl) (by kernel_rfl) (fun _ _ _ h => h) (Or.inl ⟨by rfl, ?_⟩) hS ?_
      · (intro w' hSw; have s0 := hSw.1.cell 0 rfl; have s1 := hSw.1.cell 1 rfl; have s2 := hSw.2.cell 0 rfl; have s3 := hSw.2.cell 1 rfl; clear hSw; go_simp)
      go_frame
      refine wpAnyL_take (i := 3) (v := .pointer (some ⟨cb, 1, none⟩)) rfl (by kernel_rfl) (by kernel_rfl) (by kernel_rfl) (by kernel_rfl) (by kernel_rfl) (fun _ _ _ h => h) (Or.inl ⟨by rfl, ?_⟩) hS ?_
      · (intro w' hSw; have s0 := hSw.1.cell 0 rfl; have s1 := hSw.1.cell 1 rfl; have s2 := hSw.2.cell 0 rfl; have s3 := hSw.2.cell 1 rfl; clear hSw; go_simp)
      go_frame
      refine wpAnyL_take (i := 4) (v := sv) rfl (by kernel_rfl) (by kernel_rfl) (by kernel_rfl) (by kernel_rfl) (by kernel_rfl) (fun _ _ _ h => h) (Or.inl ⟨by rfl, ?_⟩) hS ?_
      · (intro w' hSw; have s0 := hSw.1.cell 0 rfl; have s1 := hSw.1.cell 1 rfl; have s2 := hSw.2.cell 0 rfl; have s3 := hSw.2.cell 1 rfl; clear hSw; go_simp)
      go_frame
      refine wpAnyL_take (i := 5) (v := .int .i64 (at_ : Int)) rfl (by kernel_rfl) (by kernel_rfl) (by kernel_rfl) (by kernel_rfl) (by kernel_rfl) (fun _ _ _ h => h) (Or.inl ⟨by rfl, ?_⟩) hS ?_
      · (intro w' hSw; have s0 := hSw.1.cell 0 rfl; have s1 := hSw.1.cell 1 rfl; have s2 := hSw.2.cell 0 rfl; have s3 := hSw.2.cell 1 rfl; clear hSw; go_simp)
      go_frame
      refine wpAnyL_take (i := 6) (v := .agg #[.int .i64 T, .int .i64 V]) rfl (by kernel_rfl) (by kernel_rfl) (by kernel_rfl) (by kernel_rfl) (by kernel_rfl) (fun _ _ _ h => h) (Or.inl ⟨by rfl, ?_⟩) hS ?_
      · (intro w' hSw; have s0 := hSw.1.cell 0 rfl; have s1 := hSw.1.cell 1 rfl; have s2 := hSw.2.cell 0 rfl; have s3 := hSw.2.cell 1 rfl; clear hSw; go_simp)
      go_frame
      refine wpAnyL_one (i := 7) (by kernel_rfl) rfl rfl ?_
      go_simp
      have kA : Kept wq ((wq.alloc (.cells #[.int .i64 T, .int .i64 V] 38)).drew) := ((Only.refl _ wq).alloc _).drew
      have bA : Blk ((wq.alloc (.cells #[.int .i64 T, .int .i64 V] 38)).drew) wq.heap.size [.int .i64 T, .int .i64 V] 38 := (Blk.new wq _ _).drew
      refine ⟨⟨kA.blk BS.out (fun f => f), kA.blk BQ.out (fun f => f)⟩, ?_⟩
      (try go_frame)
      refine wpAnyL_one (i := 8) (by kernel_rfl) rfl rfl ?_
      go_simp
      have SA := HSQ.out.only kA (fun _ _ f => f)
      have hcA : SmpAt ((wq.alloc (.cells #[.int .i64 T, .int .i64 V] 38)).drew) 0 sv c.smps := by rw [← HSVV.out]; exact SA.smp
      have hneA : ∀ k, sv.ownBlock = some k → wq.heap.size ≠ k := fun k hk => by
        have h1 := (ownN_lt HSQ.out.smp (k := k) (by rw [HSVV.out]; exact hk)).2
        omega
      have hneX : ∀ k, sv.ownBlock = some k → w.heap.size ≠ k := fun k hk => by
        have h1 := hsvlt.out k (by rw [HSVV.out]; exact hk)
        omega
      have hneC : ∀ k, sv.ownBlock = some k → cb ≠ k := fun k hk => by
        have h1 := HSQ.out.ne.2.1 k (by rw [HSVV.out]; exact hk)
        rw [HCB.out] at h1
        omega
      refine (HI.out _ hcA wq.heap.size bA hneA).mono ?_
      rintro e w3 ⟨sv', rfl, r1, r2, r3⟩
      obtain ⟨a5, c5, hsv5⟩ := ownN_slice r1
      obtain ⟨N5, hN5⟩ : ∃ N5, q.length = N5 := ⟨_, rfl⟩
      rw [hN5] at hsv5
      clear hN5
      subst hsv5
      have b3 := r2.blk (kA.blk BS.out (fun f => f)) (fun h => hneC cb h rfl)
      refine ⟨⟨b3, r2.blk (kA.blk BQ.out (fun f => f)) (fun h => hneX _ h rfl)⟩, ?_⟩
      have L3 : LabAt w3 0 c.lv c.labs := ownN_only SA.lab r2 (fun k hk h => SA.ne.2.2 k k hk (by rw [HSVV.out]; exact h) rfl)
      have f3 := b3.frozen 1
      have d3 := b3.cell 1 rfl
      have R1 := hid r1
      have R2 := hid r2
      have R3 := hid r3
      have B3 := hid b3
      have HL3 := hid L3
      have KA := hid kA
      clear r1 r2 r3 b3 L3 SA hcA kA bA hneA hneX
      (try go_frame)
      refine wpAnyL_one (i := 9) (by kernel_rfl) rfl rfl ?_
      go_simp
      refine ⟨⟨B3.out, R2.out.blk (KA.out.blk BQ.out (fun f => f)) (fun h => by have h1 := hsvlt.out _ (by rw [HSVV.out]; exact h); omega)⟩, ?_⟩
      (try go_frame)
      refine wpAnyL_one (i := 10) (by kernel_rfl) rfl rfl ?_
      go_simp
      refine ⟨⟨B3.out, R2.out.blk (KA.out.blk BQ.out (fun f => f)) (fun h => by have h1 := hsvlt.out _ (by rw [HSVV.out]; exact h); omega)⟩, ?_⟩
      (try go_frame)
      refine wpAnyL_last (by kernel_rfl) (by kernel_rfl) rfl rfl ?_
      go_simp
      refine NoPanic.normal ?_
      clear hS
      go_end0
      have hK3 : Only (fun k => sv.ownBlock = some k) w w3 := (HKq.out.trans KA.out (fun _ _ f => f)).mono (fun _ _ f => f.elim) |>.trans R2.out (fun k _ h => h)
      have kS := (Only.refl (fun k => k = cb) w3).setCell (p := ⟨cb, 1, none⟩) (fun _ => rfl) (.slice a5 N5 c5)
      have hsq := (HKq.out.trans KA.out (fun _ _ f => f)).size
      have hcblt : cb < w.heap.size := by have := S.blk.lt; rw [HCB.out] at this; exact this
      refine ⟨rfl, .slice a5 N5 c5, ⟨?_, ?_, ?_⟩, ?_, fun k hk => ?_⟩
      · rw [HCB.out]
        exact B3.out.set 1 _
      · refine ownN_only HL3.out kS (fun k hk e => ?_)
        have h1 := (ownN_typed HL3.out hk).ne B3.out.typed (by decide)
        exact h1 e
      · show SmpAt _ 0 _ (putS (T, V) c.smps)
        rw [HPUT.out]
        refine ownN_only R1.out kS (fun k hk e => ?_)
        have h1 := (ownN_typed R1.out hk).ne B3.out.typed (by decide)
        exact h1 e
      · rw [HCB.out, HSVV.out]
        exact (hK3.mono (fun k _ h => (.inr h : k = cb ∨ sv.ownBlock = some k))).trans kS (fun k _ h => .inl h)
      · rw [HSVV.out]
        rcases R3.out k hk with h | h
        · exact .inl h
        · exact .inr (Nat.le_trans hsq h)
  · have hE : at_ = c.smps.length := by omega
    rw [dif_neg (fun h => hlt h.1)] at hput
    have HPUT := hid hput
    obtain ⟨aa, cap, hsv⟩ := ownN_slice S1.smp
    have HSV := hid hsv
    have HS1 := hid S1
    have HBX := hid bx1
    rw [hsv] at d1
    have hd : decide ((at_ : Int) < (c.smps.length : Int)) = false := decide_eq_false (by omega)
    clear hput S1 hr hE
    go_wp2_with fail
    go_quiet (fail)
    have kq : Kept w1 (w1.drewN nq) := kept_drewN (Only.refl _ w1) nq
    generalize w1.drewN nq = wq at kq ⊢
    have Sq := HS1.out.only kq (fun _ _ f => f)
    have bq := kq.blk HBX.out (fun f => f)
    have HKq := hid (K1.out.trans kq (fun _ _ f => f))
    clear d1 d0 fb HS1 HBX x0 x1 hsv
    have HI := hid (fun (W : World) (h : SmpAt W 0 c.sv c.smps) (xb : Nat) (hb : Blk W xb [.int .i64 T, .int .i64 V] 38) (hne : ∀ k, c.sv.ownBlock = some k → xb ≠ k) => insert_any (x := (T, V)) h hple hl hb hne)
    obtain ⟨q, hq⟩ : ∃ q, c.smps.take at_ ++ (T, V) :: c.smps.drop at_ = q := ⟨_, rfl⟩
    rw [hq] at HI HPUT
    clear hq
    generalize hcb : c.b = cb
    generalize hsv : c.sv = sv at HI HSV
    have HSQ := hid Sq
    have HCB := hid hcb
    have HSVV := hid hsv
    have bs := Sq.blk
    rw [hcb, hsv] at bs
    have BS := hid bs
    have BQ := hid bq
    clear Sq bs bq hcb hsv
    go_wp2_with fail
    refine wp_region_noPanic ?_
    refine wp_region_last (L := 11) (S := fun w' => Blk w' cb [c.lv, sv] 79 ∧ Blk w' w.heap.size [.int .i64 T, .int .i64 V] 38) (by kernel_rfl) ?_
    have hS : (fun w' : World => Blk w' cb [c.lv, sv] 79 ∧ Blk w' w.heap.size [.int .i64 T, .int .i64 V] 38) wq.drew := ⟨BS.out, BQ.out⟩
    refine wpAnyL_take (i := 0) (v := .pointer (some ⟨cb, 0, none⟩)) rfl (by kernel_rfl) (by kernel_rfl) (by kernel_rfl) (by kernel_rfl) (by kernel_rfl) (fun _ _ _ h => h) (Or.inl ⟨by rfl, ?_⟩) hS ?_
    · (intro w' hSw; have s0 := hSw.1.cell 0 rfl; have s1 := hSw.1.cell 1 rfl; have s2 := hSw.2.cell 0 rfl; have s3 := hSw.2.cell 1 rfl; clear hSw; go_simp)
    go_frame
    refine wpAnyL_take (i := 1) (v := .pointer (some ⟨cb, 0, none⟩)) rfl (by kernel_rfl) (by kernel_rfl) (by kernel_rfl) (by kernel_rfl) (by kernel_rfl) (fun _ _ _ h => h) (Or.inl ⟨by rfl, ?_⟩) hS ?_
    · (intro w' hSw; have s0 := hSw.1.cell 0 rfl; have s1 := hSw.1.cell 1 rfl; have s2 := hSw.2.cell 0 rfl; have s3 := hSw.2.cell 1 rfl; clear hSw; go_simp)
    go_frame
    refine wpAnyL_take (i := 2) (v := .pointer (some ⟨cb, 0, none⟩)) rfl (by kernel_rfl) (by kernel_rfl) (by kernel_rfl) (by kernel_rfl) (by kernel_rfl) (fun _ _ _ h => h) (Or.inl ⟨by rfl, ?_⟩) hS ?_
    · (intro w' hSw; have s0 := hSw.1.cell 0 rfl; have s1 := hSw.1.cell 1 rfl; have s2 := hSw.2.cell 0 rfl; have s3 := hSw.2.cell 1 rfl; clear hSw; go_simp)
    go_frame
    refine wpAnyL_take (i := 3) (v := .pointer (some ⟨cb, 1, none⟩)) rfl (by kernel_rfl) (by kernel_rfl) (by kernel_rfl) (by kernel_rfl) (by kernel_rfl) (fun _ _ _ h => h) (Or.inl ⟨by rfl, ?_⟩) hS ?_
    · (intro w' hSw; have s0 := hSw.1.cell 0 rfl; have s1 := hSw.1.cell 1 rfl; have s2 := hSw.2.cell 0 rfl; have s3 := hSw.2.cell 1 rfl; clear hSw; go_simp)
    go_frame
    refine wpAnyL_take (i := 4) (v := sv) rfl (by kernel_rfl) (by kernel_rfl) (by kernel_rfl) (by kernel_rfl) (by kernel_rfl) (fun _ _ _ h => h) (Or.inl ⟨by rfl, ?_⟩) hS ?_
    · (intro w' hSw; have s0 := hSw.1.cell 0 rfl; have s1 := hSw.1.cell 1 rfl; have s2 := hSw.2.cell 0 rfl; have s3 := hSw.2.cell 1 rfl; clear hSw; go_simp)
    go_frame
    refine wpAnyL_take (i := 5) (v := .int .i64 (at_ : Int)) rfl (by kernel_rfl) (by kernel_rfl) (by kernel_rfl) (by kernel_rfl) (by kernel_rfl) (fun _ _ _ h => h) (Or.inl ⟨by rfl, ?_⟩) hS ?_
    · (intro w' hSw; have s0 := hSw.1.cell 0 rfl; have s1 := hSw.1.cell 1 rfl; have s2 := hSw.2.cell 0 rfl; have s3 := hSw.2.cell 1 rfl; clear hSw; go_simp)
    go_frame
    refine wpAnyL_take (i := 6) (v := .agg #[.int .i64 T, .int .i64 V]) rfl (by kernel_rfl) (by kernel_rfl) (by kernel_rfl) (by kernel_rfl) (by kernel_rfl) (fun _ _ _ h => h) (Or.inl ⟨by rfl, ?_⟩) hS ?_
    · (intro w' hSw; have s0 := hSw.1.cell 0 rfl; have s1 := hSw.1.cell 1 rfl; have s2 := hSw.2.cell 0 rfl; have s3 := hSw.2.cell 1 rfl; clear hSw; go_simp)
    go_frame
    refine wpAnyL_one (i := 7) (by kernel_rfl) rfl rfl ?_
    go_simp
    have kA : Kept wq ((wq.alloc (.cells #[.int .i64 T, .int .i64 V] 38)).drew) := ((Only.refl _ wq).alloc _).drew
    have bA : Blk ((wq.alloc (.cells #[.int .i64 T, .int .i64 V] 38)).drew) wq.heap.size [.int .i64 T, .int .i64 V] 38 := (Blk.new wq _ _).drew
    refine ⟨⟨kA.blk BS.out (fun f => f), kA.blk BQ.out (fun f => f)⟩, ?_⟩
    (try go_frame)
    refine wpAnyL_one (i := 8) (by kernel_rfl) rfl rfl ?_
    go_simp
    have SA := HSQ.out.only kA (fun _ _ f => f)
    have hcA : SmpAt ((wq.alloc (.cells #[.int .i64 T, .int .i64 V] 38)).drew) 0 sv c.smps := by rw [← HSVV.out]; exact SA.smp
    have hneA : ∀ k, sv.ownBlock = some k → wq.heap.size ≠ k := fun k hk => by
      have h1 := (ownN_lt HSQ.out.smp (k := k) (by rw [HSVV.out]; exact hk)).2
      omega
    have hneX : ∀ k, sv.ownBlock = some k → w.heap.size ≠ k := fun k hk => by
      have h1 := hsvlt.out k (by rw [HSVV.out]; exact hk)
      omega
    have hneC : ∀ k, sv.ownBlock = some k → cb ≠ k := fun k hk => by
      have h1 := HSQ.out.ne.2.1 k (by rw [HSVV.out]; exact hk)
      rw [HCB.out] at h1
      omega
    refine (HI.out _ hcA wq.heap.size bA hneA).mono ?_
    rintro e w3 ⟨sv', rfl, r1, r2, r3⟩
    obtain ⟨a5, c5, hsv5⟩ := ownN_slice r1
    obtain ⟨N5, hN5⟩ : ∃ N5, q.length = N5 := ⟨_, rfl⟩
    rw [hN5] at hsv5
    clear hN5
    subst hsv5
    have b3 := r2.blk (kA.blk BS.out (fun f => f)) (fun h => hneC cb h rfl)
    refine ⟨⟨b3, r2.blk (kA.blk BQ.out (fun f => f)) (fun h => hneX _ h rfl)⟩, ?_⟩
    have L3 : LabAt w3 0 c.lv c.labs := ownN_only SA.lab r2 (fun k hk h => SA.ne.2.2 k k hk (by rw [HSVV.out]; exact h) rfl)
    have f3 := b3.frozen 1
    have d3 := b3.cell 1 rfl
    have R1 := hid r1
    have R2 := hid r2
    have R3 := hid r3
    have B3 := hid b3
    have HL3 := hid L3
    have KA := hid kA
    clear r1 r2 r3 b3 L3 SA hcA kA bA hneA hneX
    (try go_frame)
    refine wpAnyL_one (i := 9) (by kernel_rfl) rfl rfl ?_
    go_simp
    refine ⟨⟨B3.out, R2.out.blk (KA.out.blk BQ.out (fun f => f)) (fun h => by have h1 := hsvlt.out _ (by rw [HSVV.out]; exact h); omega)⟩, ?_⟩
    (try go_frame)
    refine wpAnyL_one (i := 10) (by kernel_rfl) rfl rfl ?_
    go_simp
    refine ⟨⟨B3.out, R2.out.blk (KA.out.blk BQ.out (fun f => f)) (fun h => by have h1 := hsvlt.out _ (by rw [HSVV.out]; exact h); omega)⟩, ?_⟩
    (try go_frame)
    refine wpAnyL_last (by kernel_rfl) (by kernel_rfl) rfl rfl ?_
    go_simp
    refine NoPanic.normal ?_
    clear hS
    go_end0
    have hK3 : Only (fun k => sv.ownBlock = some k) w w3 := (HKq.out.trans KA.out (fun _ _ f => f)).mono (fun _ _ f => f.elim) |>.trans R2.out (fun k _ h => h)
    have kS := (Only.refl (fun k => k = cb) w3).setCell (p := ⟨cb, 1, none⟩) (fun _ => rfl) (.slice a5 N5 c5)
    have hsq := (HKq.out.trans KA.out (fun _ _ f => f)).size
    have hcblt : cb < w.heap.size := by have := S.blk.lt; rw [HCB.out] at this; exact this
    refine ⟨rfl, .slice a5 N5 c5, ⟨?_, ?_, ?_⟩, ?_, fun k hk => ?_⟩
    · rw [HCB.out]
      exact B3.out.set 1 _
    · refine ownN_only HL3.out kS (fun k hk e => ?_)
      have h1 := (ownN_typed HL3.out hk).ne B3.out.typed (by decide)
      exact h1 e
    · show SmpAt _ 0 _ (putS (T, V) c.smps)
      rw [HPUT.out]
      refine ownN_only R1.out kS (fun k hk e => ?_)
      have h1 := (ownN_typed R1.out hk).ne B3.out.typed (by decide)
      exact h1 e
    · rw [HCB.out, HSVV.out]
      exact (hK3.mono (fun k _ h => (.inr h : k = cb ∨ sv.ownBlock = some k))).trans kS (fun k _ h => .inl h)
    · rw [HSVV.out]
      rcases R3.out k hk with h | h
      · exact .inl h
      · exact .inr (Nat.le_trans hsq h)
end Go.Proofs.YtnbfbnhiikliaaaGreat.Hd
