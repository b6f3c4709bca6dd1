/-
  Xpk, Xpk2.
-/
import Derived.Test.YteknpfldemgmnaaGreatQ34
import Derived.Test.YteknpfldemgmnaaGreatQ46
import Derived.Lib.AppendZeros
import Derived.Lib.AppendStr

/-
  The bytes of an index: slices.Grow, slices.Concat, Pack.
-/
namespace Go.Proofs.YteknpfldemgmnaaGreat.X
open Go.RowKit Go.Proofs.Lys Go.Maps Go.Proofs.YteknpfldemgmnaaGreat.N
set_option linter.unusedVariables false
set_option linter.unusedSimpArgs false

abbrev BytAt (w : World) (B : Nat) (v : Value) (bs : List UInt8) : Prop := w.ownsRow B 5 1 v bs.length (bs.map bV)
theorem byt_app {w : World} {B : Nat} {v xv : Value} {bs ps : List UInt8} (h : BytAt w B v bs) (hs : SrcOf w xv (ps.map bV)) (hl : bs.length + ps.length ≤ 100000000) (hB : B ≤ w.heap.size) :
    ∃ a n c w', Hid ((Builtin.append_ #[30, 30] 0 #[v, xv]).run Tryz.prog w = .ok (.slice a n c) w') ∧ n = bs.length + ps.length ∧ Hid (BytAt w' B (.slice a n c) (bs ++ ps)) ∧ Hid (Only (fun j => v.ownBlock = some j) w w') := by
  obtain ⟨v', w', hr, h1, h2, h3⟩ := append_src (P := Tryz.prog) (base := B) Tryz.underlying30 Tryz.infoB rfl (by decide) h hs (bytes_one ps) (by rw [List.length_map]; omega) hB
  have h1' : BytAt w' B v' (bs ++ ps) := by
    unfold BytAt
    rw [List.length_append, List.map_append]
    rw [List.length_map] at h1
    exact h1
  obtain ⟨a, c, e⟩ := ownN_slice h1'
  rw [List.length_append] at e
  subst e
  exact ⟨a, _, c, w', hr, rfl, h1', (Only.refl _ w).grown h2 (fun j e _ => e)⟩
theorem byt_str {w : World} {B : Nat} {v : Value} {bs : List UInt8} (h : BytAt w B v bs) (s : ByteArray) (hl : bs.length + s.size ≤ 100000000) (hB : B ≤ w.heap.size) :
    ∃ a n c w', Hid ((Builtin.append_ #[30, 9] 0 #[v, .string s]).run Tryz.prog w = .ok (.slice a n c) w') ∧ n = bs.length + s.size ∧ Hid (BytAt w' B (.slice a n c) (bs ++ s.data.toList)) ∧ Hid (Only (fun j => v.ownBlock = some j) w w') := by
  obtain ⟨i0, hi0, hz0, hz1, hz2⟩ := info_parts Tryz.infoB
  obtain ⟨v', w', hr, h1, h2, _⟩ := Lib.run_append_own_string (P := Tryz.prog) (w := w) B 30 9 0 5 i0 Tryz.underlying30 Tryz.underlying9 hi0 hz0 hz1 hz2 v bs.length _ h s (by unfold maxLen; omega) (by omega) hB
  have hsl : s.data.toList.length = s.size := (Lib.size_eq s).symm
  have h1' : BytAt w' B v' (bs ++ s.data.toList) := by
    unfold BytAt
    rw [List.length_append, List.map_append, hsl]
    exact h1
  obtain ⟨a, c, e⟩ := ownN_slice h1'
  rw [List.length_append, hsl] at e
  subst e
  exact ⟨a, _, c, w', hr, rfl, h1', (Only.refl _ w).grown h2 (fun j e _ => e)⟩

set_option maxRecDepth 100000 in
set_option maxHeartbeats 1600000 in
theorem grow_nil (w : World) (n : Nat) (h0 : 0 < n) (hn : n ≤ 1000000) :
    Calls Tryz.prog 50 #[.slice none 0 0, .int .i64 (n : Int)] w fun e w' => ∃ a c, e = .returned (.slice a 0 c) ∧ BytAt w' w.heap.size (.slice a 0 c) [] ∧ Kept w w' := by
  obtain ⟨i0, hi0, hz0, hz1, hz2⟩ := info_parts Tryz.infoB
  have hrun := Lib.run_append_nil_zeros (P := Tryz.prog) w 30 3 0 5 i0 _ .i64 .i64 Tryz.underlying30 Tryz.underlying3 hi0 hz0 n h0 (by rw [hz1]; decide) (by omega) (by rw [hz2]; omega)
  have hge := grownCap_ge w n 0 5
  have hcm := grownCap_le_maxLen w n 0 5 (by unfold maxLen; omega)
  have hsz : (Builtin.zeroCells (Value.int .u8 0).cells n ++ Builtin.zeroCells (Value.int .u8 0).cells (grownCap w n 0 5 - n)).size = grownCap w n 0 5 := by
    rw [Array.size_append, size_zeroCells, size_zeroCells]
    simp [Value.cells]
    omega
  have HF : Hid (BytAt (w.drew.alloc (.cells (Builtin.zeroCells (Value.int .u8 0).cells n ++ Builtin.zeroCells (Value.int .u8 0).cells (grownCap w n 0 5 - n)) 5)) w.heap.size (.slice (some ⟨w.heap.size, 0, none⟩) 0 (grownCap w n 0 5)) [] ∧ Kept w (w.drew.alloc (.cells (Builtin.zeroCells (Value.int .u8 0).cells n ++ Builtin.zeroCells (Value.int .u8 0).cells (grownCap w n 0 5 - n)) 5))) := by
    refine ⟨⟨rfl, .inr ⟨w.heap.size, _, _, rfl, Nat.le_refl _, heap_alloc_new w.drew _, Nat.zero_le _, hcm, by rw [hsz]; omega, by simp⟩⟩, ((Only.refl _ w).drew).alloc _⟩
  have HR := hid hrun
  generalize w.drew.alloc (.cells (Builtin.zeroCells (Value.int .u8 0).cells n ++ Builtin.zeroCells (Value.int .u8 0).cells (grownCap w n 0 5 - n)) 5) = w2 at HF HR
  generalize grownCap w n 0 5 = CAP at HF HR hge
  clear hrun hcm hsz hi0 hz0 hz1 hz2 i0
  have hn0 : ¬ (n : Int) < 0 := by omega
  have hn1 : (0 : Int) < (n : Int) := by omega
  have hsl1 : ∀ W : World, (Instr.sliceAt 30 (.slice none 0 0) none (some (.int .i64 0)) none).run Tryz.prog W = .ok (.slice none 0 0) W := fun W => by kernel_rfl
  have hzB : ∀ W : World, (sizeOf 5).run Tryz.prog W = .ok 1 W := fun W => by kernel_rfl
  have hsl2 : ∀ W : World, (Instr.sliceAt 30 (.slice (some ⟨w.heap.size, 0, none⟩) n CAP) none (some (.int .i64 0)) none).run Tryz.prog W = .ok (.slice (some ⟨w.heap.size, 0, none⟩) 0 CAP) W := fun W => by
    simp [Instr.sliceAt, Instr.slice, Instr.sliceBounds, Instr.sliceBound, run_underlying Tryz.underlying30, asIntOf, Result.andThen, hzB]
    intro _
    rfl
  go_enter Tryz.func50, Tryz.ntmps50
  go_wp2_with (at_builtin; refine Lib.wpList_append_run _ rfl _ _ _ _ rfl _ _ rfl rfl _ _ HR.out ?_)
  (try go_wp2_with fail)
  go_ret
  exact ⟨_, _, rfl, HF.out.1, HF.out.2⟩

set_option maxRecDepth 100000 in
set_option maxHeartbeats 3200000 in
theorem concat2_any (w : World) (sb : Nat) (u1 u2 : Value) (b1 b2 : List UInt8) (hb : Blk w sb [u1, u2] 30) (h1 : SrcOf w u1 (b1.map bV)) (h2 : SrcOf w u2 (b2.map bV)) (hl : 0 < b1.length + b2.length) (hl1 : b1.length ≤ 1000) (hl2 : b2.length ≤ 1000) :
    Calls Tryz.prog 25 #[.slice (some ⟨sb, 0, none⟩) 2 2] w fun e w' => ∃ v, e = .returned v ∧ BytAt w' w.heap.size v (b1 ++ b2) ∧ Kept w w' := by
  obtain ⟨a1, c1, e1⟩ := h1.len
  obtain ⟨a2, c2, e2⟩ := h2.len
  rw [List.length_map] at e1 e2
  have HG := hid (grow_nil w (b1.length + b2.length) hl (by omega))
  have HB := hid hb
  have H1 := hid h1
  have H2 := hid h2
  obtain ⟨N1, hN1⟩ : ∃ N1, b1.length = N1 := ⟨_, rfl⟩
  obtain ⟨N2, hN2⟩ : ∃ N2, b2.length = N2 := ⟨_, rfl⟩
  rw [hN1] at e1 HG hl1 hl
  rw [hN2] at e2 HG hl2 hl
  have HN1 := hid hN1
  have HN2 := hid hN2
  subst e1 e2
  rw [Int.natCast_add] at HG
  have x0 := hb.cell 0 rfl
  have x1 := hb.cell 1 rfl
  clear hb h1 h2 hN1 hN2
  have w1 : IntKind.i64.wrap ((0 : Int) + (N1 : Int)) = (N1 : Int) := by rw [IntKind.wrap_i64]; omega
  have w2 : IntKind.i64.wrap ((N1 : Int) + (N2 : Int)) = ((N1 + N2 : Nat) : Int) := by rw [IntKind.wrap_i64]; omega
  have n1 : ¬ (N1 : Int) < 0 := by omega
  have n2 : ¬ ((N1 : Int) + (N2 : Int)) < 0 := by omega
  go_enter Tryz.func25, Tryz.ntmps25
  go_wp2
  refine wp_loop_rounds 3 ?_
  rw [rounds_succ]
  go_wp2
  rw [rounds_succ]
  go_wp2
  rw [rounds_succ]
  go_wp2_with fail
  refine HG.out.mono ?_
  rintro e w3 ⟨a6, c6, rfl, hat6, k6⟩
  have K6 := hid k6
  obtain ⟨a7, n7, c7, w7, r7, hn7, hat7, ho7⟩ := byt_app hat6 (H1.out.stay k6) (by have := HN1.out; simp; omega) k6.size
  have hon7 : Kept w w7 := k6.trans ho7.out (fun j hj e => by have := (ownN_lt hat6 e).1; omega)
  obtain ⟨a8, n8, c8, w8, r8, hn8, hat8, ho8⟩ := byt_app hat7.out (H2.out.stay hon7) (by have h1 := HN1.out; have h2 := HN2.out; simp; omega) hon7.size
  have HK8 := hid (show Kept w w8 from hon7.trans ho8.out (fun j hj e => by have := (ownN_lt hat7.out e).1; omega))
  have hb3 := k6.blk HB.out (fun f => f)
  have hb7 := hon7.blk HB.out (fun f => f)
  have y0 := hb3.cell 0 rfl
  have z1 := hb7.cell 1 rfl
  have HA8 : Hid (BytAt w8 w.heap.size (.slice a8 n8 c8) (b1 ++ b2)) := by simpa using hat8
  clear hat6 k6 hat7 ho7 hat8 ho8 hb3 hb7 hn7 hn8 hon7 x0 x1 HG
  go_wp2_with fail
  refine wp_loop_rounds 3 ?_
  rw [rounds_succ]
  go_wp2_with (at_builtin; refine Lys.wpList_append_run rfl _ _ _ rfl rfl rfl r7 ?_)
  (try go_wp2_with fail)
  rw [rounds_succ]
  go_wp2_with (at_builtin; refine Lys.wpList_append_run rfl _ _ _ rfl rfl rfl r8 ?_)
  (try go_wp2_with fail)
  rw [rounds_succ]
  go_wp2
  go_ret
  exact ⟨_, rfl, HA8.out, HK8.out⟩

/-- Bytes behind the bytes that a box holds, and where they lie. -/
theorem box_app {w w1 : World} {B base : Nat} {v pv : Value} {bs ps : List UInt8} (h : Po.Box w B base v bs) (hb : base ≤ w.heap.size) (hl : bs.length ≤ 2000000) (k1 : Kept w w1) (hp : SrcOf w1 pv (ps.map bV)) (hpl : ps.length ≤ 1000000) :
    ∃ a n c w2, Hid ((Builtin.append_ #[30, 30] 0 #[v, pv]).run Tryz.prog w1 = .ok (.slice a n c) w2) ∧ (w2.cell? ⟨B, 0, none⟩ = some v ∧ w2.frozen? ⟨B, 0, none⟩ = false) ∧ Hid (Po.Box (w2.setCell ⟨B, 0, none⟩ (.slice a n c)) B base (.slice a n c) (bs ++ ps)) ∧ Hid (Only (fun k => k = B ∨ v.ownBlock = some k) w (w2.setCell ⟨B, 0, none⟩ (.slice a n c))) ∧ (∀ k, k < w.heap.size → (Value.slice a n c).ownBlock = some k → v.ownBlock = some k) := by
  have ho1 := own_only h.own k1 (fun _ _ f => f)
  obtain ⟨v', w2, hrun, hown, hg, hat⟩ := append_src (P := Tryz.prog) Tryz.underlying30 Tryz.infoB rfl (by decide) ho1 hp (bytes_one ps) (by simp; omega) (Nat.le_trans hb k1.size)
  have hon : Only (fun k => v.ownBlock = some k) w w2 := (k1.mono (fun _ _ f => f.elim)).grown hg (fun k e _ => e)
  have hown' : BytAt w2 base v' (bs ++ ps) := by
    unfold BytAt
    have e1 : (bs ++ ps).length = bs.length + (ps.map bV).length := by simp
    rw [e1, List.map_append]
    exact hown
  obtain ⟨a, c, e⟩ := ownN_slice hown'
  have hbx := Only.blk hon h.box (fun e => h.apart B e rfl)
  have hloc : ∀ k, k < w.heap.size → v'.ownBlock = some k → v.ownBlock = some k := fun k hk hk2 => by
    rcases hat with e2 | e2
    · rw [← e2]; exact hk2
    · rw [e2] at hk2
      cases hk2
      have := k1.size
      omega
  have hap : ∀ k, v'.ownBlock = some k → k ≠ B := fun k hk e2 => by
    have h1 := h.box.lt
    rw [← e2] at h1
    exact h.apart k (hloc k h1 hk) e2
  subst e
  exact ⟨a, _, c, w2, hrun, ⟨hbx.cell 0 rfl, hbx.frozen 0⟩, Po.Box.stored hbx hown' hap, (hon.mono (O' := fun k => k = B ∨ v.ownBlock = some k) (fun _ _ e => .inr e)).setCell (p := ⟨B, 0, none⟩) (fun _ => .inl rfl) _, hloc⟩
/-- A text behind the bytes that a box holds. -/
theorem box_str {w w1 : World} {B base : Nat} {v : Value} {bs : List UInt8} (h : Po.Box w B base v bs) (hb : base ≤ w.heap.size) (s : ByteArray) (hl : bs.length + s.size ≤ 10000000) :
    ∃ a n c w2, Hid ((Builtin.append_ #[30, 9] 0 #[v, .string s]).run Tryz.prog w = .ok (.slice a n c) w2) ∧ (w2.cell? ⟨B, 0, none⟩ = some v ∧ w2.frozen? ⟨B, 0, none⟩ = false) ∧ Hid (Po.Box (w2.setCell ⟨B, 0, none⟩ (.slice a n c)) B base (.slice a n c) (bs ++ s.data.toList)) ∧ Hid (Only (fun k => k = B ∨ v.ownBlock = some k) w (w2.setCell ⟨B, 0, none⟩ (.slice a n c))) := by
  obtain ⟨i0, hi0, hz0, hz1, hz2⟩ := info_parts Tryz.infoB
  obtain ⟨a, n, c, w2, hr, hn, hat, hon⟩ := byt_str (B := base) h.own s (by omega) hb
  have hbx := hon.out.blk h.box (fun e => h.apart B e rfl)
  have hap : ∀ k, (Value.slice a n c).ownBlock = some k → k ≠ B := fun k hk e => by
    subst e
    exact ((ownN_typed hat.out hk).ne hbx.typed (by decide)) rfl
  exact ⟨a, n, c, w2, hr, ⟨hbx.cell 0 rfl, hbx.frozen 0⟩, Po.Box.stored hbx hat.out hap, (hon.out.mono (O' := fun k => k = B ∨ v.ownBlock = some k) (fun _ _ e => .inr e)).setCell (p := ⟨B, 0, none⟩) (fun _ => .inl rfl) _⟩

set_option maxRecDepth 100000 in
set_option maxHeartbeats 3200000 in
theorem text_any_ix (w : World) (s : ByteArray) (hs : s.size ≤ 100000) (B base : Nat) (v : Value) (bs : List UInt8) (h : Po.Box w B base v bs) (hb : base ≤ w.heap.size) (hl : bs.length ≤ 1000000) :
    Calls Tryz.prog 27 #[.string s, .pointer (some ⟨B, 0, none⟩)] w fun e w' => e = .returned (.tuple #[]) ∧ ∃ v', Po.Box w' B base v' (bs ++ putN (U.uN (s.size : Int)) ++ s.data.toList) ∧ Only (fun k => k = B ∨ v.ownBlock = some k) w w' := by
  have hcell := h.box.cell 0 rfl
  obtain ⟨a1, c1, rfl⟩ := h.slice
  have HX := hid h
  have HP := hid (fun W => U.put_any W (s.size : Int))
  have HPl := hid (Po.put_ten (s.size : Int))
  have HLOW := hid (fun k (hk : (Value.slice a1 bs.length c1).ownBlock = some k) => (ownN_lt h.own hk).1)
  generalize putN (U.uN (s.size : Int)) = ps at HP HPl ⊢
  clear h
  go_enter Tryz.func27, Tryz.ntmps27
  go_wp2_with fail
  refine wp_region_noPanic ?_
  refine wp_region_last (L := 5) (S := fun w' => w'.cell? ⟨B, 0, none⟩ = some (.slice a1 bs.length c1)) (by kernel_rfl) ?_
  have hS : (fun w' : World => w'.cell? ⟨B, 0, none⟩ = some (.slice a1 bs.length c1)) w.drew := hcell
  refine wpAnyL_take (i := 0) (v := .slice a1 bs.length c1) rfl (by kernel_rfl) (by kernel_rfl) (by kernel_rfl) (by kernel_rfl) (by kernel_rfl) (fun _ _ _ h => h) (Or.inl ⟨by rfl, ?_⟩) hS ?_
  · (intro w' hSw; go_simp)
  go_frame
  refine wpAnyL_one (i := 1) (by kernel_rfl) rfl rfl ?_
  go_simp
  (try go_frame)
  refine wpAnyL_one (i := 2) (by kernel_rfl) rfl rfl ?_
  go_simp
  (try go_frame)
  refine wpAnyL_one (i := 3) (by kernel_rfl) rfl rfl ?_
  go_simp
  refine (HP.out _).mono ?_
  rintro e w1 ⟨pv, rfl, hpo, k1⟩
  have k1' : Kept w w1 := ((Only.refl _ w).drew).trans k1 (fun _ _ f => f)
  have hc1 := (Only.blk k1' HX.out.box (fun f => f)).cell 0 rfl
  refine ⟨hc1, ?_⟩
  obtain ⟨a3, N, c3, w2, Hr, ⟨hc2, hf2⟩, hF, hO, hloc⟩ := box_app HX.out hb (by omega) k1' (own_src hpo) (by have := HPl.out; omega)
  obtain ⟨a9, n9, c9, w9, r9, ⟨q9, f9⟩, hbx9, hon9⟩ := box_str (w1 := w) hF.out (Nat.le_trans hb hO.out.size) s (by have := HPl.out; rw [List.length_append]; omega)
  have HON := hid (hO.out.trans hon9.out (fun k hk e => e.imp id (fun e2 => hloc k hk e2)))
  have q3 := hF.out.box.cell 0 rfl
  clear k1 k1' hpo hc1 hS hF hO hon9 hloc HLOW
  refine wpAnyL_one (i := 4) (by kernel_rfl) rfl rfl (oper_appendH _ _ _ rfl rfl rfl Hr ?_)
  refine ⟨hc2, ?_⟩
  go_frame
  refine wpAnyL_last (by kernel_rfl) (by kernel_rfl) rfl rfl ?_
  go_simp
  refine NoPanic.normal ?_
  generalize w2.setCell ⟨B, 0, none⟩ (.slice a3 N c3) = w5 at q3 r9 hbx9 HON ⊢
  go_wp2_with (at_builtin; refine Lib.wpList_append_run _ rfl _ _ _ _ rfl _ _ rfl rfl _ _ r9.out ?_)
  (try go_wp2_with fail)
  go_end0
  exact ⟨rfl, _, hbx9.out, HON.out⟩
end Go.Proofs.YteknpfldemgmnaaGreat.X

/-
  Pack.
-/
namespace Go.Proofs.YteknpfldemgmnaaGreat.X
open Go.RowKit Go.Proofs.Lys Go.Maps Go.Proofs.YteknpfldemgmnaaGreat.N
set_option linter.unusedVariables false
set_option linter.unusedSimpArgs false

/-- The bytes of a post; of an index. -/
def oneP (p : Post) : List UInt8 := putN (U.uN (p.1.1.size : Int)) ++ p.1.1.data.toList ++ (putN (U.uN (p.1.2.size : Int)) ++ p.1.2.data.toList) ++ Po.packL p.2
def packI (n : Nat) (P : Posts) : List UInt8 := putN (U.uN (n : Int)) ++ putN (U.uN (P.length : Int)) ++ P.flatMap oneP

theorem pack_ok {l : List Int} (h1 : l.length ≤ 1000) (h2 : Po.upB (-1) l = true) : Po.packR l = (Po.packL l, 0) := by
  unfold Po.packR
  rw [if_neg (by omega), if_pos h2]
theorem oneP_take {P : Posts} {k : Nat} (hk : k < P.length) : (P.take (k + 1)).flatMap oneP = (P.take k).flatMap oneP ++ oneP P[k] := by
  rw [List.take_succ_eq_append_getElem hk, List.flatMap_append]
  simp
theorem oneP_len (P : Posts) (k : Nat) : ((P.take k).flatMap oneP).length ≤ (P.flatMap oneP).length := by
  conv => rhs; rw [← List.take_append_drop k P, List.flatMap_append, List.length_append]
  omega

set_option maxRecDepth 100000 in
set_option maxHeartbeats 6400000 in
theorem pack_ix {w : World} {x : IxC} {O : Nat → Prop} {P : Posts} (hA : IxAt w x O) (hI : Is x P) (hl : P.length ≤ 20000) (hll : ∀ p ∈ P, p.2.length ≤ 1000 ∧ Po.upB (-1) p.2 = true ∧ p.1.1.size ≤ 64 ∧ p.1.2.size ≤ 64) (hsum : (packI x.n P).length ≤ 900000) :
    Calls Tryz.prog 9 #[.pointer (some ⟨x.xb, 0, none⟩)] w fun e w' => ∃ v, e = .returned v ∧ BytAt w' w.heap.size v (packI x.n P) ∧ Kept w w' := by
  have HPO := hid (posts_any hA hI (by omega) (fun p hp => by have := (hll p hp).1; omega))
  have HA := hid hA
  have HPU := hid (fun (W : World) (n : Int) => U.put_any W n)
  obtain ⟨XB, hXB⟩ : ∃ XB, x.xb = XB := ⟨_, rfl⟩
  have HN0 := hid (fun (W : World) (k : Kept w W) => (show W.cell? ⟨XB, 0, none⟩ = some (.int .i64 (x.n : Int)) from by rw [← hXB]; exact (hA.stay k).blk.cell 0 rfl))
  rw [hXB] at HPO ⊢
  clear hA hI hXB
  go_enter Tryz.func9, Tryz.ntmps9
  go_wp2_with fail
  refine HPO.out.mono ?_
  rintro e w1 ⟨v3, qs, rfl, hpo, hqe, k1⟩
  have HP := hid hpo
  have HQE := hid hqe
  have K1 := hid k1
  obtain ⟨a3, c3, e3⟩ := (pv_cells hpo.row).len
  have hql : qs.length = P.length := by have := congrArg List.length hqe; rw [List.length_map] at this; exact this
  obtain ⟨N, hN⟩ : ∃ N, P.length = N := ⟨_, rfl⟩
  rw [hql, hN] at e3
  subst e3
  have HQL := hid (hql.trans hN)
  have HN := hid hN
  have x0 := HN0.out w1 k1
  clear hpo hqe k1 hql hN HPO
  go_wp2_with fail
  refine (HPU.out w1 _).mono ?_
  rintro e w2 ⟨u1, rfl, hu1, k2⟩
  have HU1 := hid hu1
  obtain ⟨b1, d1, e1⟩ := ownN_slice hu1
  have K2 := hid k2
  generalize hM1 : (putN (U.uN (x.n : Int))).length = M1 at e1
  subst e1
  clear hu1 k2 x0
  go_wp2_with fail
  refine (HPU.out w2 _).mono ?_
  rintro e w3 ⟨u2, rfl, hu2, k3⟩
  have HU2 := hid hu2
  obtain ⟨b2, d2, e2⟩ := ownN_slice hu2
  have K3 := hid k3
  generalize hM2 : (putN (U.uN (N : Int))).length = M2 at e2
  subst e2
  clear hu2 k3
  go_wp2_with fail
  have ka : Kept w3 (w3.alloc (.cells #[.slice b1 M1 d1, .slice b2 M2 d2] 30)) := (Only.refl _ w3).alloc _
  have HC := hid (concat2_any (w3.alloc (.cells #[.slice b1 M1 d1, .slice b2 M2 d2] 30)) w3.heap.size _ _ (putN (U.uN (x.n : Int))) (putN (U.uN (N : Int))) (Blk.new w3 [.slice b1 M1 d1, .slice b2 M2 d2] 30) ((own_src HU1.out).stay (K3.out.trans ka (fun _ _ f => f))) ((own_src HU2.out).stay ka) (by have := putN_pos (U.uN (x.n : Int)); omega) (by have := Po.put_ten (x.n : Int); omega) (by have := Po.put_ten (N : Int); omega))
  have KA := hid (((K1.out.trans K2.out (fun _ _ f => f)).trans K3.out (fun _ _ f => f)).trans ka (fun _ _ f => f))
  have HPA := hid (((HP.out.stay K2.out).stay K3.out).stay ka)
  have hszA : w3.heap.size + 1 = (w3.alloc (.cells #[.slice b1 M1 d1, .slice b2 M2 d2] 30)).heap.size := by simp
  have hszB : w1.heap.size ≤ w3.heap.size := Nat.le_trans K2.out.size K3.out.size
  clear ka HU1 HU2 hM1 hM2
  generalize w3.alloc (.cells #[.slice b1 M1 d1, .slice b2 M2 d2] 30) = w4 at HC KA HPA hszA ⊢
  refine HC.out.mono ?_
  rintro e w5 ⟨v5, rfl, hat5, k5⟩
  obtain ⟨a5, c5, e5⟩ := ownN_slice hat5
  generalize hM5 : (putN (U.uN (x.n : Int)) ++ putN (U.uN (N : Int))).length = M5 at e5
  subst e5
  have hbx := Blk.new w5 [.slice a5 M5 c5] 30
  have kb : Kept w5 (w5.alloc (.cells #[.slice a5 M5 c5] 30)) := (Only.refl _ w5).alloc _
  have HBX := hid (show Po.Box (w5.alloc (.cells #[.slice a5 M5 c5] 30)) w5.heap.size w4.heap.size (.slice a5 M5 c5) (putN (U.uN (x.n : Int)) ++ putN (U.uN (N : Int))) from ⟨hbx, ownN_stay hat5 kb, fun k hk e => by have := (ownN_lt hat5 hk).2; omega⟩)
  have KB := hid (KA.out.trans (k5.trans kb (fun _ _ f => f)) (fun _ _ f => f))
  have KB4 := hid (k5.trans kb (fun _ _ f => f))
  have hsz5 := k5.size
  clear hat5 k5 hM5 kb hbx HC KA
  go_wp2_with fail
  obtain ⟨hd, hhd⟩ : ∃ hd, putN (U.uN (x.n : Int)) ++ putN (U.uN (N : Int)) = hd := ⟨_, rfl⟩
  rw [hhd] at HBX
  have HSUM : Hid (∀ k, (hd ++ (P.take k).flatMap oneP).length ≤ 900000) := fun k => by
    have h1 := oneP_len P k
    unfold packI at hsum
    rw [HN.out, hhd, List.length_append] at hsum
    rw [List.length_append]
    omega
  have HEND : Hid (packI x.n P = hd ++ P.flatMap oneP) := by
    show packI x.n P = hd ++ P.flatMap oneP
    unfold packI
    rw [HN.out, hhd]
  have HLL := hid hll
  have HPW := hid (fun (W : World) (k : Only (fun j => w4.heap.size ≤ j) w4 W) => HPA.out.only k (fun j _ hj => by omega))
  have HLT := hid (fun q (hq : q ∈ qs) j (hj : q.lv.ownBlock = some j) => (ownN_lt (HPA.out.num q hq) hj).2)
  have hszw : w.heap.size ≤ w4.heap.size := by have := KB4.out.size; have := K1.out.size; omega
  generalize hw6 : w5.alloc (.cells #[.slice a5 M5 c5] 30) = w6 at HBX KB KB4 ⊢
  have hsz6 : w6.heap.size = w5.heap.size + 1 := by rw [← hw6]; simp
  clear hw6 hhd hsum hll HPA HP
  generalize hB4 : w5.heap.size = B4 at *
  go_loopw [25] (fun s25 wr => ∃ (k : Nat) (v : Value), k ≤ N ∧ s25 = .int .i64 (k : Int) ∧ Hid (Po.Box wr B4 w4.heap.size v (hd ++ (P.take k).flatMap oneP)) ∧ Hid (Only (fun j => w4.heap.size ≤ j) w6 wr)) (fun s25 _ => N - (intOf s25).toNat)
  case atStart => exact ⟨0, _, by omega, rfl, hid (by simpa using HBX.out), hid (Only.refl _ _)⟩
  case round =>
    obtain ⟨k, vb, hk, rfl, hbox, hon⟩ := hrel
    have hszr := hon.out.size
    by_cases hlt : k < N
    · have hkP : k < P.length := by have := HN.out; omega
      have hkq : k < qs.length := by have := HQL.out; omega
      have hpw := HPW.out wr ((KB4.out.mono (O' := fun j => w4.heap.size ≤ j) (fun _ _ f => f.elim)).trans hon.out (fun _ _ e => e))
      obtain ⟨b, o, rfl, x1, x2, x3⟩ := (pv_cells hpw.row).cell HQL.out k hlt
      have hpe : qs[k].lab = P[k].1 ∧ qs[k].l = P[k].2 := by
        have : P[k]? = some (postV qs[k]) := by rw [← HQE.out, List.getElem?_map, List.getElem?_eq_getElem hkq]; rfl
        rw [List.getElem?_eq_getElem hkP] at this
        have := Option.some.inj this
        exact ⟨by rw [this]; rfl, by rw [this]; rfl⟩
      have hnum := hpw.num _ (List.getElem_mem hkq)
      rw [hpe.1] at x1 x2
      rw [hpe.2] at hnum
      have hpl := HLL.out P[k] (List.getElem_mem hkP)
      have HTK := hid (oneP_take hkP)
      have hbl := HSUM.out k
      have HLTk := hid (HLT.out qs[k] (List.getElem_mem hkq))
      generalize qs[k].lv = LV at x3 hnum HLTk
      generalize P[k] = p at x1 x2 hnum hpl HTK
      obtain ⟨⟨Y1, Y2⟩, pl⟩ := p
      simp only at x1 x2 hnum hpl
      obtain ⟨la, lc, e3⟩ := ownN_slice hnum
      have HNUM := hid hnum
      generalize hLN : pl.length = LN at e3
      subst e3
      obtain ⟨acc, hacc⟩ : ∃ acc, hd ++ (P.take k).flatMap oneP = acc := ⟨_, rfl⟩
      rw [hacc] at hbox hbl
      have HACC := hid hacc
      have ka : Kept wr (wr.alloc (.cells #[.string Y1, .string Y2, .slice la LN lc] 65)) := (Only.refl _ wr).alloc _
      have hbp := Blk.new wr [.string Y1, .string Y2, .slice la LN lc] 65
      have hbx := hbox.out
      have hbxa : Po.Box (wr.alloc (.cells #[.string Y1, .string Y2, .slice la LN lc] 65)) B4 w4.heap.size vb acc := ⟨ka.blk hbx.box (fun f => f), ownN_stay hbx.own ka, hbx.apart⟩
      have hsa : (wr.alloc (.cells #[.string Y1, .string Y2, .slice la LN lc] 65)).heap.size = wr.heap.size + 1 := by simp
      have HT1 := hid (text_any_ix _ Y1 (by omega) B4 w4.heap.size vb acc hbxa (by omega) (by omega))
      have HBP := hid hbp
      have HVB := hid hbxa
      have p1 := hbp.cell 0 rfl
      have eg : ∀ args w, (callFunc 27 args).run Tryz.prog w = .ok (.enter 27 args) w := enters_of Tryz.func27 (by kernel_rfl) rfl
      have HWR := hid ka
      clear hnum hpe hpw hbp hbx hbxa ka hacc
      go_wp2_with fail
      generalize wr.alloc (.cells #[.string Y1, .string Y2, .slice la LN lc] 65) = w7 at HT1 HBP HVB HWR hsa p1 ⊢
      generalize hBP : wr.heap.size = BP at *
      refine HT1.out.mono ?_
      rintro e w8 ⟨rfl, v8, hbx8, hon8⟩
      have hbp8 := hon8.blk HBP.out (fun e => by
        rcases e with e | e
        · have := HVB.out.box.lt
          have h2 := (HVB.out.box.typed).ne HBP.out.typed (by decide)
          exact h2 e.symm
        · exact ((ownN_typed HVB.out.own e).ne HBP.out.typed (by decide)) rfl)
      have p2 := hbp8.cell 1 rfl
      have hs8 := hon8.size
      have HO8 := hid (hon8.mono (O' := fun j => w4.heap.size ≤ j) (fun j _ e => by
        rcases e with e | e
        · omega
        · exact (ownN_lt HVB.out.own e).1))
      have HT2 := hid (text_any_ix w8 Y2 (by omega) B4 w4.heap.size v8 _ hbx8 (by omega) (by have := Po.put_ten (Y1.size : Int); have h3 : Y1.data.toList.length = Y1.size := (Lib.size_eq Y1).symm; rw [List.length_append, List.length_append]; omega))
      have HBP8 := hid hbp8
      have HBX8 := hid hbx8
      clear hbx8 hon8 hbp8 p1 HT1
      go_wp2_with fail
      refine HT2.out.mono ?_
      rintro e w9 ⟨rfl, v9, hbx9, hon9⟩
      have hbp9 := hon9.blk HBP8.out (fun e => by
        rcases e with e | e
        · exact ((HBX8.out.box.typed).ne HBP8.out.typed (by decide)) e.symm
        · exact ((ownN_typed HBX8.out.own e).ne HBP8.out.typed (by decide)) rfl)
      have p3 := hbp9.cell 2 rfl
      have hs9 := hon9.size
      have HO9 := hid (hon9.mono (O' := fun j => w4.heap.size ≤ j) (fun j _ e => by
        rcases e with e | e
        · omega
        · exact (ownN_lt HBX8.out.own e).1))
      have HBX9 := hid hbx9
      have HON9 := hid (show Only (fun j => w4.heap.size ≤ j) wr w9 from (((HWR.out.mono (O' := fun j => w4.heap.size ≤ j) (fun _ _ f => f.elim)).trans HO8.out (fun _ _ e => e)).trans HO9.out (fun _ _ e => e)))
      have HPK := hid (Po.pack_any w9 (.slice la LN lc) pl (own_src (ownN_only HNUM.out HON9.out (fun j hj e => by have := HLTk.out j hj; omega))) (by omega))
      have hlen9 : (acc ++ putN (U.uN (Y1.size : Int)) ++ Y1.data.toList ++ putN (U.uN (Y2.size : Int)) ++ Y2.data.toList).length ≤ 900200 := by
        have h1 := Po.put_ten (Y1.size : Int)
        have h2 := Po.put_ten (Y2.size : Int)
        have h3 : Y1.data.toList.length = Y1.size := (Lib.size_eq Y1).symm
        have h4 : Y2.data.toList.length = Y2.size := (Lib.size_eq Y2).symm
        rw [List.length_append, List.length_append, List.length_append, List.length_append]
        omega
      have hpk : Po.packR pl = (Po.packL pl, 0) := pack_ok (by omega) hpl.2.1
      have hpkl : (Po.packL pl).length ≤ 100000 := by have := Po.pack_len pl; omega
      have hvb : ∃ a n c, v9 = .slice a n c := by obtain ⟨a, c, e⟩ := hbx9.slice; exact ⟨_, _, _, e⟩
      clear hbx9 hon9 hbp9 p2 HT2
      go_wp2_with fail
      refine HPK.out.mono ?_
      rintro e w10 ⟨u10, rfl, hu10, k10⟩
      rw [hpk] at hu10 ⊢
      obtain ⟨a10, n10, c10, w11, r11, ⟨q11, f11⟩, hbx11, hon11, _⟩ := box_app HBX9.out (by omega) (by omega) k10 (own_src hu10) (by show (Po.packL pl).length ≤ 1000000; omega)
      have q10 := (k10.blk HBX9.out.box (fun f => f)).cell 0 rfl
      obtain ⟨ua, uc, ue⟩ := ownN_slice hu10
      obtain ⟨va, vn, vc, rfl⟩ := hvb
      have HBX11 : Hid (Po.Box (w11.setCell ⟨B4, 0, none⟩ (.slice a10 n10 c10)) B4 w4.heap.size (.slice a10 n10 c10) (hd ++ (P.take (k + 1)).flatMap oneP)) := by
        rw [HTK.out, ← List.append_assoc, HACC.out]
        have := hbx11.out
        unfold oneP
        simp only [List.append_assoc] at this ⊢
        exact this
      have HON11 := hid (show Only (fun j => w4.heap.size ≤ j) w6 (w11.setCell ⟨B4, 0, none⟩ (.slice a10 n10 c10)) from (hon.out.trans HON9.out (fun _ _ e => e)).trans hon11.out (fun j _ e => by
        rcases e with e | e
        · omega
        · exact (ownN_lt HBX9.out.own e).1))
      generalize (Po.packL pl, (0 : Int)).1.length = UN at ue
      subst ue
      clear hu10 k10 hbx11 hon11 hpk
      go_wp2_with (at_builtin; refine Lys.wpList_append_run rfl _ _ _ rfl rfl rfl r11 ?_)
      (try go_wp2_with fail)
      go_roundw
      case rel => exact ⟨k + 1, _, by omega, by go_num, HBX11, HON11⟩
      case measure => simp [intOf]; omega
    · obtain rfl : N = k := by omega
      have hbx := hbox.out
      rw [List.take_of_length_le (by have := HN.out; omega)] at hbx
      have q0 := hbx.box.cell 0 rfl
      have HF := hid (show BytAt wr w.heap.size vb (packI x.n P) ∧ Kept w wr from ⟨by rw [HEND.out]; exact ownN_base hbx.own hszw, KB.out.trans hon.out (fun j hj e => by omega)⟩)
      obtain ⟨va, vc, e⟩ := hbx.slice
      generalize (hd ++ P.flatMap oneP).length = VN at e
      subst e
      clear hbx
      go_wp2
      go_ret
      exact ⟨_, rfl, HF.out.1, HF.out.2⟩
end Go.Proofs.YteknpfldemgmnaaGreat.X
