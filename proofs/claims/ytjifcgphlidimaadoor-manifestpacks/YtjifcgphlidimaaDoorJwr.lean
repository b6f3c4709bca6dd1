/-
  Package manifest: the writer puts a number behind its bytes.
-/
import Derived.Test.YtjifcgphlidimaaDoorJwire
import Derived.Test.YtjifcgphlidimaaDoorJchk
import Derived.Test.YtjifcgphlidimaaDoorVlaw
import Derived.Test.YtjifcgphlidimaaDoorDlast
import Derived.Test.YtjifcgphlidimaaDoorWlast
namespace Go.Proofs.Lys
open Go Go.RowKit
theorem oper_appendH {P : Program} {w : World} {o : Oper} {a : Act} {K : Act → World → Prop} {Q : Exit → Act → World → Prop} (s x : Operand) (t : TypeId)
    (ho : o.op = .call { callee := .builtin .append, args := #[s, x], argTypes := #[t, t] }) {sv xv : Value} (hs : a.eval s = sv) (hx : a.eval x = xv) {v : Value} {w' : World}
    (hrun : Hid ((Builtin.append_ #[t, t] 0 #[sv, xv]).run P w = .ok v w')) (h : K (a.put o.dst v) w') : Oper.wp P o a w K Q := by
  have hr : (Builtin.append_ #[t, t] o.type #[sv, xv]).run P w = .ok v w' := hrun.out
  unfold Oper.wp execOp
  simp only [ho, resolve, invoke, builtin, Sem.run_bind, Sem.run_pure, Result.andThen_ok, List.map_toArray, List.map_cons, List.map_nil, hs, hx, hr]
  exact h
end Go.Proofs.Lys
namespace Go.Proofs.YtjifcgphlidimaaDoor.J
open Go Go.RowKit Go.Proofs.Lys
open Go.Proofs.YtjifcgphlidimaaDoor.U (zigN zigN_lt uN uN_lt)
set_option linter.unusedVariables false
set_option linter.unusedSimpArgs false

theorem Tryd.infoBy : (Tryd.prog.info? 5).map (fun i => (i.zero, i.size, i.bytes)) = some (some (.int .u8 0), 1, 1) := by kernel_rfl
abbrev BytAt (w : World) (B : Nat) (v : Value) (bs : List UInt8) : Prop := w.ownsRow B 5 1 v bs.length (bs.map bV)
theorem byt_app {w : World} {B : Nat} {v xv : Value} {bs ps : List UInt8} (h : BytAt w B v bs) (hs : SrcOf w xv (ps.map bV)) (hl : bs.length + ps.length ≤ 100000000) (hB : B ≤ w.heap.size) :
    ∃ a n c w', Hid ((Builtin.append_ #[28, 28] 0 #[v, xv]).run Tryd.prog w = .ok (.slice a n c) w') ∧ n = bs.length + ps.length ∧ Hid (BytAt w' B (.slice a n c) (bs ++ ps)) ∧ Hid (Only (fun j => v.ownBlock = some j) w w') := by
  obtain ⟨v', w', hr, h1, h2, h3⟩ := append_src (P := Tryd.prog) (base := B) Tryd.underlying28 Tryd.infoBy rfl (by decide) h hs (bytes_one ps) (by rw [List.length_map]; omega) hB
  have h1' : BytAt w' B v' (bs ++ ps) := by
    unfold BytAt
    rw [List.length_append, List.map_append]
    rw [List.length_map] at h1
    exact h1
  obtain ⟨a, c, e⟩ := ownN_slice h1'
  rw [List.length_append] at e
  subst e
  exact ⟨a, _, c, w', hr, rfl, h1', (Only.refl _ w).grown h2 (fun j e _ => e)⟩
/-- What the writer may turn: itself, and bytes of its own. -/
def TyO (W : World) (P B : Nat) (j : Nat) : Prop := j = P ∨ (B ≤ j ∧ Typed W j 5)
theorem tyO_trans {W w1 w2 : World} {P B : Nat} (h : Only (TyO W P B) W w1) (k : Only (TyO w1 P B) w1 w2) : Only (TyO W P B) W w2 :=
  h.trans k (fun j hj hk => by
    rcases hk with hk | ⟨hB, cs, fz, ht⟩
    · exact .inl hk
    · by_cases e : TyO W P B j
      · exact e
      · exact .inr ⟨hB, cs, fz, (h.block j hj e).symm.trans ht⟩)
theorem tyO_blk {W w1 : World} {P B b : Nat} {vs : List Value} {T : TypeId} (h : Only (TyO W P B) W w1) (hb : Blk W b vs T) (hbP : b ≠ P) (hT : T ≠ 5) : Blk w1 b vs T :=
  Only.blk h hb (fun e => by
    rcases e with e | ⟨_, e⟩
    · exact hbP e
    · exact hb.typed.ne e hT rfl)
/-- Bytes to which more can be put. -/
structure ByA (W : World) (B : Nat) (v : Value) (bs : List UInt8) : Prop where
  low : ∀ j, v.ownBlock = some j → B ≤ j ∧ Typed W j 5
  sl : ∃ a n c, v = .slice a n c
  app : ∀ X xv (ps : List UInt8), Kept W X → SrcOf X xv (ps.map bV) → 0 < ps.length → ps.length ≤ 1000 → ∃ a n c w3, Hid ((Builtin.append_ #[28, 28] 0 #[v, xv]).run Tryd.prog X = .ok (.slice a n c) w3) ∧ BytAt w3 B (.slice a n c) (bs ++ ps) ∧ Only (fun j => v.ownBlock = some j) X w3
theorem ByA.of {W : World} {B : Nat} {v : Value} {bs : List UInt8} (h : BytAt W B v bs) (hB : B ≤ W.heap.size) (hl : bs.length ≤ 100000) : ByA W B v bs :=
  ⟨fun j hj => ⟨(ownN_lt h hj).1, ownN_typed h hj⟩, (by obtain ⟨a, c, e⟩ := ownN_slice h; exact ⟨a, _, c, e⟩), fun X xv ps k hs h0 hp => by
    obtain ⟨a, n, c, w3, hr, _, h3, ho⟩ := byt_app (ownN_stay h k) hs (by omega) (Nat.le_trans hB k.size)
    exact ⟨a, n, c, w3, hr, h3.out, ho.out⟩⟩
/-- What the writer at P leaves. -/
def WrP (W : World) (P B : Nat) (v : Value) (l : List UInt8) (e : Ending) (w' : World) : Prop :=
  e = .returned (.tuple #[]) ∧ ∃ v', Blk w' P [v'] 48 ∧ BytAt w' B v' l ∧ Only (TyO W P B) W w'

set_option maxRecDepth 100000 in
set_option maxHeartbeats 3200000 in
theorem wplain_any (W : World) (P B : Nat) (v : Value) (bs : List UInt8) (nb no : Nat) (x : Int) (hP : Blk W P [v] 48) (hR : ByA W B v bs) (hc : W.cell? ⟨nb, no, none⟩ = some (.int .i64 x)) (hnt : ∃ T, T ≠ 5 ∧ Typed W nb T) :
    Calls Tryd.prog 20 #[.pointer (some ⟨P, 0, none⟩), .pointer (some ⟨nb, no, none⟩)] W (WrP W P B v (bs ++ putN (uN x))) := by
  obtain ⟨PQ, hPQ⟩ : ∃ PQ, WrP W P B v (bs ++ putN (uN x)) = PQ := ⟨_, rfl⟩
  rw [hPQ]
  have HPQ := hid hPQ
  have hlow : ∀ j, v.ownBlock = some j → B ≤ j ∧ Typed W j 5 := hR.low
  have hPown : ∀ j, v.ownBlock = some j → P ≠ j := fun j hj => hP.typed.ne (hR.low j hj).2 (by decide)
  have hnb : ∀ j, v.ownBlock = some j → nb ≠ j := fun j hj => by
    obtain ⟨T, hT, ht⟩ := hnt
    exact ht.ne (hR.low j hj).2 hT
  have HPO := hid hPown
  have HPW := hid hP
  have HRW := hid hR
  have hPl := hP.lt
  have HLW := hid hlow
  have HPU := hid (fun X => U.put_any X x)
  obtain ⟨bl, hbl⟩ : ∃ bl, putN (uN x) = bl := ⟨_, rfl⟩
  have HBL : Hid (bl.length ≤ 10) := hid (by rw [← hbl]; exact putN_ten (by first | exact uN_lt _ | exact zigN_lt (by assumption)))
  have HBP : Hid (0 < bl.length) := hid (by rw [← hbl]; exact putN_pos _)
  rw [hbl] at hPQ HPU
  obtain ⟨va, n0, vc, hvs⟩ := hR.sl
  obtain ⟨SVB, hSVB⟩ : ∃ SVB, v.ownBlock = SVB := ⟨_, rfl⟩
  have HOB : Hid (∀ X, Only (fun j => SVB = some j) W X → X.cell? ⟨P, 0, none⟩ = some v ∧ X.cell? ⟨nb, no, none⟩ = some (.int .i64 x)) := hid (fun X k => by
    have h2 := Only.blk k hP (fun e => hPown _ (hSVB.trans e) rfl)
    refine ⟨h2.cell 0 rfl, ?_⟩
    rw [World.cell?_of_block (w := W) (w' := X) (a := ⟨nb, no, none⟩) (k.block nb (World.block_lt_of_cell? W _ hc) (fun e => hnb nb (hSVB.trans e) rfl))]
    exact hc)
  have HAP : Hid (∀ X xv, Kept W X → SrcOf X xv (bl.map bV) → ∃ a n c w3, Hid ((Builtin.append_ #[28, 28] 0 #[v, xv]).run Tryd.prog X = .ok (.slice a n c) w3) ∧ Only (fun j => SVB = some j) W w3 ∧ w3.cell? ⟨P, 0, none⟩ = some v ∧ w3.frozen? ⟨P, 0, none⟩ = false ∧ PQ (.returned (.tuple #[])) (w3.setCell ⟨P, 0, none⟩ (.slice a n c))) := hid (fun X xv k hs => by
    obtain ⟨a, n, c, w3, hr, h3, ho⟩ := HRW.out.app X xv bl k hs HBP.out (by have := HBL.out; omega)
    have hO : Only (fun j => SVB = some j) W w3 := by
      rw [← hSVB]
      exact (k.mono (O' := fun j => v.ownBlock = some j) (fun _ _ f => f.elim)).trans ho (fun _ _ h => h)
    have hP3 := Only.blk hO HPW.out (fun e => HPO.out _ (hSVB.trans e) rfl)
    refine ⟨a, n, c, w3, hr, hO, hP3.cell 0 rfl, hP3.frozen 0, ?_⟩
    rw [← hPQ]
    refine ⟨rfl, _, hP3.set 0 _, ?_, ?_⟩
    · exact ownN_only h3 ((Only.refl (fun j => j = P) w3).setCell (fun _ => rfl) _) (fun j hj e => (hP3.typed.ne (ownN_typed h3 hj) (by decide)) e.symm)
    · have hx : Only (TyO W P B) W w3 := hO.mono (fun j _ h => .inr (HLW.out j (hSVB.trans h)))
      exact hx.setCell (fun _ => .inl rfl) _)
  subst hvs
  clear hP hR hPQ hlow hSVB hc hnb hbl hPown hnt
  go_enter Tryd.func20, Tryd.ntmps20
  go_wp2_with fail
  have hS : (fun w' : World => Only (fun j => SVB = some j) W w') W.drew := (Only.refl _ W).drew
  refine wp_region_noPanic ?_
  refine wp_region_last (L := 12) (S := fun w' => Only (fun j => SVB = some j) W w') (by kernel_rfl) ?_
  refine wpAnyL_take (i := 0) (v := .pointer (some ⟨P, 0, none⟩)) rfl (by kernel_rfl) (by kernel_rfl) (by kernel_rfl) (by kernel_rfl) (by kernel_rfl) (fun _ _ _ h => h) (Or.inl ⟨by kernel_rfl, ?_⟩) hS ?_
  · (intro w' hSw; obtain ⟨x0, x1⟩ := HOB.out w' hSw; clear hSw; go_simp)
  (try simp only [List.getElem_toArray, List.getElem_cons_succ, List.getElem_cons_zero])
  go_frame
  refine wpAnyL_take (i := 1) (v := .pointer (some ⟨P, 0, none⟩)) rfl (by kernel_rfl) (by kernel_rfl) (by kernel_rfl) (by kernel_rfl) (by kernel_rfl) (fun _ _ _ h => h) (Or.inl ⟨by kernel_rfl, ?_⟩) hS ?_
  · (intro w' hSw; obtain ⟨x0, x1⟩ := HOB.out w' hSw; clear hSw; go_simp)
  (try simp only [List.getElem_toArray, List.getElem_cons_succ, List.getElem_cons_zero])
  go_frame
  refine wpAnyL_take (i := 2) (v := .pointer (some ⟨P, 0, none⟩)) rfl (by kernel_rfl) (by kernel_rfl) (by kernel_rfl) (by kernel_rfl) (by kernel_rfl) (fun _ _ _ h => h) (Or.inl ⟨by kernel_rfl, ?_⟩) hS ?_
  · (intro w' hSw; obtain ⟨x0, x1⟩ := HOB.out w' hSw; clear hSw; go_simp)
  (try simp only [List.getElem_toArray, List.getElem_cons_succ, List.getElem_cons_zero])
  go_frame
  refine wpAnyL_take (i := 3) (v := .pointer (some ⟨P, 0, none⟩)) rfl (by kernel_rfl) (by kernel_rfl) (by kernel_rfl) (by kernel_rfl) (by kernel_rfl) (fun _ _ _ h => h) (Or.inl ⟨by kernel_rfl, ?_⟩) hS ?_
  · (intro w' hSw; obtain ⟨x0, x1⟩ := HOB.out w' hSw; clear hSw; go_simp)
  (try simp only [List.getElem_toArray, List.getElem_cons_succ, List.getElem_cons_zero])
  go_frame
  refine wpAnyL_take (i := 4) (v := .slice va n0 vc) rfl (by kernel_rfl) (by kernel_rfl) (by kernel_rfl) (by kernel_rfl) (by kernel_rfl) (fun _ _ _ h => h) (Or.inl ⟨by kernel_rfl, ?_⟩) hS ?_
  · (intro w' hSw; obtain ⟨x0, x1⟩ := HOB.out w' hSw; clear hSw; go_simp)
  (try simp only [List.getElem_toArray, List.getElem_cons_succ, List.getElem_cons_zero])
  go_frame
  refine wpAnyL_take (i := 5) (v := .pointer (some ⟨nb, no, none⟩)) rfl (by kernel_rfl) (by kernel_rfl) (by kernel_rfl) (by kernel_rfl) (by kernel_rfl) (fun _ _ _ h => h) (Or.inl ⟨by kernel_rfl, ?_⟩) hS ?_
  · (intro w' hSw; obtain ⟨x0, x1⟩ := HOB.out w' hSw; clear hSw; go_simp)
  (try simp only [List.getElem_toArray, List.getElem_cons_succ, List.getElem_cons_zero])
  go_frame
  refine wpAnyL_take (i := 6) (v := .pointer (some ⟨nb, no, none⟩)) rfl (by kernel_rfl) (by kernel_rfl) (by kernel_rfl) (by kernel_rfl) (by kernel_rfl) (fun _ _ _ h => h) (Or.inl ⟨by kernel_rfl, ?_⟩) hS ?_
  · (intro w' hSw; obtain ⟨x0, x1⟩ := HOB.out w' hSw; clear hSw; go_simp)
  (try simp only [List.getElem_toArray, List.getElem_cons_succ, List.getElem_cons_zero])
  go_frame
  refine wpAnyL_take (i := 7) (v := .int .i64 x) rfl (by kernel_rfl) (by kernel_rfl) (by kernel_rfl) (by kernel_rfl) (by kernel_rfl) (fun _ _ _ h => h) (Or.inl ⟨by kernel_rfl, ?_⟩) hS ?_
  · (intro w' hSw; obtain ⟨x0, x1⟩ := HOB.out w' hSw; clear hSw; go_simp)
  (try simp only [List.getElem_toArray, List.getElem_cons_succ, List.getElem_cons_zero])
  go_frame
  refine wpAnyL_one (i := 8) (by kernel_rfl) rfl (by kernel_rfl) ?_
  go_simp
  refine (HPU.out _).mono ?_
  rintro e w2 ⟨pv, rfl, hp2, k2⟩
  have hk2 : Kept W w2 := ((Only.refl _ W).drew).trans k2 (fun _ _ f => f)
  obtain ⟨a, n, c, w3, HR, hO3, hc3, hf3, hF⟩ := HAP.out w2 pv hk2 (own_src hp2)
  have HF := hid hF
  have HO3 := hid hO3
  have hS2 : Only (fun j => SVB = some j) W w2 := hk2.mono (fun _ _ f => f.elim)
  obtain ⟨pa, pc, hpe⟩ := ownN_slice hp2
  subst hpe
  clear hp2 k2 hO3 hF
  refine ⟨hS2, ?_⟩
  (try simp only [List.getElem_toArray, List.getElem_cons_succ, List.getElem_cons_zero])
  (try go_frame)
  refine wpAnyL_one (i := 9) (by kernel_rfl) rfl (by kernel_rfl) (oper_appendH _ _ _ rfl rfl rfl HR ?_)
  refine ⟨HO3.out, ?_⟩
  (try go_frame)
  refine wpAnyL_one (i := 10) (by kernel_rfl) rfl (by kernel_rfl) ?_
  go_simp
  (first | refine ⟨HO3.out, ?_⟩ | skip)
  refine wpAnyL_one (i := 11) (by kernel_rfl) rfl (by kernel_rfl) ?_
  go_simp
  (first | refine ⟨HO3.out, ?_⟩ | skip)
  refine wpAnyL_last (by kernel_rfl) (by kernel_rfl) rfl (by kernel_rfl) ?_
  go_simp
  refine NoPanic.normal ?_
  (try go_wp2)
  first | exact HF.out | (refine bodyPost_ret (results_none rfl _ _ _) rfl ?_; exact HF.out)

set_option maxRecDepth 100000 in
set_option maxHeartbeats 3200000 in
theorem wsigned_any (W : World) (P B : Nat) (v : Value) (bs : List UInt8) (nb no : Nat) (x : Int) (hP : Blk W P [v] 48) (hR : ByA W B v bs) (hc : W.cell? ⟨nb, no, none⟩ = some (.int .i64 x)) (hnt : ∃ T, T ≠ 5 ∧ Typed W nb T) (hx : U.In64 x) :
    Calls Tryd.prog 21 #[.pointer (some ⟨P, 0, none⟩), .pointer (some ⟨nb, no, none⟩)] W (WrP W P B v (bs ++ putN (zigN x))) := by
  obtain ⟨PQ, hPQ⟩ : ∃ PQ, WrP W P B v (bs ++ putN (zigN x)) = PQ := ⟨_, rfl⟩
  rw [hPQ]
  have HPQ := hid hPQ
  have hlow : ∀ j, v.ownBlock = some j → B ≤ j ∧ Typed W j 5 := hR.low
  have hPown : ∀ j, v.ownBlock = some j → P ≠ j := fun j hj => hP.typed.ne (hR.low j hj).2 (by decide)
  have hnb : ∀ j, v.ownBlock = some j → nb ≠ j := fun j hj => by
    obtain ⟨T, hT, ht⟩ := hnt
    exact ht.ne (hR.low j hj).2 hT
  have HPO := hid hPown
  have HPW := hid hP
  have HRW := hid hR
  have hPl := hP.lt
  have HLW := hid hlow
  have HPU := hid (fun X => U.signed_any X x hx)
  obtain ⟨bl, hbl⟩ : ∃ bl, putN (zigN x) = bl := ⟨_, rfl⟩
  have HBL : Hid (bl.length ≤ 10) := hid (by rw [← hbl]; exact putN_ten (by first | exact uN_lt _ | exact zigN_lt (by assumption)))
  have HBP : Hid (0 < bl.length) := hid (by rw [← hbl]; exact putN_pos _)
  rw [hbl] at hPQ HPU
  obtain ⟨va, n0, vc, hvs⟩ := hR.sl
  obtain ⟨SVB, hSVB⟩ : ∃ SVB, v.ownBlock = SVB := ⟨_, rfl⟩
  have HOB : Hid (∀ X, Only (fun j => SVB = some j) W X → X.cell? ⟨P, 0, none⟩ = some v ∧ X.cell? ⟨nb, no, none⟩ = some (.int .i64 x)) := hid (fun X k => by
    have h2 := Only.blk k hP (fun e => hPown _ (hSVB.trans e) rfl)
    refine ⟨h2.cell 0 rfl, ?_⟩
    rw [World.cell?_of_block (w := W) (w' := X) (a := ⟨nb, no, none⟩) (k.block nb (World.block_lt_of_cell? W _ hc) (fun e => hnb nb (hSVB.trans e) rfl))]
    exact hc)
  have HAP : Hid (∀ X xv, Kept W X → SrcOf X xv (bl.map bV) → ∃ a n c w3, Hid ((Builtin.append_ #[28, 28] 0 #[v, xv]).run Tryd.prog X = .ok (.slice a n c) w3) ∧ Only (fun j => SVB = some j) W w3 ∧ w3.cell? ⟨P, 0, none⟩ = some v ∧ w3.frozen? ⟨P, 0, none⟩ = false ∧ PQ (.returned (.tuple #[])) (w3.setCell ⟨P, 0, none⟩ (.slice a n c))) := hid (fun X xv k hs => by
    obtain ⟨a, n, c, w3, hr, h3, ho⟩ := HRW.out.app X xv bl k hs HBP.out (by have := HBL.out; omega)
    have hO : Only (fun j => SVB = some j) W w3 := by
      rw [← hSVB]
      exact (k.mono (O' := fun j => v.ownBlock = some j) (fun _ _ f => f.elim)).trans ho (fun _ _ h => h)
    have hP3 := Only.blk hO HPW.out (fun e => HPO.out _ (hSVB.trans e) rfl)
    refine ⟨a, n, c, w3, hr, hO, hP3.cell 0 rfl, hP3.frozen 0, ?_⟩
    rw [← hPQ]
    refine ⟨rfl, _, hP3.set 0 _, ?_, ?_⟩
    · exact ownN_only h3 ((Only.refl (fun j => j = P) w3).setCell (fun _ => rfl) _) (fun j hj e => (hP3.typed.ne (ownN_typed h3 hj) (by decide)) e.symm)
    · have hx : Only (TyO W P B) W w3 := hO.mono (fun j _ h => .inr (HLW.out j (hSVB.trans h)))
      exact hx.setCell (fun _ => .inl rfl) _)
  subst hvs
  clear hP hR hPQ hlow hSVB hc hnb hbl hPown hnt
  go_enter Tryd.func21, Tryd.ntmps21
  go_wp2_with fail
  have hS : (fun w' : World => Only (fun j => SVB = some j) W w') W.drew := (Only.refl _ W).drew
  refine wp_region_noPanic ?_
  refine wp_region_last (L := 12) (S := fun w' => Only (fun j => SVB = some j) W w') (by kernel_rfl) ?_
  refine wpAnyL_take (i := 0) (v := .pointer (some ⟨P, 0, none⟩)) rfl (by kernel_rfl) (by kernel_rfl) (by kernel_rfl) (by kernel_rfl) (by kernel_rfl) (fun _ _ _ h => h) (Or.inl ⟨by kernel_rfl, ?_⟩) hS ?_
  · (intro w' hSw; obtain ⟨x0, x1⟩ := HOB.out w' hSw; clear hSw; go_simp)
  (try simp only [List.getElem_toArray, List.getElem_cons_succ, List.getElem_cons_zero])
  go_frame
  refine wpAnyL_take (i := 1) (v := .pointer (some ⟨P, 0, none⟩)) rfl (by kernel_rfl) (by kernel_rfl) (by kernel_rfl) (by kernel_rfl) (by kernel_rfl) (fun _ _ _ h => h) (Or.inl ⟨by kernel_rfl, ?_⟩) hS ?_
  · (intro w' hSw; obtain ⟨x0, x1⟩ := HOB.out w' hSw; clear hSw; go_simp)
  (try simp only [List.getElem_toArray, List.getElem_cons_succ, List.getElem_cons_zero])
  go_frame
  refine wpAnyL_take (i := 2) (v := .pointer (some ⟨P, 0, none⟩)) rfl (by kernel_rfl) (by kernel_rfl) (by kernel_rfl) (by kernel_rfl) (by kernel_rfl) (fun _ _ _ h => h) (Or.inl ⟨by kernel_rfl, ?_⟩) hS ?_
  · (intro w' hSw; obtain ⟨x0, x1⟩ := HOB.out w' hSw; clear hSw; go_simp)
  (try simp only [List.getElem_toArray, List.getElem_cons_succ, List.getElem_cons_zero])
  go_frame
  refine wpAnyL_take (i := 3) (v := .pointer (some ⟨P, 0, none⟩)) rfl (by kernel_rfl) (by kernel_rfl) (by kernel_rfl) (by kernel_rfl) (by kernel_rfl) (fun _ _ _ h => h) (Or.inl ⟨by kernel_rfl, ?_⟩) hS ?_
  · (intro w' hSw; obtain ⟨x0, x1⟩ := HOB.out w' hSw; clear hSw; go_simp)
  (try simp only [List.getElem_toArray, List.getElem_cons_succ, List.getElem_cons_zero])
  go_frame
  refine wpAnyL_take (i := 4) (v := .slice va n0 vc) rfl (by kernel_rfl) (by kernel_rfl) (by kernel_rfl) (by kernel_rfl) (by kernel_rfl) (fun _ _ _ h => h) (Or.inl ⟨by kernel_rfl, ?_⟩) hS ?_
  · (intro w' hSw; obtain ⟨x0, x1⟩ := HOB.out w' hSw; clear hSw; go_simp)
  (try simp only [List.getElem_toArray, List.getElem_cons_succ, List.getElem_cons_zero])
  go_frame
  refine wpAnyL_take (i := 5) (v := .pointer (some ⟨nb, no, none⟩)) rfl (by kernel_rfl) (by kernel_rfl) (by kernel_rfl) (by kernel_rfl) (by kernel_rfl) (fun _ _ _ h => h) (Or.inl ⟨by kernel_rfl, ?_⟩) hS ?_
  · (intro w' hSw; obtain ⟨x0, x1⟩ := HOB.out w' hSw; clear hSw; go_simp)
  (try simp only [List.getElem_toArray, List.getElem_cons_succ, List.getElem_cons_zero])
  go_frame
  refine wpAnyL_take (i := 6) (v := .pointer (some ⟨nb, no, none⟩)) rfl (by kernel_rfl) (by kernel_rfl) (by kernel_rfl) (by kernel_rfl) (by kernel_rfl) (fun _ _ _ h => h) (Or.inl ⟨by kernel_rfl, ?_⟩) hS ?_
  · (intro w' hSw; obtain ⟨x0, x1⟩ := HOB.out w' hSw; clear hSw; go_simp)
  (try simp only [List.getElem_toArray, List.getElem_cons_succ, List.getElem_cons_zero])
  go_frame
  refine wpAnyL_take (i := 7) (v := .int .i64 x) rfl (by kernel_rfl) (by kernel_rfl) (by kernel_rfl) (by kernel_rfl) (by kernel_rfl) (fun _ _ _ h => h) (Or.inl ⟨by kernel_rfl, ?_⟩) hS ?_
  · (intro w' hSw; obtain ⟨x0, x1⟩ := HOB.out w' hSw; clear hSw; go_simp)
  (try simp only [List.getElem_toArray, List.getElem_cons_succ, List.getElem_cons_zero])
  go_frame
  refine wpAnyL_one (i := 8) (by kernel_rfl) rfl (by kernel_rfl) ?_
  go_simp
  refine (HPU.out _).mono ?_
  rintro e w2 ⟨pv, rfl, hp2, k2⟩
  have hk2 : Kept W w2 := ((Only.refl _ W).drew).trans k2 (fun _ _ f => f)
  obtain ⟨a, n, c, w3, HR, hO3, hc3, hf3, hF⟩ := HAP.out w2 pv hk2 (own_src hp2)
  have HF := hid hF
  have HO3 := hid hO3
  have hS2 : Only (fun j => SVB = some j) W w2 := hk2.mono (fun _ _ f => f.elim)
  obtain ⟨pa, pc, hpe⟩ := ownN_slice hp2
  subst hpe
  clear hp2 k2 hO3 hF
  refine ⟨hS2, ?_⟩
  (try simp only [List.getElem_toArray, List.getElem_cons_succ, List.getElem_cons_zero])
  (try go_frame)
  refine wpAnyL_one (i := 9) (by kernel_rfl) rfl (by kernel_rfl) (oper_appendH _ _ _ rfl rfl rfl HR ?_)
  refine ⟨HO3.out, ?_⟩
  (try go_frame)
  refine wpAnyL_one (i := 10) (by kernel_rfl) rfl (by kernel_rfl) ?_
  go_simp
  (first | refine ⟨HO3.out, ?_⟩ | skip)
  refine wpAnyL_one (i := 11) (by kernel_rfl) rfl (by kernel_rfl) ?_
  go_simp
  (first | refine ⟨HO3.out, ?_⟩ | skip)
  refine wpAnyL_last (by kernel_rfl) (by kernel_rfl) rfl (by kernel_rfl) ?_
  go_simp
  refine NoPanic.normal ?_
  (try go_wp2)
  first | exact HF.out | (refine bodyPost_ret (results_none rfl _ _ _) rfl ?_; exact HF.out)
end Go.Proofs.YtjifcgphlidimaaDoor.J
