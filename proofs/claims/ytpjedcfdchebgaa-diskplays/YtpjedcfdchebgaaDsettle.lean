/-
  settle: the acts that are kept are done to a copy of the sure directory, which is the only one then.
-/
import Derived.Test.YtpjedcfdchebgaaDnext
import Derived.Test.YtpjedcfdchebgaaDsyncdir
namespace Go.Proofs.Ytpjedcfdchebgaa
open Go.RowKit Go.Proofs.Lys Go.Maps Go.Shelf
set_option linter.unusedVariables false

theorem odd_free (n : Int) (w : World) : Calls Try.prog 85 #[.int .i64 n] w fun e w' => e = .returned (.bool (DModel.oddB n)) ∧ w' = w := by
  go_enter Try.func85, Try.ntmps85
  go_wp2
  go_ret
  exact ⟨ret_bool (by
    unfold DModel.oddB
    rw [Bool.eq_iff_iff]
    have e : n.tmod 2 = 0 ↔ n % 2 = 0 := by rw [← Int.dvd_iff_tmod_eq_zero, ← Int.dvd_iff_emod_eq_zero]
    simp [e]), rfl⟩

/-- A directory that may be nil. -/
def SureAt (w : World) (blk : List Nat) (sv : Value) (l : DDir) : Prop := (sv = .map none ∧ l = []) ∨ ∃ b, sv = .map (some b) ∧ w.ownsMap Try.prog 9 ptrE b l.length (dirD blk l)

section
variable {w : World} {blk : List Nat} {O : Nat → Prop}

theorem copied_sure {sv : Value} {l : DDir} (h : SureAt w blk sv l) (hl : l.length < 1000000) :
    Calls Try.prog 84 #[sv] w fun e w' => e = .returned (.map (some w.heap.size)) ∧ w'.ownsMap Try.prog 9 ptrE w.heap.size l.length (dirD blk l) ∧ Stay w w' := by
  rcases h with ⟨rfl, rfl⟩ | ⟨b, rfl, hb⟩
  · exact copied_nil
  · exact copied_any b hb hl

theorem keep_snoc : ∀ (ac : List DAct) (a : DAct) (l : List Int) (d : DDir), DModel.keepActs (ac ++ [a]) l d =
    ((if DModel.oddB ((DModel.keepActs ac l d).2.headD 0) then DD.act (DModel.keepActs ac l d).1 a else (DModel.keepActs ac l d).1), (DModel.keepActs ac l d).2.tail)
  | [], a, l, d => rfl
  | b :: r, a, l, d => keep_snoc r a l.tail _

theorem keep_take (ac : List DAct) (k : Nat) (a : DAct) (h : ac[k]? = some a) (l : List Int) (d : DDir) : DModel.keepActs (ac.take (k + 1)) l d =
    ((if DModel.oddB ((DModel.keepActs (ac.take k) l d).2.headD 0) then DD.act (DModel.keepActs (ac.take k) l d).1 a else (DModel.keepActs (ac.take k) l d).1), (DModel.keepActs (ac.take k) l d).2.tail) := by
  have hk := (List.getElem?_eq_some_iff.1 h).1
  rw [List.take_succ_eq_append_getElem hk]
  have : ac[k] = a := (List.getElem?_eq_some_iff.1 h).2
  rw [this]
  exact keep_snoc _ _ _ _

theorem len_keep : ∀ (ac : List DAct) (l : List Int) (d : DDir), (DModel.keepActs ac l d).1.length ≤ d.length + ac.length
  | [], l, d => by simp [DModel.keepActs]
  | a :: r, l, d => by
    unfold DModel.keepActs
    refine Nat.le_trans (len_keep r _ _) ?_
    have := len_act d a
    split <;> simp only [List.length_cons] <;> omega

def sCells (q st : Int) (on fl : Bool) (fw : Int) (al : Bool) (aw : Int) (iv sv pv : Value) : List Value :=
  [.int .i64 q, .int .i64 st, .bool on, .bool fl, .int .i64 fw, .bool al, .int .i64 aw, iv, sv, pv]

set_option maxHeartbeats 1600000 in
theorem settle_core {d nb : Nat} {q st : Int} {on fl : Bool} {fw : Int} {al : Bool} {aw : Int} {iv sv pv : Value} {sure : DDir} {acts : List DAct} {pl : List Value} {keep : List Int}
    (hD : Blk w d (sCells q st on fl fw al aw iv sv pv) 65) (hiv : iv = .map none ∨ ∃ b, iv = .map (some b)) (hS : SureAt w blk sv sure) (hP : w.ownsRow 0 124 1 pv acts.length pl) (hA : ∀ i a, acts[i]? = some a → ActAt w O blk (pl.getD i .nilFunc) a)
    (hN : NumsAt w O nb keep) (hNO : ¬ O nb) (hOd : O d) (hsm : sure.length + acts.length < 1000000) (htop : ∀ k, O k → k < w.heap.size) :
    Calls Try.prog 47 #[.pointer (some ⟨d, 0, none⟩), .func (.func 83) #[] #[.pointer (some ⟨nb, 0, none⟩)]] w fun e w' => e = .returned (.tuple #[]) ∧
      ∃ mi ms, w.heap.size ≤ mi ∧ w.heap.size ≤ ms ∧ mi ≠ ms ∧ w'.ownsMap Try.prog 9 ptrE mi (DModel.keepActs acts keep sure).1.length (dirD blk (DModel.keepActs acts keep sure).1) ∧
        w'.ownsMap Try.prog 9 ptrE ms (DModel.keepActs acts keep sure).1.length (dirD blk (DModel.keepActs acts keep sure).1) ∧
        Blk w' d (sCells q st on fl fw al aw (.map (some mi)) (.map (some ms)) (.slice none 0 0)) 65 ∧ NumsAt w' O nb (DModel.keepActs acts keep sure).2 ∧ Only (fun x => x = d ∨ x = nb) w w' := by
  obtain ⟨pa, pc, rfl⟩ := row_slice hP
  have hlen : pl.length = acts.length := by have := hP.1; omega
  have hnd : nb ≠ d := by
    obtain ⟨v, hb, _⟩ := hN
    exact hb.typed.ne hD.typed (by decide)
  have c7 := hD.cell 7 rfl
  have c8 := hD.cell 8 rfl
  have c9 := hD.cell 9 rfl
  have cf := hD.frozen
  go_enter Try.func47, Try.ntmps47
  go_wp2_with fail
  refine (copied_sure hS (by omega)).mono ?_
  rintro e w1 ⟨rfl, hm1, hs1⟩
  have hD1 := hs1.blk hD (fun f => f)
  clear c7 c8 c9 cf
  have c9 := hD1.cell 9 rfl
  go_wp2_with fail
  go_loopw [17] (fun i wr => ∃ k : Nat, k ≤ acts.length ∧ i = .int .i64 (k : Int) ∧
      wr.ownsMap Try.prog 9 ptrE w.heap.size (DModel.keepActs (acts.take k) keep sure).1.length (dirD blk (DModel.keepActs (acts.take k) keep sure).1) ∧ NumsAt wr (fun j => O j ∨ w.heap.size ≤ j) nb (DModel.keepActs (acts.take k) keep sure).2 ∧ Only (fun x => x = nb) w wr)
    (fun i _ => acts.length - (intOf i).toNat)
  case atStart => exact ⟨0, Nat.zero_le _, rfl, hm1, hN.old.only hs1 (fun f => f) (fun _ _ f => f.elim), hs1.mono (fun _ _ f => f.elim)⟩
  case round =>
    obtain ⟨k, hk, rfl, hmr, hNr, hor⟩ := hrel
    clear c9
    have hDr := hor.blk hD (fun e => hnd e.symm)
    have hnb : nb < w.heap.size := by
      obtain ⟨v, hb, _⟩ := hN
      exact hb.lt
    by_cases hlt : k < acts.length
    · have ha : acts[k]? = some acts[k] := List.getElem?_eq_getElem hlt
      have hpk : pl[k]? = some (pl.getD k .nilFunc) := by rw [List.getD_eq_getElem?_getD, List.getElem?_eq_getElem (by omega)]; rfl
      obtain ⟨g, cap, hv, hcell, _⟩ := row_cell hP hpk
      obtain ⟨f, cl, hcl, hent, hcall⟩ := act_call (hA k acts[k] ha)
      rw [hcl] at hcell
      have e1 : pa = some ⟨g, 0, none⟩ := by cases hv; rfl
      subst e1
      have hgt : Typed w g 124 := row_typed hP rfl
      have hgn : g ≠ nb := by
        obtain ⟨v, hb, _⟩ := hN
        exact hgt.ne hb.typed (by decide)
      have hcr : wr.cell? ⟨g, k, none⟩ = some (.func (.func f) #[] cl) := by
        rw [World.cell?_of_block (w := w) (a := ⟨g, k, none⟩) (hor.block g (World.block_lt_of_cell? w ⟨g, k, none⟩ hcell) hgn)]
        exact hcell
      have hfold := Hid.mk (keep_take acts k acts[k] ha keep sure)
      have hlf := len_keep (acts.take k) keep sure
      have hlk : (acts.take k).length ≤ acts.length := by rw [List.length_take]; omega
      have hl3 : (DModel.keepActs (acts.take k) keep sure).1.length < 1000000 := by omega
      have hnx := Hid.mk (next_any hNr)
      clear hlf hlk hpk ha hv hcell
      go_wp2_with fail
      refine hnx.out.mono ?_
      rintro e w2 ⟨rfl, hk2, hN2⟩
      clear hnx
      generalize hgx : (DModel.keepActs (acts.take k) keep sure).2.headD 0 = x at *
      clear hgx
      go_wp2_with fail
      refine (odd_free _ _).mono ?_
      rintro e w2' ⟨rfl, rfl⟩
      have hor2 : Only (fun x => x = nb) w w2' := hor.trans hk2 (fun _ _ e => e)
      have hm2 := hk2.map hmr (fun e => by omega)
      cases hodd : DModel.oddB x
      · go_wp2_with fail
        go_roundw
        case rel => exact ⟨k + 1, by omega, by go_num, by rw [hfold.out, hodd]; exact hm2, by rw [hfold.out]; exact hN2, hor2⟩
        case measure => simp [intOf]; omega
      · have hC := Hid.mk (hcall w2' w.heap.size _ (fun j ho hne => hor2.block j (htop j ho) (fun e => hNO (e ▸ ho))) hor2.size hm2 (fun vs T hb => by have := hb.lt; omega) hl3)
        go_wp2_with fail
        refine hC.out.mono ?_
        rintro e w3 ⟨rfl, hm3, hk3⟩
        go_wp2_with fail
        go_roundw
        case rel => exact ⟨k + 1, by omega, by go_num, by rw [hfold.out, hodd]; exact hm3, by rw [hfold.out]; exact hN2.only hk3 (fun e => by omega) (fun j hj e => .inr (by omega)), hor2.trans hk3 (fun j hj e => by omega)⟩
        case measure => simp [intOf]; omega
    · have hkn : k = acts.length := by omega
      subst hkn
      rw [List.take_length] at hmr hNr
      have hlf := len_keep acts keep sure
      have hl3 : (DModel.keepActs acts keep sure).1.length < 1000000 := by omega
      have hcp := Hid.mk (copied_any w.heap.size hmr hl3)
      have c7 := hDr.cell 7 rfl
      have c8 := hDr.cell 8 rfl
      have c9 := hDr.cell 9 rfl
      have cf := hDr.frozen
      clear hlf
      go_wp2_with fail
      refine hcp.out.mono ?_
      rintro e w2 ⟨rfl, hm2, hs2⟩
      have hD2 := hs2.blk hDr (fun f => f)
      have hS2 := hs2.map hmr (fun f => f)
      clear c7 c8 c9 cf
      have c7 := hD2.cell 7 rfl
      have c8 := hD2.cell 8 rfl
      have c9 := hD2.cell 9 rfl
      have cf := hD2.frozen
      have hdl := hD.lt
      have hszr := hor.size
      have hfin : ∃ mi ms, w.heap.size ≤ mi ∧ w.heap.size ≤ ms ∧ mi ≠ ms ∧ (((w2.setCell ⟨d, 8, none⟩ (.map (some w.heap.size))).setCell ⟨d, 7, none⟩ (.map (some wr.heap.size))).setCell ⟨d, 9, none⟩ (.slice none 0 0)).ownsMap Try.prog 9 ptrE mi (DModel.keepActs acts keep sure).1.length (dirD blk (DModel.keepActs acts keep sure).1) ∧
          (((w2.setCell ⟨d, 8, none⟩ (.map (some w.heap.size))).setCell ⟨d, 7, none⟩ (.map (some wr.heap.size))).setCell ⟨d, 9, none⟩ (.slice none 0 0)).ownsMap Try.prog 9 ptrE ms (DModel.keepActs acts keep sure).1.length (dirD blk (DModel.keepActs acts keep sure).1) ∧
          Blk (((w2.setCell ⟨d, 8, none⟩ (.map (some w.heap.size))).setCell ⟨d, 7, none⟩ (.map (some wr.heap.size))).setCell ⟨d, 9, none⟩ (.slice none 0 0)) d (sCells q st on fl fw al aw (.map (some mi)) (.map (some ms)) (.slice none 0 0)) 65 ∧
          NumsAt (((w2.setCell ⟨d, 8, none⟩ (.map (some w.heap.size))).setCell ⟨d, 7, none⟩ (.map (some wr.heap.size))).setCell ⟨d, 9, none⟩ (.slice none 0 0)) O nb (DModel.keepActs acts keep sure).2 ∧
          Only (fun x => x = d ∨ x = nb) w (((w2.setCell ⟨d, 8, none⟩ (.map (some w.heap.size))).setCell ⟨d, 7, none⟩ (.map (some wr.heap.size))).setCell ⟨d, 9, none⟩ (.slice none 0 0)) := by
        have hk3 : Only (fun x => x = d) w2 (((w2.setCell ⟨d, 8, none⟩ (.map (some w.heap.size))).setCell ⟨d, 7, none⟩ (.map (some wr.heap.size))).setCell ⟨d, 9, none⟩ (.slice none 0 0)) := (((Only.refl (fun x => x = d) w2).setCell (fun _ => rfl) _).setCell (fun _ => rfl) _).setCell (fun _ => rfl) _
        have hml := hmr.lt
        refine ⟨wr.heap.size, w.heap.size, hszr, Nat.le_refl _, by omega, hk3.map hm2 (fun e => by omega), hk3.map hS2 (fun e => by omega), ((hD2.set 8 _).set 7 _).set 9 _, ?_, ?_⟩
        · have hN2 := hNr.only hs2 (fun f => f) (fun _ _ f => f.elim)
          exact (hN2.only hk3 hnd (fun j _ e => .inl (e ▸ hOd))).less (fun k hk => .inl hk)
        · exact ((hor.mono (O' := fun x => x = d ∨ x = nb) (fun j _ e => .inr e)).trans hs2 (fun _ _ f => f.elim)).trans hk3 (fun j _ e => .inl e)
      have HF := Hid.mk hfin
      clear hfin
      go_wp2
      go_end0
      exact ⟨rfl, HF.out⟩
end
end Go.Proofs.Ytpjedcfdchebgaa
