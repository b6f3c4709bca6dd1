/-
  The document's own disk: a crash, one file that turns.
-/
import Derived.Test.YtpjedcfdchebgaaEcr2
namespace Go.Proofs.Ytpjedcfdchebgaa
open Go.RowKit Go.Proofs.Lys Go.Maps Go.Shelf
set_option linter.unusedVariables false

/-- The world where the file is marked and its copy lies. -/
abbrev crW (wr : World) (db F : Nat) (fa : Option Addr) (L fk su : Nat) : World := (wr.setCell ⟨db, F, none⟩ (.bool true)).alloc (.cells #[.slice fa L fk, .int .i64 (su : Int)] 77)

section
variable {w wr : World} {c5 : RConc} {O : Nat → Prop} {m5 : DModel} {F L su fk db NF : Nat} {fa : Option Addr} {FB : List UInt8} {dn : List Bool}
theorem cr_cut (N : Cr w O wr c5 m5) (zo : wr.ownsRow 0 5 1 (.slice fa L fk) L (FB.map bV)) (row : wr.ownsRow db 4 1 (.slice (some ⟨db, 0, none⟩) NF NF) NF (dn.map tV)) (hdb : w.heap.size ≤ db) (hL : L ≤ 16777216) (hL0 : 0 < L) (Q : Nat) (hQ : Q ≤ L) :
    ∃ fx ra rcap w4, fa = some ⟨fx, 0, none⟩ ∧ (∀ W, (Instr.sliceAt 29 (.slice fa L fk) none (some (.int .i64 (Q : Int))) none).run Try.prog W = .ok (.slice fa Q fk) W) ∧
      Hid ((Builtin.append_ #[29, 29] 0 #[.slice none 0 0, .slice fa Q fk]).run Try.prog (crW wr db F fa L fk su) = .ok (.slice ra Q rcap) w4) ∧ w4.ownsRow (crW wr db F fa L fk su).heap.size 5 1 (.slice ra Q rcap) Q ((FB.take Q).map bV) ∧ Kept (crW wr db F fa L fk su) w4 ∧
      Cr w O (crW wr db F fa L fk su) c5 m5 ∧ (crW wr db F fa L fk su).ownsRow db 4 1 (.slice (some ⟨db, 0, none⟩) NF NF) NF ((dn.set F true).map tV) ∧ Blk (crW wr db F fa L fk su) wr.heap.size [.slice fa L fk, .int .i64 (su : Int)] 77 := by
  have kdb : Only (· = db) wr (wr.setCell ⟨db, F, none⟩ (.bool true)) := (Only.refl (fun x => x = db) wr).setCell (fun _ => rfl) _
  have ka : Kept (wr.setCell ⟨db, F, none⟩ (.bool true)) (crW wr db F fa L fk su) := (Only.refl (fun _ => False) _).alloc _
  have hty : Typed wr db 4 := ownN_typed row rfl
  have N2 := (N.other kdb hty hdb).stay ka
  have hlen := own_len zo
  rw [List.length_map] at hlen
  obtain ⟨fx, fk', e⟩ := own_some zo hL0
  cases e
  have hcap : L ≤ fk ∧ fk ≠ 0 := by
    obtain ⟨_, ⟨h1, _⟩ | ⟨g', cap', cur, hv, hb, hg, hn, _⟩⟩ := zo
    · cases h1
    · cases hv
      exact ⟨hn, by omega⟩
  have zo2 := ownN_stay (ownN_only zo kdb (fun j hj e => (ownN_typed zo hj).ne hty (by decide) e)) ka
  have hsrc : SrcOf (crW wr db F (some ⟨fx, 0, none⟩) L fk su) (.slice (some ⟨fx, 0, none⟩) (FB.take Q).length fk) ((FB.take Q).map bV) := by
    refine .inr ⟨⟨fx, 0, none⟩, fk, by rw [List.length_map], fun j u hu => ?_⟩
    have hj := (List.getElem?_eq_some_iff.1 hu).1
    rw [List.length_map, List.length_take] at hj
    rw [add_none, Nat.zero_add, zo2.cellAt j (by omega)]
    rw [List.map_take, List.getElem?_take, if_pos (by omega)] at hu
    exact hu
  have htl : (FB.take Q).length = Q := by rw [List.length_take]; omega
  obtain ⟨ra, rcap, w4, R, o4, k4⟩ := byte_copy hsrc (by rw [htl]; omega)
  rw [htl] at R o4
  refine ⟨fx, ra, rcap, w4, rfl, fun W => slice_to fx L fk Q _ rfl (by omega) hcap.2 W, R, o4, k4, N2, ?_, ?_⟩
  · have h1 := (row.stored F (.bool true)).1
    have e : (dn.map tV).set F (.bool true) = (dn.set F true).map tV := by rw [List.map_set]; rfl
    rw [e] at h1
    exact ownN_stay h1 ka
  · have := Blk.new (wr.setCell ⟨db, F, none⟩ (.bool true)) [.slice (some ⟨fx, 0, none⟩) L fk, .int .i64 (su : Int)] 77
    have e : (wr.setCell ⟨db, F, none⟩ (.bool true)).heap.size = wr.heap.size := by simp
    rw [e] at this
    exact this

/-- What lies there when the file is stored, and behind it. -/
theorem cr_put {W2 w5 : World} {fg fcap Q : Nat} {v' : Value} {b' : List UInt8} (N2 : Cr w O W2 c5 m5) (hF : F < c5.fs.length) (hfv : c5.fv = .slice (some ⟨fg, 0, none⟩) c5.fs.length fcap) (hrow : W2.ownsRow db 4 1 (.slice (some ⟨db, 0, none⟩) NF NF) NF (dn.map tV)) (k : Kept W2 w5) (hv : w5.ownsRow W2.heap.size 5 1 v' Q (b'.map bV)) (hl : Q ≤ 16777216) :
    Blk w5 c5.d (RCells c5 m5) 70 ∧ (∃ u, w5.cell? ⟨fg, F * 2, none⟩ = some u) ∧ (∃ u, w5.cell? ⟨fg, F * 2 + 1, none⟩ = some u) ∧ w5.frozen? ⟨fg, F * 2, none⟩ = false ∧ w5.frozen? ⟨fg, F * 2 + 1, none⟩ = false ∧
    Cr w O ((w5.setCell ⟨fg, F * 2, none⟩ v').setCell ⟨fg, F * 2 + 1, none⟩ (.int .i64 (Q : Int))) { c5 with fs := c5.fs.set F (v', ⟨b', b'.length⟩) } { m5 with files := m5.files.set F ⟨b', b'.length⟩ } ∧
    ((w5.setCell ⟨fg, F * 2, none⟩ v').setCell ⟨fg, F * 2 + 1, none⟩ (.int .i64 (Q : Int))).ownsRow db 4 1 (.slice (some ⟨db, 0, none⟩) NF NF) NF (dn.map tV) := by
  have hlen := own_len hv
  rw [List.length_map] at hlen
  subst hlen
  have h5 := (N2.stay k).at5
  have hfil := h5.files
  rw [hfv] at hfil
  obtain ⟨t0, t1⟩ := filL_at c5.fs F hF
  have k7 : Only (· = fg) w5 ((w5.setCell ⟨fg, F * 2, none⟩ v').setCell ⟨fg, F * 2 + 1, none⟩ (.int .i64 (b'.length : Int))) := ((Only.refl (fun x => x = fg) _).setCell (fun _ => rfl) _).setCell (fun _ => rfl) _
  have hr5 := ownN_stay hrow k
  refine ⟨h5.cells, ⟨_, (hfil.cellAt (F * 2) (by omega)).trans t0⟩, ⟨_, (hfil.cellAt (F * 2 + 1) (by omega)).trans t1⟩, hfil.frozenAt _, hfil.frozenAt _, N2.file hF k hv hl hfv, ownN_only hr5 k7 (fun j hj e => ?_)⟩
  subst e
  exact (ownN_typed hr5 hj).ne (ownN_typed hfil rfl) (by decide) rfl
end
end Go.Proofs.Ytpjedcfdchebgaa
