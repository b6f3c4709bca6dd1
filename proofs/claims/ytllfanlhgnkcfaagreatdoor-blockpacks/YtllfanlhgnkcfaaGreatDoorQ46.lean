/-
  Nread, Nparse.
-/
import Derived.Test.YtllfanlhgnkcfaaGreatDoorQ19
import Derived.Test.YtllfanlhgnkcfaaGreatDoorQ22
import Derived.Test.YtllfanlhgnkcfaaGreatDoorQ27
import Derived.Shelf.Vars
namespace Go.Proofs.YtllfanlhgnkcfaaGreatDoor.N
open Go.RowKit Go.Proofs.Lys
set_option linter.unusedVariables false
set_option linter.unusedSimpArgs false
def Mx (w : World) : Prop := ∃ m, w.cell? ⟨1, 0, none⟩ = some (.int .i64 m)
theorem Mx.stay {w W : World} (h : Mx w) (k : Kept w W) : Mx W := by
 obtain ⟨m, hm⟩ := h
 refine ⟨m, ?_⟩
 rw [World.cell?_of_block (w := w) (w' := W) (k.block _ (World.block_lt_of_cell? w _ hm) (fun f => f))]
 exact hm
theorem results_cell_tmp2 {P : Program} {fn : Func} {p u v : Tmp} {ty : TypeId} (h : fn.results = #[.cell p ty, .tmp u, .tmp v]) (tmps : Array Value) (w : World) (g : Nat) (t : TypeId) (cs : Array Value) (fr : Nat × Nat) (d : TypeDesc)
  (hp : tmps.getD p undef = .pointer (some ⟨g, 0, none⟩)) (hg : w.heap[g]? = some (.cells cs t fr))
  (hu : P.underlying ty = some d) (hd : (match d with | .struct _ | .array _ _ => true | _ => false) = true) (hi : (P.info? ty).map (·.size) = some cs.size) :
  (results fn tmps).run P w = .ok (.tuple #[.agg cs, tmps.getD u undef, tmps.getD v undef]) w := by
 have hp' : tmps[p]?.getD undef = .pointer (some ⟨g, 0, none⟩) := by simpa using hp
 simp [results, h, hp', asAddr, run_loadVar_row w g t ty cs fr d hg hu hd hi]
theorem clone_any (w : World) (s : ByteArray) (hs : s.size ≤ 1000000) : Calls Tryz.prog 144 #[.string s] w fun e w' => e = .returned (.string s) ∧ Kept w w' := by
 have H := hid (Tryz.stringslite_Clone s w (by omega))
 go_enter Tryz.func144, Tryz.ntmps144
 go_wp2_with fail
 refine H.out.mono ?_
 rintro e w1 ⟨rfl, k1⟩
 go_wp2
 go_ret
 exact ⟨rfl, ⟨k1.os, k1.tape, k1.output, k1.size, fun q hq _ => k1.block q hq⟩⟩
theorem cut_any (w : World) (s sep : ByteArray) (hM : Mx w) (hs : s.size ≤ 1000000) : Calls Tryz.prog 142 #[.string s, .string sep] w fun e w' => e = .returned (.tuple #[.string (mkB (Lib.cut s.data.toList sep.data.toList).1), .string (mkB (Lib.cut s.data.toList sep.data.toList).2.1), .bool (Lib.cut s.data.toList sep.data.toList).2.2]) ∧ Kept w w' := by
 obtain ⟨m, hm⟩ := hM
 refine (Tryz.strings_Cut s sep m w (by omega) hm).mono ?_
 rintro e w' ⟨he, n, rfl⟩
 exact ⟨he, kept_drewN (Only.refl _ w) n⟩
def LabelA (e : Ending) : Option ((List UInt8 × List UInt8) × List UInt8) → Prop
 | some (x, r) => e = .returned (.tuple #[.agg #[.string (mkB x.1), .string (mkB x.2)], .string (mkB r), .bool true])
 | none => ∃ X Y R, e = .returned (.tuple #[.agg #[.string X, .string Y], .string R, .bool false])
theorem Tryz.sizeLabN : (Tryz.prog.info? 71).map (·.size) = some 2 := by kernel_rfl
theorem cut_len (s sep : List UInt8) : (Lib.cut s sep).1.length ≤ s.length ∧ (Lib.cut s sep).2.1.length ≤ s.length := by
 unfold Lib.cut
 split
 ·simp only [List.length_take, List.length_drop]
  omega
 ·simp
theorem mkB_size (l : List UInt8) : (mkB l).size = l.length := by rw [Lib.size_eq]
set_option maxRecDepth 100000 in
set_option maxHeartbeats 1600000 in
theorem label_any (w : World) (s : ByteArray) (hM : Mx w) (hs : s.size ≤ 100000) : Calls Tryz.prog 134 #[.string s] w fun e w' => LabelA e (labR s.data.toList) ∧ Kept w w' := by
 have HMx := hid hM
 clear hM
 have hb0 := Blk.new w [.string ⟨#[]⟩, .string ⟨#[]⟩] 71
 have HK0 : Hid (Kept w (w.alloc (.cells #[.string ⟨#[]⟩, .string ⟨#[]⟩] 71))) := (Only.refl _ w).alloc _
 have H1 := hid (cut_any (w.alloc (.cells #[.string ⟨#[]⟩, .string ⟨#[]⟩] 71)) s ⟨#[61, 34]⟩ (HMx.out.stay HK0.out) (by omega))
 have hl1 := cut_len s.data.toList [61, 34]
 rw [← Lib.size_eq] at hl1
 have HLR : Hid (labR s.data.toList = if (Lib.cut s.data.toList [61, 34]).2.2 then
  if (Lib.cut (Lib.cut s.data.toList [61, 34]).2.1 [34]).2.2 then
   (unqL (Lib.cut (Lib.cut s.data.toList [61, 34]).2.1 [34]).1).map (fun v => (((Lib.cut s.data.toList [61, 34]).1, v), (Lib.cut (Lib.cut s.data.toList [61, 34]).2.1 [34]).2.1))
  else none
 else none) := rfl
 have e2 : (⟨#[61, 34]⟩ : ByteArray).data.toList = [61, 34] := rfl
 rw [e2] at H1
 clear e2
 generalize Lib.cut s.data.toList [61, 34] = C at H1 hl1 HLR
 obtain ⟨n, r, b⟩ := C
 simp only at H1 hl1 HLR
 generalize labR s.data.toList = R at HLR ⊢
 go_enter Tryz.func134, Tryz.ntmps134
 go_wp2_with fail
 generalize w.alloc (.cells #[.string ⟨#[]⟩, .string ⟨#[]⟩] 71) = w0 at hb0 HK0 H1 ⊢
 refine H1.out.mono ?_
 rintro e w1 ⟨rfl, k1⟩
 have hb1 := Only.blk k1 hb0 (fun f => f)
 have HK1 := hid (HK0.out.trans k1 (fun _ _ f => f))
 clear k1 hb0 H1
 have c0 := hb1.cell 0 rfl
 have c1 := hb1.cell 1 rfl
 have f0 := hb1.frozen 0
 have f1 := hb1.frozen 1
 have HBk := hid hb1
 clear hb1
 cases b with
 | false =>
  have HRn : Hid (R = none) := by refine hid ?_; rw [HLR.out]; rfl
  go_wp2
  have hres := (HBk.out.set 0 (.string ⟨#[]⟩)).set 1 (.string ⟨#[]⟩)
  refine bodyPost_ret (results_cell_tmp2 (fn := Tryz.f134) (p := 2) (u := 3) (v := 4) rfl _ _ w.heap.size 71 #[.string ⟨#[]⟩, .string ⟨#[]⟩] (0, 0) _ rfl hres Tryz.underlying71 rfl Tryz.sizeLabN) rfl ?_
  refine ⟨?_, (HK1.out.setCell (fun hlt => absurd hlt (Nat.lt_irrefl _)) _).setCell (fun hlt => absurd hlt (Nat.lt_irrefl _)) _⟩
  rw [HRn.out]
  exact ⟨_, _, _, rfl⟩
 | true =>
  have H2 := hid (cut_any w1 (mkB r) ⟨#[34]⟩ (HMx.out.stay HK1.out) (by rw [mkB_size]; omega))
  have e2 : (⟨#[34]⟩ : ByteArray).data.toList = [34] := rfl
  have e3 : (mkB r).data.toList = r := rfl
  rw [e2, e3] at H2
  have hl2 := cut_len r [34]
  have HLR2 : Hid (R = if (Lib.cut r [34]).2.2 then (unqL (Lib.cut r [34]).1).map (fun v => ((n, v), (Lib.cut r [34]).2.1)) else none) := by refine hid ?_; rw [HLR.out]; rfl
  clear e2 e3 HLR
  generalize Lib.cut r [34] = C at H2 hl2 HLR2
  obtain ⟨q, r2, b2⟩ := C
  simp only at H2 hl2 HLR2
  go_wp2_with fail
  refine H2.out.mono ?_
  rintro e w2 ⟨rfl, k2⟩
  have hb2 := Only.blk k2 HBk.out (fun f => f)
  have HK2 := hid (HK1.out.trans k2 (fun _ _ f => f))
  have HBk2 := hid hb2
  have c0 := hb2.cell 0 rfl
  have c1 := hb2.cell 1 rfl
  have f0 := hb2.frozen 0
  have f1 := hb2.frozen 1
  clear hb2 k2 H2
  cases b2 with
  | false =>
   have HRn : Hid (R = none) := by refine hid ?_; rw [HLR2.out]; rfl
   go_wp2
   have hres := (HBk2.out.set 0 (.string ⟨#[]⟩)).set 1 (.string ⟨#[]⟩)
   refine bodyPost_ret (results_cell_tmp2 (fn := Tryz.f134) (p := 2) (u := 3) (v := 4) rfl _ _ w.heap.size 71 #[.string ⟨#[]⟩, .string ⟨#[]⟩] (0, 0) _ rfl hres Tryz.underlying71 rfl Tryz.sizeLabN) rfl ?_
   refine ⟨?_, (HK2.out.setCell (fun hlt => absurd hlt (Nat.lt_irrefl _)) _).setCell (fun hlt => absurd hlt (Nat.lt_irrefl _)) _⟩
   rw [HRn.out]
   exact ⟨_, _, _, rfl⟩
  | true =>
   have H3 := hid (rquoted_any w2 (mkB q) (by rw [mkB_size]; omega))
   have e3 : (mkB q).data.toList = q := rfl
   rw [e3] at H3
   have HLR3 : Hid (R = (unqL q).map (fun v => ((n, v), r2))) := by refine hid ?_; rw [HLR2.out]; rfl
   clear e3 HLR2
   go_wp2_with fail
   refine H3.out.mono ?_
   rintro e w3 ⟨⟨v, b3, rfl, hq⟩, k3⟩
   have hb3 := Only.blk k3 HBk2.out (fun f => f)
   have HK3 := hid (HK2.out.trans k3 (fun _ _ f => f))
   have HBk3 := hid hb3
   clear hb3 k3 H3 c0 c1 f0 f1
   obtain ⟨V, hvV⟩ : ∃ V, v = .string V := by
    cases hu : unqL q with
    | none => rw [hu] at hq; exact ⟨_, hq.2⟩
    | some z => rw [hu] at hq; exact ⟨_, hq.2⟩
   subst hvV
   have HQ := hid hq
   clear hq
   have H4 := hid (clone_any w3 (mkB n) (by rw [mkB_size]; omega))
   go_wp2_with fail
   refine H4.out.mono ?_
   rintro e w4 ⟨rfl, k4⟩
   have hb4 := Only.blk k4 HBk3.out (fun f => f)
   have HK4 := hid (HK3.out.trans k4 (fun _ _ f => f))
   have HBk4 := hid hb4
   have c0 := hb4.cell 0 rfl
   have c1 := hb4.cell 1 rfl
   have f0 := hb4.frozen 0
   have f1 := hb4.frozen 1
   clear hb4 k4 H4
   go_wp2
   have hres := (HBk4.out.set 0 (.string (mkB n))).set 1 (.string V)
   refine bodyPost_ret (results_cell_tmp2 (fn := Tryz.f134) (p := 2) (u := 3) (v := 4) rfl _ _ w.heap.size 71 #[.string (mkB n), .string V] (0, 0) _ rfl hres Tryz.underlying71 rfl Tryz.sizeLabN) rfl ?_
   refine ⟨?_, (HK4.out.setCell (fun hlt => absurd hlt (Nat.lt_irrefl _)) _).setCell (fun hlt => absurd hlt (Nat.lt_irrefl _)) _⟩
   have hq := HQ.out
   rw [HLR3.out]
   cases hu : unqL q with
   | none =>
    rw [hu] at hq
    obtain ⟨rfl, _⟩ := hq
    exact ⟨_, _, _, rfl⟩
   | some z =>
    rw [hu] at hq
    obtain ⟨rfl, hz⟩ := hq
    cases hz
    rfl
end Go.Proofs.YtllfanlhgnkcfaaGreatDoor.N
namespace Go.Proofs.YtllfanlhgnkcfaaGreatDoor.N
open Go.RowKit Go.Proofs.Lys
set_option linter.unusedVariables false
set_option linter.unusedSimpArgs false
theorem prefix_one (S : List UInt8) (c : UInt8) : (Lib.hasPrefix S [c] = true ∧ ∃ r, S = c :: r ∧ Lib.trimPrefix S [c] = r) ∨ (Lib.hasPrefix S [c] = false ∧ Lib.trimPrefix S [c] = S ∧ ∀ r, S ≠ c :: r) := by
 cases S with
 | nil => exact .inr ⟨rfl, rfl, fun r e => by cases e⟩
 | cons x r =>
  by_cases h : x = c
  ·subst h
   have hp : Lib.hasPrefix (x :: r) [x] = true := by simp [Lib.hasPrefix, List.isPrefixOf]
   refine .inl ⟨hp, r, rfl, ?_⟩
   unfold Lib.trimPrefix
   rw [if_pos hp]
   rfl
  ·have hp : Lib.hasPrefix (x :: r) [c] = false := by
    simp [Lib.hasPrefix, List.isPrefixOf]
    exact fun e => h e.symm
   refine .inr ⟨hp, ?_, fun r' e => h (List.cons.inj e).1⟩
   unfold Lib.trimPrefix
   rw [if_neg (by rw [hp]; decide)]
theorem byte_eq {c : UInt8} {n : Nat} (h : c.toNat = n) (hn : n < 256) : c = UInt8.ofNat n := by
 rw [← h]
 simp
structure Tk (s : List UInt8) (k : Nat) (acc : Labs) (S : List UInt8) (b : Bool) : Prop where
 len : acc.length = k
 k17 : k ≤ 17
 short : S.length ≤ s.length
 eq : readL s = if b then (readR (17 - k) S).map (acc ++ ·) else none
theorem labR_len {S : List UInt8} {x : List UInt8 × List UInt8} {r : List UInt8} (h : labR S = some (x, r)) : r.length ≤ S.length := by
 unfold labR at h
 split at h
 ·split at h
  ·obtain ⟨v, _, e⟩ := Option.map_eq_some_iff.1 h
   have h1 := cut_len S [61, 34]
   have h2 := cut_len (Lib.cut S [61, 34]).2.1 [34]
   cases e
   omega
  ·cases h
 ·cases h
theorem Tk.bad {s : List UInt8} {k : Nat} {acc : Labs} {S : List UInt8} (h : Tk s k acc S true) (hk : k ≤ 16) (hn : labR S = none) : readL s = none := by
 have e : 17 - k = (16 - k) + 1 := by omega
 have := h.eq
 rw [if_pos rfl, e, readR, hn] at this
 exact this
theorem Tk.full {s : List UInt8} {k : Nat} {acc : Labs} {S : List UInt8} {b : Bool} (h : Tk s k acc S b) (hk : ¬ (b = true ∧ k ≤ 16)) : readL s = none := by
 have h17 := h.k17
 have := h.eq
 cases b with
 | false => exact this
 | true =>
  have e : 17 - k = 0 := by
   have : ¬ k ≤ 16 := fun h => hk ⟨rfl, h⟩
   omega
  rw [if_pos rfl, e] at this
  exact this
theorem Tk.fin {s : List UInt8} {k : Nat} {acc : Labs} {S : List UInt8} {x : List UInt8 × List UInt8} (h : Tk s k acc S true) (hk : k ≤ 16) (hl : labR S = some (x, [125])) : readL s = some (acc ++ [mkLab x]) := by
 have e : 17 - k = (16 - k) + 1 := by omega
 have := h.eq
 rw [if_pos rfl, e, readR, hl] at this
 simpa using this
theorem Tk.go {s : List UInt8} {k : Nat} {acc : Labs} {S : List UInt8} {x : List UInt8 × List UInt8} {r : List UInt8} (h : Tk s k acc S true) (hk : k ≤ 16) (hl : labR S = some (x, r)) (hr : r ≠ [125]) :
  Tk s (k + 1) (acc ++ [mkLab x]) (Lib.trimPrefix r [44]) (Lib.hasPrefix r [44]) := by
 have e : 17 - k = (16 - k) + 1 := by omega
 have e2 : 17 - (k + 1) = 16 - k := by omega
 have hlen := labR_len hl
 have hs := h.short
 have := h.eq
 rw [if_pos rfl, e, readR, hl] at this
 simp only [if_neg hr] at this
 rcases prefix_one r 44 with ⟨hp, r', rfl, ht⟩ | ⟨hp, ht, hno⟩
 ·refine ⟨by rw [List.length_append, h.len]; rfl, by omega, ?_, ?_⟩
  ·rw [ht]
   simp at hlen
   omega
  ·rw [hp, ht, if_pos rfl, e2, this]
   show ((readR (16 - k) r').map (mkLab x :: ·)).map (acc ++ ·) = _
   rw [Option.map_map]
   congr 1
   funext z
   simp
 ·refine ⟨by rw [List.length_append, h.len]; rfl, by omega, by rw [ht]; omega, ?_⟩
  rw [hp, if_neg (by decide), this]
  cases r with
  | nil => rfl
  | cons c r' =>
   have hc : c.toNat ≠ 44 := fun e => hno r' (by rw [byte_eq e (by decide)]; rfl)
   show (if c.toNat = 44 then _ else none : Option Labs).map _ = none
   rw [if_neg hc]
   rfl
theorem Tk.start (s : List UInt8) : Tk s 0 [] (Lib.trimPrefix s [123]) (Lib.hasPrefix s [123]) := by
 rcases prefix_one s 123 with ⟨hp, r', rfl, ht⟩ | ⟨hp, ht, hno⟩
 ·refine ⟨rfl, by omega, by rw [ht]; simp, ?_⟩
  rw [hp, ht, if_pos rfl]
  show (if (123 : UInt8).toNat = 123 then readR 17 r' else none) = _
  rw [if_pos (by decide)]
  simp
 ·refine ⟨rfl, by omega, by rw [ht]; exact Nat.le_refl _, ?_⟩
  rw [hp, if_neg (by decide)]
  cases s with
  | nil => rfl
  | cons c r' =>
   have hc : c.toNat ≠ 123 := fun e => hno r' (by rw [byte_eq e (by decide)]; rfl)
   show (if c.toNat = 123 then _ else none) = _
   rw [if_neg hc]
theorem str_one (r : List UInt8) (c : UInt8) : ((mkB r).toList == (⟨#[c]⟩ : ByteArray).toList) = decide (r = [c]) := by
 rw [ByteArray.toList_eq, ByteArray.toList_eq]
 by_cases h : r = [c] <;> simp [h]
def outN : Value → Nat
 | .slice _ n _ => n
 | _ => 0
set_option maxRecDepth 100000 in
set_option maxHeartbeats 3200000 in
theorem read_any (w : World) (s : ByteArray) (hM : Mx w) (hs : s.size ≤ 100000) :
  Calls Tryz.prog 121 #[.string s] w fun e w' => (∃ u b, e = .returned (.tuple #[u, .bool b]) ∧ SortA w' w.heap.size u b (readL s.data.toList)) ∧ Kept w w' := by
 have HMx := hid hM
 clear hM
 have H0 := hid (Tryz.strings_CutPrefix s ⟨#[123]⟩ w)
 have e2 : (⟨#[123]⟩ : ByteArray).data.toList = [123] := rfl
 rw [e2] at H0
 have HT0 := hid (Tk.start s.data.toList)
 generalize Lib.trimPrefix s.data.toList [123] = S0 at H0 HT0
 generalize Lib.hasPrefix s.data.toList [123] = b0 at H0 HT0
 clear e2
 go_enter Tryz.func121, Tryz.ntmps121
 go_wp2_with fail
 refine H0.out.mono ?_
 rintro e w1 ⟨rfl, hq⟩
 replace hq := hq.symm
 subst hq
 go_wp2
 go_loopw [4, 5, 6] (fun r ok out wr => ∃ (k : Nat) (acc : Labs) (S : List UInt8) (b : Bool), r = .string (mkB S) ∧ ok = .bool b ∧ Tk s.data.toList k acc S b ∧ LabAt wr w.heap.size out acc ∧ Kept w wr) (fun _ _ out _ => 18 - outN out)
 case atStart => exact ⟨0, [], S0, b0, rfl, rfl, HT0.out, ⟨rfl, .inl ⟨rfl, rfl⟩⟩, Only.refl _ _⟩
 case round =>
  rename_i o6 _ _
  obtain ⟨k, acc, S, b, rfl, rfl, hT, hat, kr⟩ := hrel
  obtain ⟨oa, oc, rfl⟩ := ownN_slice hat
  have hk := hT.len
  have h17 := hT.k17
  have hsh := hT.short
  rw [← Lib.size_eq] at hsh
  have HT := hid hT
  have HA := hid hat
  have HK := hid kr
  clear hT hat kr
  by_cases hgo : b = true ∧ k ≤ 16
  ·obtain ⟨rfl, hk16⟩ := hgo
   have hk16' : (acc.length : Int) ≤ 16 := by omega
   have hlab := label_any (wr.alloc (.cells #[.string ⟨#[]⟩, .string ⟨#[]⟩] 71)) (mkB S) ((HMx.out.stay HK.out).stay ((Only.refl _ wr).alloc _)) (by rw [mkB_size]; omega)
   have e3 : (mkB S).data.toList = S := rfl
   rw [e3] at hlab
   have HLb := hid hlab
   have hbx := hid (Blk.new wr [.string ⟨#[]⟩, .string ⟨#[]⟩] 71)
   have HKa := hid (show Kept wr (wr.alloc (.cells #[.string ⟨#[]⟩, .string ⟨#[]⟩] 71)) from (Only.refl _ wr).alloc _)
   clear hlab e3
   go_wp2_with fail
   generalize wr.alloc (.cells #[.string ⟨#[]⟩, .string ⟨#[]⟩] 71) = w1 at HLb hbx HKa ⊢
   refine HLb.out.mono ?_
   rintro e w2 ⟨hA, k2⟩
   have HB2 := hid (Only.blk k2 hbx.out (fun f => f))
   have c0 := HB2.out.cell 0 rfl
   have c1 := HB2.out.cell 1 rfl
   have f0 := HB2.out.frozen 0
   have f1 := HB2.out.frozen 1
   have HK2 := hid (HKa.out.trans k2 (fun _ _ f => f))
   clear k2 HLb hbx
   cases hl : labR S with
   | none =>
    rw [hl] at hA
    obtain ⟨X, Y, R, rfl⟩ := hA
    have hbad := hid (HT.out.bad hk16 hl)
    go_wp2
    go_ret2
    refine ⟨⟨_, _, rfl, ?_⟩, ?_⟩
    ·rw [hbad.out]
     exact ⟨rfl, rfl⟩
    ·refine HK.out.trans ((HK2.out.setCell (fun hlt => absurd hlt (Nat.lt_irrefl _)) _).setCell (fun hlt => absurd hlt (Nat.lt_irrefl _)) _) (fun _ _ f => f)
   | some q =>
    obtain ⟨x, r⟩ := q
    rw [hl] at hA
    have hA' : e = .returned (.tuple #[.agg #[.string (mkB x.1), .string (mkB x.2)], .string (mkB r), .bool true]) := hA
    subst hA'
    clear hA
    have HFin : Hid (r = [125] → readL s.data.toList = some (acc ++ [mkLab x])) := fun h => HT.out.fin hk16 (by rw [hl, h])
    have HGo := hid (fun h => HT.out.go hk16 hl h)
    clear hl
    have hw3 := (HB2.out.set 0 (.string (mkB x.1))).set 1 (.string (mkB x.2))
    have HK3 := hid (show Kept wr ((w2.setCell ⟨wr.heap.size, 0, none⟩ (.string (mkB x.1))).setCell ⟨wr.heap.size, 1, none⟩ (.string (mkB x.2))) from (HK2.out.setCell (fun hlt => absurd hlt (Nat.lt_irrefl _)) _).setCell (fun hlt => absurd hlt (Nat.lt_irrefl _)) _)
    obtain ⟨g, cap, w4, Hr, hat4, hk4⟩ := lab_step (w0 := w) (w := (w2.setCell ⟨wr.heap.size, 0, none⟩ (.string (mkB x.1))).setCell ⟨wr.heap.size, 1, none⟩ (.string (mkB x.2))) (ownN_stay HA.out HK3.out) (HK.out.trans HK3.out (fun _ _ f => f)) (mkLab x) (by omega)
    have HA4 := hid hat4
    have HK4 := hid hk4
    have d0 := hw3.cell 0 rfl
    have d1 := hw3.cell 1 rfl
    simp only [mkLab] at Hr
    have hsz3 : ((w2.setCell ⟨wr.heap.size, 0, none⟩ (.string (mkB x.1))).setCell ⟨wr.heap.size, 1, none⟩ (.string (mkB x.2))).heap.size = w2.heap.size := by simp
    rw [hsz3, hk] at Hr
    rw [hk] at HA4
    clear hat4 hk4 hw3 hsz3
    have hEq := str_one r 125
    go_wp2_with (at_builtin; refine wpList_append_run rfl _ _ _ rfl rfl rfl Hr ?_)
    ·have hr : r = [125] := by
      have hh : (r == [125]) = true := by assumption
      simpa using hh
     have hfin := HFin.out hr
     go_ret2
     refine ⟨⟨_, _, rfl, ?_⟩, HK4.out⟩
     rw [hfin]
     exact ⟨rfl, by
      have := HA4.out
      unfold LabAt at this ⊢
      exact this⟩
    ·have hr : r ≠ [125] := by
      have hh : (r == [125]) = false := by assumption
      simpa using hh
     have hgo := HGo.out hr
     have HG := hid hgo
     have hcp := Tryz.strings_CutPrefix (mkB r) ⟨#[44]⟩ w4
     have e2 : (⟨#[44]⟩ : ByteArray).data.toList = [44] := rfl
     have e3 : (mkB r).data.toList = r := rfl
     rw [e2, e3] at hcp
     generalize Lib.trimPrefix r [44] = S2 at hcp HG
     generalize Lib.hasPrefix r [44] = b2 at hcp HG
     refine hcp.mono ?_
     clear hcp hgo hr e2 e3
     rintro e w5 ⟨rfl, hq⟩
     replace hq := hq.symm
     subst hq
     go_wp2
     refine ⟨⟨k + 1, acc ++ [mkLab x], S2, b2, rfl, rfl, HG.out, HA4.out, HK4.out⟩, ?_⟩
     simp only [outN]
     omega
  ·have hbad := hid (HT.out.full hgo)
   cases b with
   | false =>
    go_wp2
    go_ret2
    refine ⟨⟨_, _, rfl, ?_⟩, HK.out⟩
    rw [hbad.out]
    exact ⟨rfl, rfl⟩
   | true =>
    have hk16' : ¬ ((acc.length : Int) ≤ 16) := fun h => hgo ⟨rfl, by omega⟩
    go_wp2
    all_goals try (exfalso; omega)
    go_ret2
    refine ⟨⟨.slice none 0 0, .inl ⟨rfl, ?_⟩⟩, HK.out⟩
    rw [hbad.out]
    exact ⟨rfl, rfl⟩
def ParseA (w : World) (B : Nat) (u : Value) (n : Int) : Option Labs → Prop
 | some m => n = 0 ∧ LabAt w B u m
 | none => n = 4 ∧ u = .slice none 0 0
theorem unqL_len : ∀ (n : Nat) (S v : List UInt8), S.length ≤ n → unqL S = some v → v.length ≤ S.length := by
 intro n
 induction n with
 | zero =>
  intro S v hS h
  have : S = [] := List.length_eq_zero_iff.1 (by omega)
  subst this
  rw [unqL_nil] at h
  cases h
  simp
 | succ n ih =>
  intro S v hS h
  cases S with
  | nil => rw [unqL_nil] at h; cases h; simp
  | cons c r =>
   rw [unqL_cons] at h
   split at h
   ·obtain ⟨z, hz, rfl⟩ := Option.map_eq_some_iff.1 h
    have := ih r z (by simp at hS; omega) hz
    simp
    omega
   ·split at h
    ·cases hx : hex2 r with
     | none => rw [hx] at h; cases h
     | some y =>
      rw [hx] at h
      obtain ⟨z, hz, rfl⟩ := Option.map_eq_some_iff.1 h
      have := ih (r.drop 2) z (by rw [List.length_drop]; simp at hS; omega) hz
      rw [List.length_drop] at this
      simp
      omega
    ·cases h
theorem labR_small {S : List UInt8} {x : List UInt8 × List UInt8} {r : List UInt8} (h : labR S = some (x, r)) : x.1.length ≤ S.length ∧ x.2.length ≤ S.length := by
 unfold labR at h
 split at h
 ·split at h
  ·obtain ⟨v, hv, e⟩ := Option.map_eq_some_iff.1 h
   have h1 := cut_len S [61, 34]
   have h2 := cut_len (Lib.cut S [61, 34]).2.1 [34]
   have h3 := unqL_len _ _ _ (Nat.le_refl _) hv
   cases e
   exact ⟨h1.1, Nat.le_trans h3 (Nat.le_trans h2.1 h1.2)⟩
  ·cases h
 ·cases h
theorem readR_small (f : Nat) : ∀ (S : List UInt8) (l : Labs), readR f S = some l → S.length ≤ 100000 → l.length ≤ f ∧ Small l := by
 induction f with
 | zero => intro S l h; cases h
 | succ f ih =>
  intro S l h hS
  rw [readR] at h
  cases hl : labR S with
  | none => rw [hl] at h; cases h
  | some q =>
   obtain ⟨x, r⟩ := q
   rw [hl] at h
   have hrl := labR_len hl
   have hxs := labR_small hl
   have hsx : (mkLab x).1.size ≤ 100000 ∧ (mkLab x).2.size ≤ 100000 := by
    show (mkB x.1).size ≤ _ ∧ (mkB x.2).size ≤ _
    rw [mkB_size, mkB_size]
    omega
   simp only at h
   split at h
   ·cases h
    refine ⟨by simp, fun y hy => ?_⟩
    have := List.mem_singleton.1 hy
    subst this
    exact hsx
   ·split at h
    ·rename_i c r' _
     split at h
     ·obtain ⟨l', hl', rfl⟩ := Option.map_eq_some_iff.1 h
      obtain ⟨h1, h2⟩ := ih r' l' hl' (by simp at hrl; omega)
      refine ⟨by simp; omega, fun y hy => ?_⟩
      rcases List.mem_cons.1 hy with rfl | hy
      ·exact hsx
      ·exact h2 y hy
     ·cases h
    ·cases h
set_option maxRecDepth 100000 in
set_option maxHeartbeats 1600000 in
theorem parse_any (w : World) (s : ByteArray) (hM : Mx w) (hs : s.size ≤ 100000) :
  Calls Tryz.prog 104 #[.string s] w fun e w' => (∃ u n, e = .returned (.tuple #[u, .int .i64 n]) ∧ ParseA w' w.heap.size u n (parseL s.data.toList)) ∧ Kept w w' := by
 have H0 := hid (read_any w s hM hs)
 have HSm : Hid (∀ l, readL s.data.toList = some l → l.length ≤ 17 ∧ Small l) := fun l h => by
  have hl : s.data.toList.length ≤ 100000 := by rw [← Lib.size_eq]; exact hs
  cases hc : s.data.toList with
  | nil => rw [hc] at h; cases h
  | cons c r =>
   rw [hc] at h hl
   have h' : (if c.toNat = 123 then readR 17 r else none) = some l := h
   split at h'
   ·exact readR_small 17 r l h' (by simp at hl; omega)
   ·cases h'
 have HPd : Hid (parseL s.data.toList = (readL s.data.toList).bind (fun l => (makeL l).bind (fun m => if textL m = s.data.toList then some m else none))) := rfl
 have hstr : ∀ t : List UInt8, (t == s.toList) = decide (t = s.data.toList) := fun t => by
  rw [ByteArray.toList_eq]
  by_cases h : t = s.data.toList
  ·rw [decide_eq_true h, h]; simp
  ·rw [decide_eq_false h]
   simpa using h
 have HStr := hid hstr
 clear hstr
 go_enter Tryz.func104, Tryz.ntmps104
 go_wp2_with fail
 refine H0.out.mono ?_
 rintro e w1 ⟨⟨u, b, rfl, hA⟩, k1⟩
 have HA := hid hA
 have HK1 := hid k1
 clear hA
 cases hr : readL s.data.toList with
 | none =>
  have hA := HA.out
  rw [hr] at hA
  obtain ⟨rfl, rfl⟩ := hA
  have hp : Hid (parseL s.data.toList = none) := by refine hid ?_; rw [HPd.out, hr]; rfl
  go_wp2
  go_ret2
  refine ⟨⟨_, _, rfl, ?_⟩, HK1.out⟩
  rw [hp.out]
  exact ⟨rfl, rfl⟩
 | some l =>
  have hA := HA.out
  rw [hr] at hA
  obtain ⟨rfl, hat⟩ := hA
  obtain ⟨hl17, hsm⟩ := HSm.out l hr
  obtain ⟨oa, oc, rfl⟩ := ownN_slice hat
  have H1 := hid (make_any w1 _ l (LabAt.src hat) (by omega) hsm)
  have HP2 : Hid (parseL s.data.toList = (makeL l).bind (fun m => if textL m = s.data.toList then some m else none)) := by refine hid ?_; rw [HPd.out, hr]; rfl
  clear hat hr hsm
  go_wp2_with fail
  refine H1.out.mono ?_
  rintro e w2 ⟨⟨u2, n2, rfl, hm⟩, k2⟩
  have HM := hid hm
  have HK2 := hid (HK1.out.trans k2 (fun _ _ f => f))
  clear hm H1 k2
  cases hmk : makeL l with
  | none =>
   have hm := HM.out
   rw [hmk] at hm
   obtain ⟨rfl, rfl⟩ := hm
   have hp : Hid (parseL s.data.toList = none) := by refine hid ?_; rw [HP2.out, hmk]; rfl
   go_wp2
   go_ret2
   refine ⟨⟨_, _, rfl, ?_⟩, HK2.out⟩
   rw [hp.out]
   exact ⟨rfl, rfl⟩
  | some m =>
   have hm := HM.out
   rw [hmk] at hm
   obtain ⟨rfl, hat⟩ := hm
   have hmade := makeL_made hmk
   obtain ⟨g, cap, rfl⟩ := ownN_some hat hmade.len
   have hsm2 : Small m := fun x hx => by
    have := hmade.ok x hx
    simp only [labOk, nameOk, valOk, Bool.and_eq_true, decide_eq_true_eq] at this
    omega
   have H2 := hid (text_any w2 _ m (LabAt.src hat) (by have := hmade.len16; omega) hsm2)
   have ht : txtB m = mkB (textL m) := by unfold txtB; rw [hmade.make]
   rw [ht] at H2
   have HAt := hid hat
   have HP3 : Hid (parseL s.data.toList = if textL m = s.data.toList then some m else none) := by refine hid ?_; rw [HP2.out, hmk]; rfl
   have hEq := HStr.out (textL m)
   clear hat hmk ht hsm2
   go_wp2_with fail
   refine H2.out.mono ?_
   rintro e w3 ⟨rfl, k3⟩
   have HK3 := hid (HK2.out.trans k3 (fun _ _ f => f))
   have HA3 := hid (ownN_stay HAt.out k3)
   clear k3 H2
   by_cases h : textL m = s.data.toList
   ·rw [decide_eq_true h] at hEq
    have hp : Hid (parseL s.data.toList = some m) := by refine hid ?_; rw [HP3.out, if_pos h]
    have HH := hid h
    clear h
    go_wp2
    go_ret2
    refine ⟨⟨_, _, rfl, ?_⟩, HK3.out⟩
    rw [hp.out]
    exact ⟨rfl, ownN_base HA3.out HK1.out.size⟩
   ·rw [decide_eq_false h] at hEq
    have hp : Hid (parseL s.data.toList = none) := by refine hid ?_; rw [HP3.out, if_neg h]
    have HH := hid h
    clear h
    go_wp2
    go_ret2
    refine ⟨⟨_, _, rfl, ?_⟩, HK3.out⟩
    rw [hp.out]
    exact ⟨rfl, rfl⟩
end Go.Proofs.YtllfanlhgnkcfaaGreatDoor.N
