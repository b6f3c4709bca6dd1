/-
  Xstr, Xall.
-/
import Derived.Test.YteknpfldemgmnaaGreatQ34
import Derived.Test.YteknpfldemgmnaaGreatQ39
import Derived.Test.YteknpfldemgmnaaGreatQ38

/-
  Names and Values.
-/
namespace Go.Proofs.YteknpfldemgmnaaGreat.X
open Go.RowKit Go.Proofs.Lys Go.Maps Go.Sort Go.Shelf Go.Proofs.YteknpfldemgmnaaGreat.N
set_option linter.unusedVariables false
set_option linter.unusedSimpArgs false

abbrev StrAt (w : World) (B : Nat) (v : Value) (ss : List ByteArray) : Prop := w.ownsRow B 9 1 v ss.length (ss.map Value.string)
theorem Tryz.infoStrX : (Tryz.prog.info? 9).map (fun i => (i.zero, i.size, i.bytes)) = some (some (.string ⟨#[]⟩), 1, 16) := by kernel_rfl
theorem str_lit (w : World) (s : ByteArray) : SrcOf (w.alloc (.cells #[.string s] 9)) (.slice (some ⟨w.heap.size, 0, none⟩) 1 1) [.string s] := by
  have hb := Blk.new w [.string s] 9
  refine .inr ⟨⟨w.heap.size, 0, none⟩, 1, rfl, fun j u hu => ?_⟩
  have : j = 0 := by have := (List.getElem?_eq_some_iff.1 hu).1; simpa using this
  subst this
  cases hu
  exact hb.cell 0 rfl
theorem str_step {w0 w : World} {v : Value} {ss : List ByteArray} (hown : StrAt w w0.heap.size v ss) (hk : Kept w0 w) (s : ByteArray) (hl : ss.length < 1000000) :
    ∃ a n c w', Hid ((Builtin.append_ #[200, 200] 0 #[v, .slice (some ⟨w.heap.size, 0, none⟩) 1 1]).run Tryz.prog (w.alloc (.cells #[.string s] 9)) = .ok (.slice a n c) w') ∧ n = (ss ++ [s]).length ∧ Hid (StrAt w' w0.heap.size (.slice a n c) (ss ++ [s])) ∧ Hid (Kept w0 w') := by
  have k1 : Kept w (w.alloc (.cells #[.string s] 9)) := (Only.refl _ w).alloc _
  obtain ⟨v', w', hr, h1, h2, h3⟩ := append_src (P := Tryz.prog) (base := w0.heap.size) Tryz.underlying200 Tryz.infoStrX rfl (by decide) (ownN_stay hown k1) (str_lit w s) (by intro u hu; rw [List.mem_singleton.1 hu]; rfl) (by simp; omega) (Nat.le_trans hk.size k1.size)
  have h1' : StrAt w' w0.heap.size v' (ss ++ [s]) := by
    unfold StrAt
    rw [List.length_append, List.map_append]
    exact h1
  obtain ⟨a, c, rfl⟩ := ownN_slice h1'
  refine ⟨a, _, c, w', hr, rfl, h1', ?_⟩
  exact (hk.trans k1 (fun _ _ f => f)).grown h2 (fun j hj hlt => by have := (ownN_lt hown hj).1; omega)
theorem only_putRow {α : Type} [Inhabited α] (enc : α → Value) (w : World) (blk off m : Nat) (d : Array α) : Only (fun j => j = blk) w (putRow enc (Go.Sort.ahead w m) blk off d) := by
  refine ⟨rfl, rfl, rfl, ?_, fun j hj hn => ?_⟩
  · show _ ≤ ((Go.Sort.ahead w m).heap.modify blk _).size
    rw [Array.size_modify]
    exact Nat.le_refl _
  · show ((Go.Sort.ahead w m).heap.modify blk _)[j]? = _
    rw [Array.getElem?_modify, if_neg (fun e => hn e.symm)]
    rfl
theorem encStr_of (s : ByteArray) : encStr s.data.toList = .string s := by
  obtain ⟨⟨x⟩⟩ := s
  rfl
theorem ofN_snoc (P : Posts) (n : ByteArray) {k : Nat} (hk : k < P.length) : ofN (P.take (k + 1)) n = ofN (P.take k) n ++ (if P[k].1.1 = n then [P[k]] else []) := by
  unfold ofN
  rw [List.take_succ_eq_append_getElem hk, List.filter_append]
  congr 1
  rw [List.filter_cons]
  split
  · rename_i e
    rw [if_pos (by simpa using e)]
    rfl
  · rename_i e
    rw [if_neg (by simpa using e)]
    rfl

end Go.Proofs.YteknpfldemgmnaaGreat.X

/-
  The law's own looks: whether two lists of posts are one, and all that an index tells.
-/
namespace Go.Proofs.YteknpfldemgmnaaGreat.X
open Go.RowKit Go.Proofs.Lys Go.Maps Go.Proofs.YteknpfldemgmnaaGreat.N
set_option linter.unusedVariables false
set_option linter.unusedSimpArgs false

/-- Posts that are read. -/
structure PSrc (w : World) (v : Value) (P : Posts) (qs : List PV) : Prop where
  cells : PvCells w v qs
  nums : ∀ q ∈ qs, Po.ISrc w q.lv q.l
  eq : qs.map postV = P
theorem PSrc.stay {w W : World} {v : Value} {P : Posts} {qs : List PV} (h : PSrc w v P qs) (k : Kept w W) : PSrc W v P qs := ⟨h.cells.stay k, fun q hq => (h.nums q hq).stay k, h.eq⟩
theorem PostAt.psrc {w : World} {B : Nat} {v : Value} {qs : List PV} {P : Posts} (h : PostAt w B v qs) (e : qs.map postV = P) : PSrc w v P qs := ⟨pv_cells h.row, fun q hq => Po.own_isrc (h.num q hq), e⟩
theorem PSrc.len {w : World} {v : Value} {P : Posts} {qs : List PV} (h : PSrc w v P qs) : qs.length = P.length := by
  have := congrArg List.length h.eq
  rw [List.length_map] at this
  exact this
theorem PSrc.at_ {w : World} {v : Value} {P : Posts} {qs : List PV} (h : PSrc w v P qs) {k : Nat} (hk : k < qs.length) (hk2 : k < P.length) : qs[k].lab = P[k].1 ∧ qs[k].l = P[k].2 := by
  have : P[k]? = some (postV qs[k]) := by rw [← h.eq, List.getElem?_map, List.getElem?_eq_getElem hk]; rfl
  rw [List.getElem?_eq_getElem hk2] at this
  have := Option.some.inj this
  exact ⟨by rw [this]; rfl, by rw [this]; rfl⟩

set_option maxRecDepth 100000 in
set_option maxHeartbeats 3200000 in
theorem sameposts_any (w : World) (va vb : Value) (P : Posts) (qa qb : List PV) (ha : PSrc w va P qa) (hb : PSrc w vb P qb) (hl : P.length ≤ 1000000) (hll : ∀ p ∈ P, p.2.length ≤ 1000000) :
    Calls Tryz.prog 13 #[va, vb] w fun e w' => e = .returned (.bool true) ∧ Kept w w' := by
  obtain ⟨a1, c1, rfl⟩ := ha.cells.len
  obtain ⟨a2, c2, rfl⟩ := hb.cells.len
  obtain ⟨N, hN⟩ : ∃ N, P.length = N := ⟨_, rfl⟩
  have e1 := ha.len
  have e2 := hb.len
  rw [hN] at e1 e2 hl
  rw [e1] at ha ⊢
  rw [e2] at hb ⊢
  have HA := hid ha
  have HB := hid hb
  have HN := hid hN
  have HE1 := hid e1
  have HE2 := hid e2
  have HLL := hid hll
  clear ha hb hN e1 e2 hll
  go_enter Tryz.func13, Tryz.ntmps13
  go_wp2
  go_loopw [5] (fun s wr => ∃ (k : Nat), k ≤ N ∧ s = .int .i64 (k : Int) ∧ Kept w wr) (fun s _ => N - (intOf s).toNat)
  case atStart => exact ⟨0, by omega, rfl, Only.refl _ _⟩
  case round =>
    obtain ⟨k, hk, rfl, kr⟩ := hrel
    by_cases hlt : k < N
    · have hka : k < qa.length := by have := HE1.out; omega
      have hkb : k < qb.length := by have := HE2.out; omega
      have hkP : k < P.length := by have := HN.out; omega
      obtain ⟨b1, o1, rfl, x1, y1, z1⟩ := (HA.out.stay kr).cells.cell HE1.out k hlt
      obtain ⟨b2, o2, rfl, x2, y2, z2⟩ := (HB.out.stay kr).cells.cell HE2.out k hlt
      have pa := HA.out.at_ hka hkP
      have pb := HB.out.at_ hkb hkP
      have ia := (HA.out.stay kr).nums _ (List.getElem_mem hka)
      have ib := (HB.out.stay kr).nums _ (List.getElem_mem hkb)
      rw [pa.1] at x1 y1
      rw [pb.1] at x2 y2
      rw [pa.2] at ia
      rw [pb.2] at ib
      have hn := fun W => neq_lab P[k].1 P[k].1 W
      have hpl := HLL.out P[k] (List.getElem_mem hkP)
      rw [decide_eq_true rfl, Bool.not_true] at hn
      generalize qa[k].lv = LA at z1 ia
      generalize qb[k].lv = LB at z2 ib
      generalize P[k] = p at x1 y1 x2 y2 ia ib hn hpl
      obtain ⟨⟨Y1, Y2⟩, pl⟩ := p
      simp only at x1 y1 x2 y2 ia ib hn hpl
      have S0 := hid (fun (W : World) (kW : Kept wr W) => (show (W.cell? ⟨b1, o1 + k * 3, none⟩ = some (.string Y1) ∧ W.cell? ⟨b1, o1 + k * 3 + 1, none⟩ = some (.string Y2) ∧ W.cell? ⟨b1, o1 + k * 3 + 2, none⟩ = some LA) ∧ W.cell? ⟨b2, o2 + k * 3, none⟩ = some (.string Y1) ∧ W.cell? ⟨b2, o2 + k * 3 + 1, none⟩ = some (.string Y2) ∧ W.cell? ⟨b2, o2 + k * 3 + 2, none⟩ = some LB from ⟨⟨cell_kept kW x1, cell_kept kW y1, cell_kept kW z1⟩, cell_kept kW x2, cell_kept kW y2, cell_kept kW z2⟩))
      have HSM := hid (fun (W : World) (kW : Kept wr W) => Po.same_any W LA LB pl (ia.stay kW).1 (ib.stay kW).1 hpl)
      obtain ⟨sa, sc, ea, _⟩ := ia.2
      obtain ⟨sb, sd, eb, _⟩ := ib.2
      have KR := hid kr
      clear x1 y1 z1 x2 y2 z2 pa pb ia ib kr
      generalize pl.length = M at ea eb
      subst ea eb
      go_wp2_with fail
      have K0 := hid (show Kept wr wr.drew from (Only.refl _ _).drew)
      refine wp_region_noPanic ?_
      refine wp_region_last (L := 1000) (S := fun w' => Kept wr w') (by kernel_rfl) ?_
      refine wpAnyN_take (i := 0) (v := .slice (some ⟨b1, o1, none⟩) N c1) rfl (by kernel_rfl) (by kernel_rfl) (by kernel_rfl) (by decide) (by kernel_rfl) (fun _ _ _ h => h) (Or.inl ⟨by kernel_rfl, ?_⟩) K0.out ?_
      · (intro w' hSw; obtain ⟨⟨s0, s1, s2⟩, s3, s4, s5⟩ := S0.out w' hSw; clear hSw; go_simp)
      (try simp only [List.getElem_toArray, List.getElem_cons_succ, List.getElem_cons_zero])
      go_frame
      refine wpAnyN_take (i := 1) (v := .int .i64 (k : Int)) rfl (by kernel_rfl) (by kernel_rfl) (by kernel_rfl) (by decide) (by kernel_rfl) (fun _ _ _ h => h) (Or.inl ⟨by kernel_rfl, ?_⟩) K0.out ?_
      · (intro w' hSw; obtain ⟨⟨s0, s1, s2⟩, s3, s4, s5⟩ := S0.out w' hSw; clear hSw; go_simp)
      (try simp only [List.getElem_toArray, List.getElem_cons_succ, List.getElem_cons_zero])
      go_frame
      refine wpAnyN_take (i := 2) (v := .pointer (some ⟨b1, o1 + k * 3, none⟩)) rfl (by kernel_rfl) (by kernel_rfl) (by kernel_rfl) (by decide) (by kernel_rfl) (fun _ _ _ h => h) (Or.inl ⟨by kernel_rfl, ?_⟩) K0.out ?_
      · (intro w' hSw; obtain ⟨⟨s0, s1, s2⟩, s3, s4, s5⟩ := S0.out w' hSw; clear hSw; go_simp)
      (try simp only [List.getElem_toArray, List.getElem_cons_succ, List.getElem_cons_zero])
      go_frame
      refine wpAnyN_take (i := 3) (v := .pointer (some ⟨b1, o1 + k * 3, none⟩)) rfl (by kernel_rfl) (by kernel_rfl) (by kernel_rfl) (by decide) (by kernel_rfl) (fun _ _ _ h => h) (Or.inl ⟨by kernel_rfl, ?_⟩) K0.out ?_
      · (intro w' hSw; obtain ⟨⟨s0, s1, s2⟩, s3, s4, s5⟩ := S0.out w' hSw; clear hSw; go_simp)
      (try simp only [List.getElem_toArray, List.getElem_cons_succ, List.getElem_cons_zero])
      go_frame
      refine wpAnyN_take (i := 4) (v := .agg #[.string Y1, .string Y2]) rfl (by kernel_rfl) (by kernel_rfl) (by kernel_rfl) (by decide) (by kernel_rfl) (fun _ _ _ h => h) (Or.inl ⟨by kernel_rfl, ?_⟩) K0.out ?_
      · (intro w' hSw; obtain ⟨⟨s0, s1, s2⟩, s3, s4, s5⟩ := S0.out w' hSw; clear hSw; go_simp)
      (try simp only [List.getElem_toArray, List.getElem_cons_succ, List.getElem_cons_zero])
      go_frame
      refine wpAnyN_take (i := 5) (v := .slice (some ⟨b2, o2, none⟩) N c2) rfl (by kernel_rfl) (by kernel_rfl) (by kernel_rfl) (by decide) (by kernel_rfl) (fun _ _ _ h => h) (Or.inl ⟨by kernel_rfl, ?_⟩) K0.out ?_
      · (intro w' hSw; obtain ⟨⟨s0, s1, s2⟩, s3, s4, s5⟩ := S0.out w' hSw; clear hSw; go_simp)
      (try simp only [List.getElem_toArray, List.getElem_cons_succ, List.getElem_cons_zero])
      go_frame
      refine wpAnyN_take (i := 6) (v := .int .i64 (k : Int)) rfl (by kernel_rfl) (by kernel_rfl) (by kernel_rfl) (by decide) (by kernel_rfl) (fun _ _ _ h => h) (Or.inl ⟨by kernel_rfl, ?_⟩) K0.out ?_
      · (intro w' hSw; obtain ⟨⟨s0, s1, s2⟩, s3, s4, s5⟩ := S0.out w' hSw; clear hSw; go_simp)
      (try simp only [List.getElem_toArray, List.getElem_cons_succ, List.getElem_cons_zero])
      go_frame
      refine wpAnyN_take (i := 7) (v := .pointer (some ⟨b2, o2 + k * 3, none⟩)) rfl (by kernel_rfl) (by kernel_rfl) (by kernel_rfl) (by decide) (by kernel_rfl) (fun _ _ _ h => h) (Or.inl ⟨by kernel_rfl, ?_⟩) K0.out ?_
      · (intro w' hSw; obtain ⟨⟨s0, s1, s2⟩, s3, s4, s5⟩ := S0.out w' hSw; clear hSw; go_simp)
      (try simp only [List.getElem_toArray, List.getElem_cons_succ, List.getElem_cons_zero])
      go_frame
      refine wpAnyN_take (i := 8) (v := .pointer (some ⟨b2, o2 + k * 3, none⟩)) rfl (by kernel_rfl) (by kernel_rfl) (by kernel_rfl) (by decide) (by kernel_rfl) (fun _ _ _ h => h) (Or.inl ⟨by kernel_rfl, ?_⟩) K0.out ?_
      · (intro w' hSw; obtain ⟨⟨s0, s1, s2⟩, s3, s4, s5⟩ := S0.out w' hSw; clear hSw; go_simp)
      (try simp only [List.getElem_toArray, List.getElem_cons_succ, List.getElem_cons_zero])
      go_frame
      refine wpAnyN_take (i := 9) (v := .agg #[.string Y1, .string Y2]) rfl (by kernel_rfl) (by kernel_rfl) (by kernel_rfl) (by decide) (by kernel_rfl) (fun _ _ _ h => h) (Or.inl ⟨by kernel_rfl, ?_⟩) K0.out ?_
      · (intro w' hSw; obtain ⟨⟨s0, s1, s2⟩, s3, s4, s5⟩ := S0.out w' hSw; clear hSw; go_simp)
      (try simp only [List.getElem_toArray, List.getElem_cons_succ, List.getElem_cons_zero])
      go_frame
      refine wpAnyN_take (i := 10) (v := .bool false) rfl (by kernel_rfl) (by kernel_rfl) (by kernel_rfl) (by decide) (by kernel_rfl) (fun _ _ _ h => h) (Or.inl ⟨by kernel_rfl, ?_⟩) K0.out ?_
      · (intro w' hSw; obtain ⟨⟨s0, s1, s2⟩, s3, s4, s5⟩ := S0.out w' hSw; clear hSw; go_simp)
      (try simp only [List.getElem_toArray, List.getElem_cons_succ, List.getElem_cons_zero])
      go_frame
      refine wpAnyN_take (i := 11) (v := .bool false) rfl (by kernel_rfl) (by kernel_rfl) (by kernel_rfl) (by decide) (by kernel_rfl) (fun _ _ _ h => h) (Or.inl ⟨by kernel_rfl, ?_⟩) K0.out ?_
      · (intro w' hSw; obtain ⟨⟨s0, s1, s2⟩, s3, s4, s5⟩ := S0.out w' hSw; clear hSw; go_simp)
      (try simp only [List.getElem_toArray, List.getElem_cons_succ, List.getElem_cons_zero])
      go_frame
      refine wpAnyN_take (i := 12) (v := .slice (some ⟨b1, o1, none⟩) N c1) rfl (by kernel_rfl) (by kernel_rfl) (by kernel_rfl) (by decide) (by kernel_rfl) (fun _ _ _ h => h) (Or.inl ⟨by kernel_rfl, ?_⟩) K0.out ?_
      · (intro w' hSw; obtain ⟨⟨s0, s1, s2⟩, s3, s4, s5⟩ := S0.out w' hSw; clear hSw; go_simp)
      (try simp only [List.getElem_toArray, List.getElem_cons_succ, List.getElem_cons_zero])
      go_frame
      refine wpAnyN_take (i := 13) (v := .int .i64 (k : Int)) rfl (by kernel_rfl) (by kernel_rfl) (by kernel_rfl) (by decide) (by kernel_rfl) (fun _ _ _ h => h) (Or.inl ⟨by kernel_rfl, ?_⟩) K0.out ?_
      · (intro w' hSw; obtain ⟨⟨s0, s1, s2⟩, s3, s4, s5⟩ := S0.out w' hSw; clear hSw; go_simp)
      (try simp only [List.getElem_toArray, List.getElem_cons_succ, List.getElem_cons_zero])
      go_frame
      refine wpAnyN_take (i := 14) (v := .pointer (some ⟨b1, o1 + k * 3, none⟩)) rfl (by kernel_rfl) (by kernel_rfl) (by kernel_rfl) (by decide) (by kernel_rfl) (fun _ _ _ h => h) (Or.inl ⟨by kernel_rfl, ?_⟩) K0.out ?_
      · (intro w' hSw; obtain ⟨⟨s0, s1, s2⟩, s3, s4, s5⟩ := S0.out w' hSw; clear hSw; go_simp)
      (try simp only [List.getElem_toArray, List.getElem_cons_succ, List.getElem_cons_zero])
      go_frame
      refine wpAnyN_take (i := 15) (v := .pointer (some ⟨b1, o1 + k * 3 + 2, none⟩)) rfl (by kernel_rfl) (by kernel_rfl) (by kernel_rfl) (by decide) (by kernel_rfl) (fun _ _ _ h => h) (Or.inl ⟨by kernel_rfl, ?_⟩) K0.out ?_
      · (intro w' hSw; obtain ⟨⟨s0, s1, s2⟩, s3, s4, s5⟩ := S0.out w' hSw; clear hSw; go_simp)
      (try simp only [List.getElem_toArray, List.getElem_cons_succ, List.getElem_cons_zero])
      go_frame
      refine wpAnyN_take (i := 16) (v := .slice sa M sc) rfl (by kernel_rfl) (by kernel_rfl) (by kernel_rfl) (by decide) (by kernel_rfl) (fun _ _ _ h => h) (Or.inl ⟨by kernel_rfl, ?_⟩) K0.out ?_
      · (intro w' hSw; obtain ⟨⟨s0, s1, s2⟩, s3, s4, s5⟩ := S0.out w' hSw; clear hSw; go_simp)
      (try simp only [List.getElem_toArray, List.getElem_cons_succ, List.getElem_cons_zero])
      go_frame
      refine wpAnyN_take (i := 17) (v := .slice (some ⟨b2, o2, none⟩) N c2) rfl (by kernel_rfl) (by kernel_rfl) (by kernel_rfl) (by decide) (by kernel_rfl) (fun _ _ _ h => h) (Or.inl ⟨by kernel_rfl, ?_⟩) K0.out ?_
      · (intro w' hSw; obtain ⟨⟨s0, s1, s2⟩, s3, s4, s5⟩ := S0.out w' hSw; clear hSw; go_simp)
      (try simp only [List.getElem_toArray, List.getElem_cons_succ, List.getElem_cons_zero])
      go_frame
      refine wpAnyN_take (i := 18) (v := .int .i64 (k : Int)) rfl (by kernel_rfl) (by kernel_rfl) (by kernel_rfl) (by decide) (by kernel_rfl) (fun _ _ _ h => h) (Or.inl ⟨by kernel_rfl, ?_⟩) K0.out ?_
      · (intro w' hSw; obtain ⟨⟨s0, s1, s2⟩, s3, s4, s5⟩ := S0.out w' hSw; clear hSw; go_simp)
      (try simp only [List.getElem_toArray, List.getElem_cons_succ, List.getElem_cons_zero])
      go_frame
      refine wpAnyN_take (i := 19) (v := .pointer (some ⟨b2, o2 + k * 3, none⟩)) rfl (by kernel_rfl) (by kernel_rfl) (by kernel_rfl) (by decide) (by kernel_rfl) (fun _ _ _ h => h) (Or.inl ⟨by kernel_rfl, ?_⟩) K0.out ?_
      · (intro w' hSw; obtain ⟨⟨s0, s1, s2⟩, s3, s4, s5⟩ := S0.out w' hSw; clear hSw; go_simp)
      (try simp only [List.getElem_toArray, List.getElem_cons_succ, List.getElem_cons_zero])
      go_frame
      refine wpAnyN_take (i := 20) (v := .pointer (some ⟨b2, o2 + k * 3 + 2, none⟩)) rfl (by kernel_rfl) (by kernel_rfl) (by kernel_rfl) (by decide) (by kernel_rfl) (fun _ _ _ h => h) (Or.inl ⟨by kernel_rfl, ?_⟩) K0.out ?_
      · (intro w' hSw; obtain ⟨⟨s0, s1, s2⟩, s3, s4, s5⟩ := S0.out w' hSw; clear hSw; go_simp)
      (try simp only [List.getElem_toArray, List.getElem_cons_succ, List.getElem_cons_zero])
      go_frame
      refine wpAnyN_take (i := 21) (v := .slice sb M sd) rfl (by kernel_rfl) (by kernel_rfl) (by kernel_rfl) (by decide) (by kernel_rfl) (fun _ _ _ h => h) (Or.inl ⟨by kernel_rfl, ?_⟩) K0.out ?_
      · (intro w' hSw; obtain ⟨⟨s0, s1, s2⟩, s3, s4, s5⟩ := S0.out w' hSw; clear hSw; go_simp)
      (try simp only [List.getElem_toArray, List.getElem_cons_succ, List.getElem_cons_zero])
      go_frame
      refine wpAnyL_one (i := 22) (by kernel_rfl) rfl (by kernel_rfl) ?_
      go_simp
      refine (HSM.out _ K0.out).mono ?_
      rintro e w5 ⟨rfl, k5⟩
      have K5 := hid (show Kept wr w5 from K0.out.trans k5 (fun _ _ f => f))
      clear k5
      refine ⟨K5.out, ?_⟩
      (try go_frame)
      refine wpAnyL_one (i := 23) (by kernel_rfl) rfl (by kernel_rfl) ?_
      go_simp
      refine ⟨K5.out, ?_⟩
      (try go_frame)
      refine wpAnyL_one (i := 24) (by kernel_rfl) rfl (by kernel_rfl) ?_
      go_simp
      refine ⟨K5.out, ?_⟩
      (try go_frame)
      refine wpAnyN_done (by kernel_rfl) ?_
      refine NoPanic.normal ?_
      go_wp2_with fail
      go_roundw
      case rel => exact ⟨k + 1, by omega, by go_num, KR.out.trans K5.out (fun _ _ f => f)⟩
      case measure => simp [intOf]; omega
    · obtain rfl : k = N := by omega
      go_wp2
      go_ret
      exact ⟨rfl, kr⟩

theorem src_str {w : World} {a : Option Addr} {N c : Nat} {ss : List ByteArray} (h : SrcOf w (.slice a N c) (ss.map Value.string)) (hN : ss.length = N) (k : Nat) (hk : k < N) : ∃ b o, a = some ⟨b, o, none⟩ ∧ w.cell? ⟨b, o + k, none⟩ = some (.string (ss[k]'(by omega))) := by
  rcases h.shape with ⟨h2, _⟩ | ⟨_, b, o, c2, h2, h3⟩
  · exfalso
    have := List.map_eq_nil_iff.1 h2
    rw [this] at hN
    simp at hN
    omega
  · simp only [Value.slice.injEq] at h2
    refine ⟨b, o, h2.1, h3 k _ ?_⟩
    rw [List.getElem?_map, List.getElem?_eq_getElem (by omega)]
    rfl
theorem ded_step (l : List ByteArray) (m : Nat) : dedN l (m + 1) = dedN l m ++ (if keepN l m then [l.getD m ⟨#[]⟩] else []) := rfl
abbrev noName : ByteArray := ⟨#[110, 111, 95, 115, 117, 99, 104, 95, 110, 97, 109, 101]⟩

theorem up_mem' {P : Posts} {N : Nat} {L : List Labs} (hT : X.Tells P N (HasL L)) {p : Post} (hp : p ∈ P) {u : Int} (hu : u ∈ p.2) : ∃ i : Nat, u = (i : Int) ∧ HasL L p.1 i := by
  have h1 := (Po.up_mem (hT.up p hp) hu).1
  refine ⟨u.toNat, by omega, ?_⟩
  rw [← hT.iff, look_sorted hT.sort (x := p.1) (l := p.2) hp, show ((u.toNat : Nat) : Int) = u by omega]
  exact hu
end Go.Proofs.YteknpfldemgmnaaGreat.X
