/-
  The law FrameRows.
-/
import Derived.Test.YtjohnomlhcncnaaDoorLtorn9
import Derived.Test.YtjohnomlhcncnaaDoorGrows
namespace Go.Proofs.YtjohnomlhcncnaaDoor.G
open Go.RowKit Go.Proofs.Lys
set_option linter.unusedVariables false

def recP (r : Rec) : Nat × List UInt8 := (r.k.toNat, r.bs)
/-- Where the frames end, one by one. -/
def endsL (rl : Recs) (j : Nat) : List Int := (List.range j).map (fun m => ((endF 0 (rl.take (m + 1)) : Nat) : Int))
theorem endsL_len (rl : Recs) (j : Nat) : (endsL rl j).length = j := by simp [endsL]
theorem endsL_snoc (rl : Recs) (j : Nat) : endsL rl (j + 1) = endsL rl j ++ [((endF 0 (rl.take (j + 1)) : Nat) : Int)] := by
  unfold endsL
  rw [List.range_succ, List.map_append]
  rfl
theorem endsL_at (rl : Recs) {i j : Nat} (h : i < j) : (endsL rl j)[i]? = some ((endF 0 (rl.take (i + 1)) : Nat) : Int) := by
  unfold endsL
  rw [List.getElem?_map, List.getElem?_range h]
  rfl
theorem infoI9 : (Tryd.prog.info? 3).map (fun i => (i.zero, i.size, i.bytes)) = some (some (.int .i64 0), 1, 8) := by kernel_rfl
/-- One number more of a row. -/
theorem own_num {w : World} {base : Nat} {vr : Value} {lr : List Int} (hown : w.ownsRow base 3 1 vr lr.length (lr.map (Value.int .i64))) (hb : base ≤ w.heap.size) (hl : lr.length ≤ 1000000) (X : Int) :
    ∃ g cap w1, Hid ((Builtin.append_ #[42, 42] 0 #[vr, .slice (some ⟨w.heap.size, 0, none⟩) 1 1]).run Tryd.prog (w.alloc (.cells #[.int .i64 X] 3)) = .ok (.slice (some ⟨g, 0, none⟩) (lr.length + 1) cap) w1) ∧ w1.ownsRow base 3 1 (.slice (some ⟨g, 0, none⟩) (lr.length + 1) cap) (lr ++ [X]).length ((lr ++ [X]).map (Value.int .i64)) ∧ Only (fun k => vr.ownBlock = some k) w w1 := by
  obtain ⟨v', w1, hrun, hown1, hgrow, hat⟩ := append_src (P := Tryd.prog) (xv := .slice (some ⟨w.heap.size, 0, none⟩) 1 1) (ys := [.int .i64 X]) Tryd.underlying42 infoI9 rfl (by decide) (hown.alloc (.cells #[.int .i64 X] 3)) (own_src (World.ownsRow_lit w #[.int .i64 X] 1 (Nat.zero_le _) (by decide) rfl)) (by intro u hu; simp at hu; subst hu; rfl) (by simp; omega) (by simp; omega)
  obtain ⟨g, cap, rfl⟩ := own_some hown1 (by simp)
  refine ⟨g, cap, w1, hrun, ?_, ((Only.refl _ w).alloc _).grown hgrow (fun j hj _ => hj)⟩
  have e1 : (lr ++ [X]).length = lr.length + [Value.int .i64 X].length := by simp
  have e2 : (lr ++ [X]).map (Value.int .i64) = lr.map (Value.int .i64) ++ [Value.int .i64 X] := by rw [List.map_append]; rfl
  rw [e1, e2]
  exact hown1
/-- What stands between two rounds: the bytes and the ends of j frames. -/
structure RowI (w W : World) (rl : Recs) (j : Nat) (bv ev : Value) : Prop where
  good : ∀ q ∈ rl.take j, q.1 < 256 ∧ q.2.length ≤ 500
  b : W.ownsRow w.heap.size 5 1 bv (flatL (rl.take j)).length ((flatL (rl.take j)).map bV)
  e : W.ownsRow w.heap.size 3 1 ev (endsL rl j).length ((endsL rl j).map (Value.int .i64))
  k : Kept w W
theorem RowI.len {w W : World} {rl : Recs} {j : Nat} {bv ev : Value} (h : RowI w W rl j bv ev) (hj : j ≤ 40) : (flatL (rl.take j)).length ≤ 20360 := by
  have : ∀ (l : Recs), (∀ q ∈ l, q.1 < 256 ∧ q.2.length ≤ 500) → (flatL l).length ≤ l.length * 509 := by
    intro l
    induction l with
    | nil => intro _; simp [flatL]
    | cons q r ih =>
      intro hg
      have h1 := hg q List.mem_cons_self
      have h2 := ih (fun x hx => hg x (List.mem_cons_of_mem _ hx))
      rw [flatL, List.length_append, frameL_len, List.length_cons]
      omega
  have h1 := this _ h.good
  have h2 : (rl.take j).length ≤ j := by rw [List.length_take]; omega
  have h3 : (rl.take j).length * 509 ≤ 40 * 509 := Nat.mul_le_mul_right _ (by omega)
  omega
/-- A round: the frame is laid behind, its end is laid behind. -/
theorem RowI.step {w W w2 : World} {rl : Recs} {j : Nat} {bv ev u : Value} (h : RowI w W rl j bv ev) (hj : j < rl.length) (hj2 : j < 40) (hg : rl[j].1 < 256 ∧ rl[j].2.length ≤ 500) (k2 : Kept W w2) (hu : w2.ownsRow W.heap.size 5 1 u (frameL rl[j].1 rl[j].2).length ((frameL rl[j].1 rl[j].2).map bV)) :
    ∃ ba bc w3 eg ec w4, Hid ((Builtin.append_ #[22, 22] 0 #[bv, u]).run Tryd.prog w2 = .ok (.slice ba (endF 0 (rl.take (j + 1))) bc) w3) ∧
      Hid ((Builtin.append_ #[42, 42] 0 #[ev, .slice (some ⟨w3.heap.size, 0, none⟩) 1 1]).run Tryd.prog (w3.alloc (.cells #[.int .i64 ((endF 0 (rl.take (j + 1)) : Nat) : Int)] 3)) = .ok (.slice (some ⟨eg, 0, none⟩) (j + 1) ec) w4) ∧
      RowI w w4 rl (j + 1) (.slice ba (endF 0 (rl.take (j + 1))) bc) (.slice (some ⟨eg, 0, none⟩) (j + 1) ec) := by
  have hlen := h.len (by omega)
  have hz := h.k.size
  have hb2 := own_only h.b k2 (fun _ _ f => f)
  have he2 := own_only h.e k2 (fun _ _ f => f)
  obtain ⟨ba, bc, w3, Hr3, ho3, hon3⟩ := row_app hb2 (Nat.le_trans hz k2.size) (own_src hu) (by rw [frameL_len]; omega)
  have et : rl.take (j + 1) = rl.take j ++ [rl[j]] := List.take_succ_eq_append_getElem hj
  have ef : flatL (rl.take (j + 1)) = flatL (rl.take j) ++ frameL rl[j].1 rl[j].2 := by rw [et, flatL_snoc]
  have el : (flatL (rl.take j)).length + (frameL rl[j].1 rl[j].2).length = endF 0 (rl.take (j + 1)) := by rw [endF_at, ef, List.length_append, Nat.zero_add]
  rw [el] at Hr3 ho3
  rw [← ef] at ho3
  have kw3 : Kept w w3 := only_kept (h.k.trans k2 (fun _ _ f => f)) hb2 (Nat.le_refl _) hon3
  have he3 := own_only he2 hon3 (fun i hi e => (own_typed he2 hi).ne (own_typed hb2 e) (by decide) rfl)
  obtain ⟨eg, ec, w4, Hr4, ho4, hon4⟩ := own_num he3 kw3.size (by rw [endsL_len]; omega) ((endF 0 (rl.take (j + 1)) : Nat) : Int)
  rw [endsL_len] at Hr4 ho4
  rw [← endsL_snoc] at ho4
  refine ⟨ba, bc, w3, eg, ec, w4, Hr3, Hr4, ?_, ?_, ho4, ?_⟩
  · intro q hq
    rw [et] at hq
    rcases List.mem_append.1 hq with hq | hq
    · exact h.good q hq
    · rw [List.mem_singleton.1 hq]; exact hg
  · exact own_only ho3 hon4 (fun i hi e => (own_typed ho3 hi).ne (own_typed he3 e) (by decide) rfl)
  · exact kw3.trans hon4 (fun i hi e => by have := (he3.lt i e).1; omega)

set_option maxRecDepth 100000 in
set_option maxHeartbeats 3200000 in
theorem rows9_walk (w : World) (v : Value) (l : List Rec) (cut : Int) (hs : RecsSrc w v l) (hT : Tab w) (hc : cut ≤ 9223372036854775807) :
    Calls Tryd.prog 6 #[v, .int .i64 cut] w fun e w' => e = .returned (.bool true) ∧ Kept w w' := by
  obtain ⟨a, c, rfl⟩ := hs.len
  have ha := alive9_any w hT
  have hnot : ∀ (x : Bool) (w : World), (Op.unary .not (.bool x)).run Tryd.prog w = .ok (.bool (!x)) w := fun _ _ => rfl
  obtain ⟨L, hL⟩ : ∃ L, l.length = L := ⟨_, rfl⟩
  have HL := hid hL
  have HS := hid hs
  have HT := hid hT
  rw [hL] at HS ⊢
  clear hL hs hT
  by_cases hlt : 40 < L
  · go_enter Tryd.func6, Tryd.ntmps6
    go_wp2_with fail
    refine ha.mono ?_
    rintro e w1 ⟨rfl, hk⟩
    have HK := hid hk
    clear ha hk
    go_wp2_with fail
    go_ret
    exact ⟨rfl, HK.out⟩
  · by_cases hc0 : cut < 0
    · go_enter Tryd.func6, Tryd.ntmps6
      go_wp2_with fail
      refine ha.mono ?_
      rintro e w1 ⟨rfl, hk⟩
      have HK := hid hk
      clear ha hk
      go_wp2_with fail
      go_ret
      exact ⟨rfl, HK.out⟩
    · obtain ⟨C, rfl⟩ : ∃ C : Nat, cut = (C : Int) := ⟨cut.toNat, by omega⟩
      have hd1 : decide ((40 : Int) < (L : Int)) = false := by simp; omega
      have hd2 : decide ((C : Int) < 0) = false := by simp
      go_enter Tryd.func6, Tryd.ntmps6
      go_wp2_with fail
      refine ha.mono ?_
      rintro e w1 ⟨rfl, hk⟩
      clear ha
      have HK1 := hid hk
      clear hk
      go_wp2_with fail
      obtain ⟨rl, hrl⟩ : ∃ rl, l.map recP = rl := ⟨_, rfl⟩
      have HRl : Hid (l.map recP = rl ∧ rl.length = L) := ⟨hrl, by rw [← hrl, List.length_map, HL.out]⟩
      clear hrl
      go_loopw [6, 7, 8] (fun bv ev s wr => ∃ j : Nat, j ≤ L ∧ s = .int .i64 (j : Int) ∧ RowI w wr rl j bv ev ∧ (∀ i r, l[i]? = some r → i < j → 0 ≤ r.k) ∧ ∃ ba bn bc ea en ec, bv = .slice ba bn bc ∧ ev = .slice ea en ec) (fun _ _ s _ => L - (intOf s).toNat)
      case atStart =>
        refine ⟨0, by omega, rfl, ⟨fun q hq => by simp at hq, ?_, ?_, HK1.out⟩, fun i r _ h => absurd h (Nat.not_lt_zero _), _, _, _, _, _, _, rfl, rfl⟩
        · exact World.ownsRow_nil _ _ _ _
        · exact World.ownsRow_nil _ _ _ _
      case round =>
        obtain ⟨j, hj, rfl, hI, hpos, ba, bn, bc, ea, en, ec, rfl, rfl⟩ := hrel
        have HPos := hid hpos
        clear hpos
        by_cases hjl : j < L
        · have hjl' : j < l.length := by rw [HL.out]; exact hjl
          have hR := HS.out.stay hI.k
          have hcell : ∃ b0 o0, a = some ⟨b0, o0, none⟩ ∧ wr.cell? ⟨b0, o0 + j * 2, none⟩ = some (.int .i64 l[j].k) ∧ wr.cell? ⟨b0, o0 + j * 2 + 1, none⟩ = some l[j].v ∧ l[j].ok wr := by
            rcases hR with ⟨x, y, e, h0⟩ | ⟨_, b0, o0, c0, e, hc0⟩
            · rw [h0] at hjl'; simp at hjl'
            · cases e
              exact ⟨b0, o0, rfl, hc0 j hjl'⟩
          obtain ⟨b0, o0, rfl, c0, c1, hok, hwf⟩ := hcell
          have hrj : Hid (rl[j]? = some (l[j].k.toNat, l[j].bs)) := by
            show _ = _
            rw [← HRl.out.1, List.getElem?_map, List.getElem?_eq_getElem hjl']
            rfl
          have hlj : Hid (l[j]? = some l[j]) := List.getElem?_eq_getElem hjl'
          generalize l[j] = rj at c0 c1 hok hwf hrj hlj
          obtain ⟨kj, vj, bj⟩ := rj
          simp only at c0 c1 hrj
          have hbs : BSrc wr vj bj := hok
          obtain ⟨xa, xc, hvj⟩ := hbs.len
          obtain ⟨Bl, hBl⟩ : ∃ Bl, bj.length = Bl := ⟨_, rfl⟩
          rw [hBl] at hvj
          subst hvj
          have HBS := hid hbs
          have HBl := hid hBl
          have HI := hid hI
          have HKr : Hid (Kept w wr) := hI.k
          clear hR hok hbs hBl hI hjl' hwf
          by_cases hbig : 500 < Bl
          · go_wp2_with fail
            go_ret
            exact ⟨rfl, HKr.out⟩
          · by_cases hk0 : kj < 0
            · have hd3 : decide ((500 : Int) < (Bl : Int)) = false := by simp; omega
              go_wp2_with fail
              go_ret
              exact ⟨rfl, HKr.out⟩
            · by_cases hk1 : 255 < kj
              · have hd3 : decide ((500 : Int) < (Bl : Int)) = false := by simp; omega
                have hd4 : decide (kj < 0) = false := by simp; omega
                go_wp2_with fail
                go_ret
                exact ⟨rfl, HKr.out⟩
              · obtain ⟨K, rfl⟩ : ∃ K : Nat, kj = (K : Int) := ⟨kj.toNat, by omega⟩
                rw [Int.toNat_natCast] at hrj
                have hd3 : decide ((500 : Int) < (Bl : Int)) = false := by simp; omega
                have hd4 : decide ((K : Int) < 0) = false := by simp
                have hd5 : decide ((255 : Int) < (K : Int)) = false := by simp; omega
                have hput := put_any wr.drew (K : Int) _ bj (HBS.out.stay (Only.refl _ wr).drew) (by rw [HBl.out]; omega) (HT.out.stay (HKr.out.drew))
                go_wp2_with fail
                go_region_held3 (fun w' => w'.cell? ⟨b0, o0 + j * 2, none⟩ = some (.int .i64 (K : Int)) ∧ w'.cell? ⟨b0, o0 + j * 2 + 1, none⟩ = some (.slice xa Bl xc))
                  (first | exact ⟨c0, c1⟩ | exact ⟨kept_cell k2 c0, kept_cell k2 c1⟩)
                  ((go_at_call 11; refine hput.mono ?_; rintro e w2 ⟨k2, u2, fs, x, rfl, hP, ho2⟩))
                have hfs : fs = frameL K bj ∧ x = 0 := by
                  rcases hP with ⟨h, _⟩ | ⟨_, _, h, _⟩ | ⟨_, _, _, h, h'⟩
                  · exfalso; omega
                  · exfalso; rw [HBl.out] at h; omega
                  · exact ⟨by rw [h, Int.toNat_natCast], h'⟩
                obtain ⟨rfl, rfl⟩ := hfs
                have hk2 : Kept wr w2 := (Only.refl (fun _ => False) wr).drew.trans k2 (fun _ _ f => f)
                have hjr : j < rl.length := by rw [HRl.out.2]; exact hjl
                have hrj2 : rl[j] = (K, bj) := by
                  have h := hrj.out
                  rw [List.getElem?_eq_getElem hjr] at h
                  exact Option.some.inj h
                have hu2 : w2.ownsRow wr.heap.size 5 1 u2 (frameL rl[j].1 rl[j].2).length ((frameL rl[j].1 rl[j].2).map bV) := by
                  rw [hrj2]
                  exact ho2
                obtain ⟨ba3, bc3, w3, eg, ec4, w4, Hr3, Hr4, hI4⟩ := HI.out.step hjr (by omega) (by rw [hrj2]; exact ⟨by omega, by show bj.length ≤ 500; rw [HBl.out]; omega⟩) hk2 hu2
                obtain ⟨E, hE⟩ : ∃ E, endF 0 (rl.take (j + 1)) = E := ⟨_, rfl⟩
                have hEl : E ≤ 20360 := by
                  have h := hI4.len (by omega)
                  rw [← hE, endF_at]
                  omega
                rw [hE] at Hr3 Hr4 hI4
                have HI4 := hid hI4
                have HPos2 : Hid (∀ i r, l[i]? = some r → i < j + 1 → 0 ≤ r.k) := by
                  intro i r hir hij
                  by_cases hij2 : i < j
                  · exact HPos.out i r hir hij2
                  · have e : i = j := by omega
                    subst e
                    rw [hlj.out] at hir
                    cases hir
                    show 0 ≤ (K : Int)
                    omega
                obtain ⟨x2, y2, hu2e⟩ := own_slice ho2
                rw [frameL_len, HBl.out] at hu2e
                subst hu2e
                clear hput hP ho2 k2 hk2 hrj2 hu2 hE hI4 c0 c1
                go_wp2_with (first | (go_at_call 13; refine (num9_any _ _).mono ?_; rintro e w' ⟨rfl, hw⟩; replace hw := hw.symm; subst hw) | (at_builtin; first | refine wpList_append_run rfl _ _ _ rfl rfl rfl Hr3 ?_ | refine wpList_append_run rfl _ _ _ rfl rfl rfl Hr4 ?_))
                go_roundw
                case rel => exact ⟨j + 1, by omega, by go_num, HI4.out, HPos2.out, _, _, _, _, _, _, rfl, rfl⟩
                case measure => simp [intOf]; omega
        · have e : j = L := by omega
          subst e
          have HI := hid hI
          have HKr : Hid (Kept w wr) := hI.k
          have hrt : rl.take j = rl := List.take_of_length_le (by rw [HRl.out.2]; exact Nat.le_refl _)
          have hbl := hI.len (by omega)
          have hb := hI.b
          have he := hI.e
          rw [hrt] at hb hbl
          rw [endsL_len] at he
          have hbE : (flatL rl).length = endF 0 rl := by rw [endF_at, Nat.zero_add]
          obtain ⟨T, hT9⟩ : ∃ T, endF 0 rl = T := ⟨_, rfl⟩
          rw [hbE, hT9] at hb hbl
          obtain ⟨ba2, bc2, e1⟩ := own_slice hb
          obtain ⟨ea2, ec2, e2⟩ := own_slice he
          have e1n : T = bn := by simp only [Value.slice.injEq] at e1; exact e1.2.1.symm
          have e2n : j = en := by simp only [Value.slice.injEq] at e2; exact e2.2.1.symm
          subst e1n
          subst e2n
          clear e1 e2
          have HB := hid hb
          have HE := hid he
          have HT9 : Hid (endF 0 rl = T ∧ rl.take j = rl) := ⟨hT9, hrt⟩
          have HG : Hid (∀ q ∈ rl, q.1 < 256 ∧ q.2.length ≤ 500) := by
            have h := hI.good
            rw [hrt] at h
            exact h
          clear hI hb he hrt hbE hT9
          obtain ⟨C2, hC2⟩ : ∃ C2, min C T = C2 := ⟨_, rfl⟩
          have hC2T : C2 ≤ T := by omega
          have HC2 := hid hC2
          have hsrc : BSrc wr (.slice ba T bc) (flatL rl) := by
            refine own_bsrc (base := w.heap.size) ?_
            have h := HB.out
            rw [← HT9.out.1, endF_at, Nat.zero_add] at h
            rw [← HT9.out.1, endF_at, Nat.zero_add]
            exact h
          have hflT : (flatL rl).length = T := by rw [← HT9.out.1, endF_at, Nat.zero_add]
          have HSr := hid hsrc
          have HFl := hid hflT
          have hjL : j ≤ 40 := by omega
          clear hsrc hflT
          by_cases hCT : T < C
          · obtain rfl : C2 = T := by omega
            clear hC2
            go_wp2_with fail
            go_loopw [11, 12] (fun s e wr2 => ∃ n : Nat, n ≤ j ∧ s = .int .i64 (n : Int) ∧ e = .int .i64 ((endF 0 (rl.take n) : Nat) : Int) ∧ endF 0 (rl.take n) ≤ C2 ∧ wr2 = wr) (fun s _ _ => j - (intOf s).toNat)
            case atStart => exact ⟨0, by omega, rfl, rfl, Nat.zero_le _, rfl⟩
            case round =>
              obtain ⟨n, hn, rfl, rfl, hen, hw2⟩ := hrel
              subst hw2
              obtain ⟨D, hD⟩ : ∃ D, endF 0 (rl.take n) = D := ⟨_, rfl⟩
              rw [hD] at hen ⊢
              have HD := hid hD
              clear hD
              by_cases hnj : n < j
              · obtain ⟨eg, ecx, ee⟩ := own_some HE.out (by omega)
                cases ee
                have hce : wr.cell? ⟨eg, n, none⟩ = some (.int .i64 ((endF 0 (rl.take (n + 1)) : Nat) : Int)) := by
                  have h := src_cells (own_src HE.out) n (.int .i64 ((endF 0 (rl.take (n + 1)) : Nat) : Int)) (by rw [List.getElem?_map, endsL_at rl hnj]; rfl)
                  rw [Nat.zero_add] at h
                  exact h
                obtain ⟨E2, hE2⟩ : ∃ E2, endF 0 (rl.take (n + 1)) = E2 := ⟨_, rfl⟩
                have HE2 := hid hE2
                rw [hE2] at hce
                have hE2l : E2 ≤ 20360 := by
                  have h1 := rows_mono rl (i := n + 1) (j := j) (by omega)
                  rw [HT9.out.2, HT9.out.1] at h1
                  omega
                clear hE2
                by_cases hle : E2 ≤ C2
                · go_wp2_with fail
                  go_roundw
                  case rel => exact ⟨n + 1, by omega, by go_num, by rw [HE2.out], by rw [HE2.out]; exact hle, trivial⟩
                  case measure => simp [intOf]; omega
                · have hstop : Hid (n < rl.length → C2 < endF 0 (rl.take (n + 1))) := fun _ => by rw [HE2.out]; omega
                  have hd7 : decide ((E2 : Int) ≤ (C2 : Int)) = false := by simp; omega
                  obtain ⟨pa, pc, hpre, hbp⟩ := HSr.out.pre (hi := C2) (by rw [HFl.out]; omega)
                  have hall := all_any wr _ ((flatL rl).take C2) hbp (by rw [List.length_take, HFl.out]; omega) (HT.out.stay HKr.out)
                  have HAl : Hid (Alls ((flatL rl).take C2) (rl.take n) D) := by
                    have h := rows_alls (l := rl) (n := n) (cut := C2) (fun q hq => ⟨(HG.out q hq).1, by have := (HG.out q hq).2; omega⟩) (by rw [HRl.out.2]; omega) (by rw [HD.out]; omega) hstop.out
                    rw [HD.out] at h
                    exact h
                  clear hbp
                  go_wp2_with fail
                  refine hall.mono ?_
                  rintro e w4 ⟨k4, u4, l', n4, rfl, hA, hR4⟩
                  obtain ⟨rfl, rfl⟩ := hA.inj HAl.out
                  have HK4 : Hid (Kept w w4) := HKr.out.trans k4 (fun _ _ f => f)
                  obtain ⟨a4, d4, e4⟩ := hR4.slice
                  have hln : (rl.take n).length = n := by rw [List.length_take, HRl.out.2]; omega
                  rw [hln] at e4
                  subst e4
                  have HR4 := hid hR4
                  clear hall hA hR4 k4 hln hpre hd7
                  go_wp2_with fail
                  go_loopw [15] (fun s wr2 => ∃ i : Nat, i ≤ n ∧ s = .int .i64 (i : Int) ∧ Kept w4 wr2) (fun s _ => n - (intOf s).toNat)
                  case atStart => exact ⟨0, by omega, rfl, Only.refl _ _⟩
                  case round =>
                    obtain ⟨i, hi, rfl, kr⟩ := hrel
                    by_cases hil : i < n
                    · have hil' : i < l.length := by rw [HL.out]; omega
                      have hilr : i < (rl.take n).length := by rw [List.length_take, HRl.out.2]; omega
                      have kd : ∀ m, Kept w4 (wr.drewN m) := fun m => kept_drewN kr m
                      have kdw : ∀ m, Kept w (wr.drewN m) := fun m => HK4.out.trans (kd m) (fun _ _ f => f)
                      obtain ⟨g4, v4, e4, c40, c41, o4⟩ := HR4.out.cell i hilr
                      cases e4
                      have hq : (rl.take n)[i] = (l[i].k.toNat, l[i].bs) := by
                        have h1 : rl[i]? = some (recP l[i]) := by rw [← HRl.out.1, List.getElem?_map, List.getElem?_eq_getElem hil']; rfl
                        have h2 : (rl.take n)[i]? = rl[i]? := by rw [List.getElem?_take, if_pos hil]
                        rw [h1, List.getElem?_eq_getElem hilr] at h2
                        exact Option.some.inj h2
                      have hpk : 0 ≤ l[i].k := HPos.out i l[i] (List.getElem?_eq_getElem hil') (by omega)
                      rw [hq] at c40 o4
                      simp only at c40 o4
                      have hcl : ∃ b0 o0, a = some ⟨b0, o0, none⟩ ∧ w.cell? ⟨b0, o0 + i * 2, none⟩ = some (.int .i64 l[i].k) ∧ w.cell? ⟨b0, o0 + i * 2 + 1, none⟩ = some l[i].v ∧ l[i].ok w := by
                        rcases HS.out with ⟨x, y, e, h0⟩ | ⟨_, b0, o0, c0, e, hc0⟩
                        · rw [h0] at hil'; simp at hil'
                        · cases e
                          exact ⟨b0, o0, rfl, hc0 i hil'⟩
                      obtain ⟨b0, o0, rfl, c50, c51, hok, hwfi⟩ := hcl
                      clear hwfi
                      generalize l[i] = ri at c40 o4 c50 c51 hok hpk
                      obtain ⟨ki, vi, bi⟩ := ri
                      simp only at c40 o4 c50 c51 hpk
                      obtain ⟨KK, rfl⟩ : ∃ KK : Nat, ki = (KK : Int) := ⟨ki.toNat, by omega⟩
                      rw [Int.toNat_natCast] at c40
                      have hbi : BSrc w vi bi := hok
                      have f40 : ∀ m, (wr.drewN m).cell? ⟨g4, i * 2, none⟩ = some (.int .i64 (KK : Int)) := fun m => kept_cell (kd m) c40
                      have f41 : ∀ m, (wr.drewN m).cell? ⟨g4, i * 2 + 1, none⟩ = some v4 := fun m => kept_cell (kd m) c41
                      have f50 : ∀ m, (wr.drewN m).cell? ⟨b0, o0 + i * 2, none⟩ = some (.int .i64 (KK : Int)) := fun m => kept_cell (kdw m) c50
                      have f51 : ∀ m, (wr.drewN m).cell? ⟨b0, o0 + i * 2 + 1, none⟩ = some vi := fun m => kept_cell (kdw m) c51
                      have q4 : ∀ m, (convert 22 9 v4).run Tryd.prog (wr.drewN m) = .ok (.string ⟨bi.toArray⟩) (wr.drewN m) := fun m => bytes_str (own_src (own_only o4 (kd m) (fun _ _ f => f)))
                      have q5 : ∀ m, (convert 22 9 vi).run Tryd.prog (wr.drewN m) = .ok (.string ⟨bi.toArray⟩) (wr.drewN m) := fun m => bytes_str (hbi.stay (kdw m)).1
                      generalize (⟨bi.toArray⟩ : ByteArray) = sB at q4 q5
                      obtain ⟨x4, y4, ev4⟩ := own_slice o4
                      obtain ⟨x5, y5, ev5⟩ := hbi.len
                      generalize bi.length = Bl at ev4 ev5
                      subst ev4
                      subst ev5
                      have KD := hid kd
                      clear c40 c41 c50 c51 o4 hok hbi hil' hilr hq kd kdw kr hpk
                      go_wp2_with fail
                      go_quiet (fail)
                      go_wp2_with fail
                      go_roundw
                      case rel => exact ⟨i + 1, by omega, by go_num, KD.out nq⟩
                      case measure => simp [intOf]; omega
                    · have HF : Hid (Kept w wr) := HK4.out.trans kr (fun _ _ f => f)
                      clear kr
                      go_wp2_with fail
                      go_ret
                      exact ⟨rfl, HF.out⟩
              · have hstop : Hid (n < rl.length → C2 < endF 0 (rl.take (n + 1))) := fun h => by rw [HRl.out.2] at h; omega
                have hd7 : decide ((n : Int) < (j : Int)) = false := by simp; omega
                obtain ⟨pa, pc, hpre, hbp⟩ := HSr.out.pre (hi := C2) (by rw [HFl.out]; omega)
                have hall := all_any wr _ ((flatL rl).take C2) hbp (by rw [List.length_take, HFl.out]; omega) (HT.out.stay HKr.out)
                have HAl : Hid (Alls ((flatL rl).take C2) (rl.take n) D) := by
                  have h := rows_alls (l := rl) (n := n) (cut := C2) (fun q hq => ⟨(HG.out q hq).1, by have := (HG.out q hq).2; omega⟩) (by rw [HRl.out.2]; omega) (by rw [HD.out]; omega) hstop.out
                  rw [HD.out] at h
                  exact h
                clear hbp
                go_wp2_with fail
                refine hall.mono ?_
                rintro e w4 ⟨k4, u4, l', n4, rfl, hA, hR4⟩
                obtain ⟨rfl, rfl⟩ := hA.inj HAl.out
                have HK4 : Hid (Kept w w4) := HKr.out.trans k4 (fun _ _ f => f)
                obtain ⟨a4, d4, e4⟩ := hR4.slice
                have hln : (rl.take n).length = n := by rw [List.length_take, HRl.out.2]; omega
                rw [hln] at e4
                subst e4
                have HR4 := hid hR4
                clear hall hA hR4 k4 hln hpre hd7
                go_wp2_with fail
                go_loopw [15] (fun s wr2 => ∃ i : Nat, i ≤ n ∧ s = .int .i64 (i : Int) ∧ Kept w4 wr2) (fun s _ => n - (intOf s).toNat)
                case atStart => exact ⟨0, by omega, rfl, Only.refl _ _⟩
                case round =>
                  obtain ⟨i, hi, rfl, kr⟩ := hrel
                  by_cases hil : i < n
                  · have hil' : i < l.length := by rw [HL.out]; omega
                    have hilr : i < (rl.take n).length := by rw [List.length_take, HRl.out.2]; omega
                    have kd : ∀ m, Kept w4 (wr.drewN m) := fun m => kept_drewN kr m
                    have kdw : ∀ m, Kept w (wr.drewN m) := fun m => HK4.out.trans (kd m) (fun _ _ f => f)
                    obtain ⟨g4, v4, e4, c40, c41, o4⟩ := HR4.out.cell i hilr
                    cases e4
                    have hq : (rl.take n)[i] = (l[i].k.toNat, l[i].bs) := by
                      have h1 : rl[i]? = some (recP l[i]) := by rw [← HRl.out.1, List.getElem?_map, List.getElem?_eq_getElem hil']; rfl
                      have h2 : (rl.take n)[i]? = rl[i]? := by rw [List.getElem?_take, if_pos hil]
                      rw [h1, List.getElem?_eq_getElem hilr] at h2
                      exact Option.some.inj h2
                    have hpk : 0 ≤ l[i].k := HPos.out i l[i] (List.getElem?_eq_getElem hil') (by omega)
                    rw [hq] at c40 o4
                    simp only at c40 o4
                    have hcl : ∃ b0 o0, a = some ⟨b0, o0, none⟩ ∧ w.cell? ⟨b0, o0 + i * 2, none⟩ = some (.int .i64 l[i].k) ∧ w.cell? ⟨b0, o0 + i * 2 + 1, none⟩ = some l[i].v ∧ l[i].ok w := by
                      rcases HS.out with ⟨x, y, e, h0⟩ | ⟨_, b0, o0, c0, e, hc0⟩
                      · rw [h0] at hil'; simp at hil'
                      · cases e
                        exact ⟨b0, o0, rfl, hc0 i hil'⟩
                    obtain ⟨b0, o0, rfl, c50, c51, hok, hwfi⟩ := hcl
                    clear hwfi
                    generalize l[i] = ri at c40 o4 c50 c51 hok hpk
                    obtain ⟨ki, vi, bi⟩ := ri
                    simp only at c40 o4 c50 c51 hpk
                    obtain ⟨KK, rfl⟩ : ∃ KK : Nat, ki = (KK : Int) := ⟨ki.toNat, by omega⟩
                    rw [Int.toNat_natCast] at c40
                    have hbi : BSrc w vi bi := hok
                    have f40 : ∀ m, (wr.drewN m).cell? ⟨g4, i * 2, none⟩ = some (.int .i64 (KK : Int)) := fun m => kept_cell (kd m) c40
                    have f41 : ∀ m, (wr.drewN m).cell? ⟨g4, i * 2 + 1, none⟩ = some v4 := fun m => kept_cell (kd m) c41
                    have f50 : ∀ m, (wr.drewN m).cell? ⟨b0, o0 + i * 2, none⟩ = some (.int .i64 (KK : Int)) := fun m => kept_cell (kdw m) c50
                    have f51 : ∀ m, (wr.drewN m).cell? ⟨b0, o0 + i * 2 + 1, none⟩ = some vi := fun m => kept_cell (kdw m) c51
                    have q4 : ∀ m, (convert 22 9 v4).run Tryd.prog (wr.drewN m) = .ok (.string ⟨bi.toArray⟩) (wr.drewN m) := fun m => bytes_str (own_src (own_only o4 (kd m) (fun _ _ f => f)))
                    have q5 : ∀ m, (convert 22 9 vi).run Tryd.prog (wr.drewN m) = .ok (.string ⟨bi.toArray⟩) (wr.drewN m) := fun m => bytes_str (hbi.stay (kdw m)).1
                    generalize (⟨bi.toArray⟩ : ByteArray) = sB at q4 q5
                    obtain ⟨x4, y4, ev4⟩ := own_slice o4
                    obtain ⟨x5, y5, ev5⟩ := hbi.len
                    generalize bi.length = Bl at ev4 ev5
                    subst ev4
                    subst ev5
                    have KD := hid kd
                    clear c40 c41 c50 c51 o4 hok hbi hil' hilr hq kd kdw kr hpk
                    go_wp2_with fail
                    go_quiet (fail)
                    go_wp2_with fail
                    go_roundw
                    case rel => exact ⟨i + 1, by omega, by go_num, KD.out nq⟩
                    case measure => simp [intOf]; omega
                  · have HF : Hid (Kept w wr) := HK4.out.trans kr (fun _ _ f => f)
                    clear kr
                    go_wp2_with fail
                    go_ret
                    exact ⟨rfl, HF.out⟩
          · obtain rfl : C2 = C := by omega
            have hd6 : decide ((T : Int) < (C2 : Int)) = false := by simp; omega
            clear hC2
            go_wp2_with fail
            go_loopw [11, 12] (fun s e wr2 => ∃ n : Nat, n ≤ j ∧ s = .int .i64 (n : Int) ∧ e = .int .i64 ((endF 0 (rl.take n) : Nat) : Int) ∧ endF 0 (rl.take n) ≤ C2 ∧ wr2 = wr) (fun s _ _ => j - (intOf s).toNat)
            case atStart => exact ⟨0, by omega, rfl, rfl, Nat.zero_le _, rfl⟩
            case round =>
              obtain ⟨n, hn, rfl, rfl, hen, hw2⟩ := hrel
              subst hw2
              obtain ⟨D, hD⟩ : ∃ D, endF 0 (rl.take n) = D := ⟨_, rfl⟩
              rw [hD] at hen ⊢
              have HD := hid hD
              clear hD
              by_cases hnj : n < j
              · obtain ⟨eg, ecx, ee⟩ := own_some HE.out (by omega)
                cases ee
                have hce : wr.cell? ⟨eg, n, none⟩ = some (.int .i64 ((endF 0 (rl.take (n + 1)) : Nat) : Int)) := by
                  have h := src_cells (own_src HE.out) n (.int .i64 ((endF 0 (rl.take (n + 1)) : Nat) : Int)) (by rw [List.getElem?_map, endsL_at rl hnj]; rfl)
                  rw [Nat.zero_add] at h
                  exact h
                obtain ⟨E2, hE2⟩ : ∃ E2, endF 0 (rl.take (n + 1)) = E2 := ⟨_, rfl⟩
                have HE2 := hid hE2
                rw [hE2] at hce
                have hE2l : E2 ≤ 20360 := by
                  have h1 := rows_mono rl (i := n + 1) (j := j) (by omega)
                  rw [HT9.out.2, HT9.out.1] at h1
                  omega
                clear hE2
                by_cases hle : E2 ≤ C2
                · go_wp2_with fail
                  go_roundw
                  case rel => exact ⟨n + 1, by omega, by go_num, by rw [HE2.out], by rw [HE2.out]; exact hle, trivial⟩
                  case measure => simp [intOf]; omega
                · have hstop : Hid (n < rl.length → C2 < endF 0 (rl.take (n + 1))) := fun _ => by rw [HE2.out]; omega
                  have hd7 : decide ((E2 : Int) ≤ (C2 : Int)) = false := by simp; omega
                  obtain ⟨pa, pc, hpre, hbp⟩ := HSr.out.pre (hi := C2) (by rw [HFl.out]; omega)
                  have hall := all_any wr _ ((flatL rl).take C2) hbp (by rw [List.length_take, HFl.out]; omega) (HT.out.stay HKr.out)
                  have HAl : Hid (Alls ((flatL rl).take C2) (rl.take n) D) := by
                    have h := rows_alls (l := rl) (n := n) (cut := C2) (fun q hq => ⟨(HG.out q hq).1, by have := (HG.out q hq).2; omega⟩) (by rw [HRl.out.2]; omega) (by rw [HD.out]; omega) hstop.out
                    rw [HD.out] at h
                    exact h
                  clear hbp
                  go_wp2_with fail
                  refine hall.mono ?_
                  rintro e w4 ⟨k4, u4, l', n4, rfl, hA, hR4⟩
                  obtain ⟨rfl, rfl⟩ := hA.inj HAl.out
                  have HK4 : Hid (Kept w w4) := HKr.out.trans k4 (fun _ _ f => f)
                  obtain ⟨a4, d4, e4⟩ := hR4.slice
                  have hln : (rl.take n).length = n := by rw [List.length_take, HRl.out.2]; omega
                  rw [hln] at e4
                  subst e4
                  have HR4 := hid hR4
                  clear hall hA hR4 k4 hln hpre hd7
                  go_wp2_with fail
                  go_loopw [15] (fun s wr2 => ∃ i : Nat, i ≤ n ∧ s = .int .i64 (i : Int) ∧ Kept w4 wr2) (fun s _ => n - (intOf s).toNat)
                  case atStart => exact ⟨0, by omega, rfl, Only.refl _ _⟩
                  case round =>
                    obtain ⟨i, hi, rfl, kr⟩ := hrel
                    by_cases hil : i < n
                    · have hil' : i < l.length := by rw [HL.out]; omega
                      have hilr : i < (rl.take n).length := by rw [List.length_take, HRl.out.2]; omega
                      have kd : ∀ m, Kept w4 (wr.drewN m) := fun m => kept_drewN kr m
                      have kdw : ∀ m, Kept w (wr.drewN m) := fun m => HK4.out.trans (kd m) (fun _ _ f => f)
                      obtain ⟨g4, v4, e4, c40, c41, o4⟩ := HR4.out.cell i hilr
                      cases e4
                      have hq : (rl.take n)[i] = (l[i].k.toNat, l[i].bs) := by
                        have h1 : rl[i]? = some (recP l[i]) := by rw [← HRl.out.1, List.getElem?_map, List.getElem?_eq_getElem hil']; rfl
                        have h2 : (rl.take n)[i]? = rl[i]? := by rw [List.getElem?_take, if_pos hil]
                        rw [h1, List.getElem?_eq_getElem hilr] at h2
                        exact Option.some.inj h2
                      have hpk : 0 ≤ l[i].k := HPos.out i l[i] (List.getElem?_eq_getElem hil') (by omega)
                      rw [hq] at c40 o4
                      simp only at c40 o4
                      have hcl : ∃ b0 o0, a = some ⟨b0, o0, none⟩ ∧ w.cell? ⟨b0, o0 + i * 2, none⟩ = some (.int .i64 l[i].k) ∧ w.cell? ⟨b0, o0 + i * 2 + 1, none⟩ = some l[i].v ∧ l[i].ok w := by
                        rcases HS.out with ⟨x, y, e, h0⟩ | ⟨_, b0, o0, c0, e, hc0⟩
                        · rw [h0] at hil'; simp at hil'
                        · cases e
                          exact ⟨b0, o0, rfl, hc0 i hil'⟩
                      obtain ⟨b0, o0, rfl, c50, c51, hok, hwfi⟩ := hcl
                      clear hwfi
                      generalize l[i] = ri at c40 o4 c50 c51 hok hpk
                      obtain ⟨ki, vi, bi⟩ := ri
                      simp only at c40 o4 c50 c51 hpk
                      obtain ⟨KK, rfl⟩ : ∃ KK : Nat, ki = (KK : Int) := ⟨ki.toNat, by omega⟩
                      rw [Int.toNat_natCast] at c40
                      have hbi : BSrc w vi bi := hok
                      have f40 : ∀ m, (wr.drewN m).cell? ⟨g4, i * 2, none⟩ = some (.int .i64 (KK : Int)) := fun m => kept_cell (kd m) c40
                      have f41 : ∀ m, (wr.drewN m).cell? ⟨g4, i * 2 + 1, none⟩ = some v4 := fun m => kept_cell (kd m) c41
                      have f50 : ∀ m, (wr.drewN m).cell? ⟨b0, o0 + i * 2, none⟩ = some (.int .i64 (KK : Int)) := fun m => kept_cell (kdw m) c50
                      have f51 : ∀ m, (wr.drewN m).cell? ⟨b0, o0 + i * 2 + 1, none⟩ = some vi := fun m => kept_cell (kdw m) c51
                      have q4 : ∀ m, (convert 22 9 v4).run Tryd.prog (wr.drewN m) = .ok (.string ⟨bi.toArray⟩) (wr.drewN m) := fun m => bytes_str (own_src (own_only o4 (kd m) (fun _ _ f => f)))
                      have q5 : ∀ m, (convert 22 9 vi).run Tryd.prog (wr.drewN m) = .ok (.string ⟨bi.toArray⟩) (wr.drewN m) := fun m => bytes_str (hbi.stay (kdw m)).1
                      generalize (⟨bi.toArray⟩ : ByteArray) = sB at q4 q5
                      obtain ⟨x4, y4, ev4⟩ := own_slice o4
                      obtain ⟨x5, y5, ev5⟩ := hbi.len
                      generalize bi.length = Bl at ev4 ev5
                      subst ev4
                      subst ev5
                      have KD := hid kd
                      clear c40 c41 c50 c51 o4 hok hbi hil' hilr hq kd kdw kr hpk
                      go_wp2_with fail
                      go_quiet (fail)
                      go_wp2_with fail
                      go_roundw
                      case rel => exact ⟨i + 1, by omega, by go_num, KD.out nq⟩
                      case measure => simp [intOf]; omega
                    · have HF : Hid (Kept w wr) := HK4.out.trans kr (fun _ _ f => f)
                      clear kr
                      go_wp2_with fail
                      go_ret
                      exact ⟨rfl, HF.out⟩
              · have hstop : Hid (n < rl.length → C2 < endF 0 (rl.take (n + 1))) := fun h => by rw [HRl.out.2] at h; omega
                have hd7 : decide ((n : Int) < (j : Int)) = false := by simp; omega
                obtain ⟨pa, pc, hpre, hbp⟩ := HSr.out.pre (hi := C2) (by rw [HFl.out]; omega)
                have hall := all_any wr _ ((flatL rl).take C2) hbp (by rw [List.length_take, HFl.out]; omega) (HT.out.stay HKr.out)
                have HAl : Hid (Alls ((flatL rl).take C2) (rl.take n) D) := by
                  have h := rows_alls (l := rl) (n := n) (cut := C2) (fun q hq => ⟨(HG.out q hq).1, by have := (HG.out q hq).2; omega⟩) (by rw [HRl.out.2]; omega) (by rw [HD.out]; omega) hstop.out
                  rw [HD.out] at h
                  exact h
                clear hbp
                go_wp2_with fail
                refine hall.mono ?_
                rintro e w4 ⟨k4, u4, l', n4, rfl, hA, hR4⟩
                obtain ⟨rfl, rfl⟩ := hA.inj HAl.out
                have HK4 : Hid (Kept w w4) := HKr.out.trans k4 (fun _ _ f => f)
                obtain ⟨a4, d4, e4⟩ := hR4.slice
                have hln : (rl.take n).length = n := by rw [List.length_take, HRl.out.2]; omega
                rw [hln] at e4
                subst e4
                have HR4 := hid hR4
                clear hall hA hR4 k4 hln hpre hd7
                go_wp2_with fail
                go_loopw [15] (fun s wr2 => ∃ i : Nat, i ≤ n ∧ s = .int .i64 (i : Int) ∧ Kept w4 wr2) (fun s _ => n - (intOf s).toNat)
                case atStart => exact ⟨0, by omega, rfl, Only.refl _ _⟩
                case round =>
                  obtain ⟨i, hi, rfl, kr⟩ := hrel
                  by_cases hil : i < n
                  · have hil' : i < l.length := by rw [HL.out]; omega
                    have hilr : i < (rl.take n).length := by rw [List.length_take, HRl.out.2]; omega
                    have kd : ∀ m, Kept w4 (wr.drewN m) := fun m => kept_drewN kr m
                    have kdw : ∀ m, Kept w (wr.drewN m) := fun m => HK4.out.trans (kd m) (fun _ _ f => f)
                    obtain ⟨g4, v4, e4, c40, c41, o4⟩ := HR4.out.cell i hilr
                    cases e4
                    have hq : (rl.take n)[i] = (l[i].k.toNat, l[i].bs) := by
                      have h1 : rl[i]? = some (recP l[i]) := by rw [← HRl.out.1, List.getElem?_map, List.getElem?_eq_getElem hil']; rfl
                      have h2 : (rl.take n)[i]? = rl[i]? := by rw [List.getElem?_take, if_pos hil]
                      rw [h1, List.getElem?_eq_getElem hilr] at h2
                      exact Option.some.inj h2
                    have hpk : 0 ≤ l[i].k := HPos.out i l[i] (List.getElem?_eq_getElem hil') (by omega)
                    rw [hq] at c40 o4
                    simp only at c40 o4
                    have hcl : ∃ b0 o0, a = some ⟨b0, o0, none⟩ ∧ w.cell? ⟨b0, o0 + i * 2, none⟩ = some (.int .i64 l[i].k) ∧ w.cell? ⟨b0, o0 + i * 2 + 1, none⟩ = some l[i].v ∧ l[i].ok w := by
                      rcases HS.out with ⟨x, y, e, h0⟩ | ⟨_, b0, o0, c0, e, hc0⟩
                      · rw [h0] at hil'; simp at hil'
                      · cases e
                        exact ⟨b0, o0, rfl, hc0 i hil'⟩
                    obtain ⟨b0, o0, rfl, c50, c51, hok, hwfi⟩ := hcl
                    clear hwfi
                    generalize l[i] = ri at c40 o4 c50 c51 hok hpk
                    obtain ⟨ki, vi, bi⟩ := ri
                    simp only at c40 o4 c50 c51 hpk
                    obtain ⟨KK, rfl⟩ : ∃ KK : Nat, ki = (KK : Int) := ⟨ki.toNat, by omega⟩
                    rw [Int.toNat_natCast] at c40
                    have hbi : BSrc w vi bi := hok
                    have f40 : ∀ m, (wr.drewN m).cell? ⟨g4, i * 2, none⟩ = some (.int .i64 (KK : Int)) := fun m => kept_cell (kd m) c40
                    have f41 : ∀ m, (wr.drewN m).cell? ⟨g4, i * 2 + 1, none⟩ = some v4 := fun m => kept_cell (kd m) c41
                    have f50 : ∀ m, (wr.drewN m).cell? ⟨b0, o0 + i * 2, none⟩ = some (.int .i64 (KK : Int)) := fun m => kept_cell (kdw m) c50
                    have f51 : ∀ m, (wr.drewN m).cell? ⟨b0, o0 + i * 2 + 1, none⟩ = some vi := fun m => kept_cell (kdw m) c51
                    have q4 : ∀ m, (convert 22 9 v4).run Tryd.prog (wr.drewN m) = .ok (.string ⟨bi.toArray⟩) (wr.drewN m) := fun m => bytes_str (own_src (own_only o4 (kd m) (fun _ _ f => f)))
                    have q5 : ∀ m, (convert 22 9 vi).run Tryd.prog (wr.drewN m) = .ok (.string ⟨bi.toArray⟩) (wr.drewN m) := fun m => bytes_str (hbi.stay (kdw m)).1
                    generalize (⟨bi.toArray⟩ : ByteArray) = sB at q4 q5
                    obtain ⟨x4, y4, ev4⟩ := own_slice o4
                    obtain ⟨x5, y5, ev5⟩ := hbi.len
                    generalize bi.length = Bl at ev4 ev5
                    subst ev4
                    subst ev5
                    have KD := hid kd
                    clear c40 c41 c50 c51 o4 hok hbi hil' hilr hq kd kdw kr hpk
                    go_wp2_with fail
                    go_quiet (fail)
                    go_wp2_with fail
                    go_roundw
                    case rel => exact ⟨i + 1, by omega, by go_num, KD.out nq⟩
                    case measure => simp [intOf]; omega
                  · have HF : Hid (Kept w wr) := HK4.out.trans kr (fun _ _ f => f)
                    clear kr
                    go_wp2_with fail
                    go_ret
                    exact ⟨rfl, HF.out⟩
end Go.Proofs.YtjohnomlhcncnaaDoor.G
