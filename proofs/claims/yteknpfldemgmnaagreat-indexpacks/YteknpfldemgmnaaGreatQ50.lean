/-
  Xun2, Xback, Xok, Xrtx.
-/
import Derived.Test.YteknpfldemgmnaaGreatQ48
import Derived.Test.YteknpfldemgmnaaGreatQ49
import Derived.Test.YteknpfldemgmnaaGreatQ40

/-
  Unpack.
-/
namespace Go.Proofs.YteknpfldemgmnaaGreat.X
open Go.RowKit Go.Proofs.Lys Go.Maps Go.Proofs.YteknpfldemgmnaaGreat.N
set_option linter.unusedVariables false
set_option linter.unusedSimpArgs false

/-- The series of which bytes are the packing. -/
def UnI (bs : List UInt8) (L : List Labs) : Prop := readI bs = some L ∧ checkI L = 0 ∧ packI L.length (postsOf L) = bs
def UnP (w : World) (bs : List UInt8) (e : Ending) (w' : World) : Prop :=
  ((∃ L x, UnI bs L ∧ e = .returned (.tuple #[.pointer (some ⟨x.xb, 0, none⟩), .int .i64 0]) ∧ Made_ w L x w') ∨ ((∀ L, ¬ UnI bs L) ∧ e = .returned (.tuple #[.pointer none, .int .i64 5]))) ∧ Kept w w'
/-- What Pack wants of posts. -/
def PkOk (L : List Labs) : Prop := (postsOf L).length ≤ 20000 ∧ (∀ p ∈ postsOf L, p.2.length ≤ 1000 ∧ Po.upB (-1) p.2 = true ∧ p.1.1.size ≤ 64 ∧ p.1.2.size ≤ 64) ∧ (packI L.length (postsOf L)).length ≤ 900000

theorem two_set {w : World} {p q : Nat} {x0 y0 : Value} {tp tq : TypeId} (hp : Blk w p [x0] tp) (hq : Blk w q [y0] tq) (hne : p ≠ q) (x y : Value) :
    Blk ((w.setCell ⟨p, 0, none⟩ x).setCell ⟨q, 0, none⟩ y) p [x] tp ∧ Blk ((w.setCell ⟨p, 0, none⟩ x).setCell ⟨q, 0, none⟩ y) q [y] tq ∧ Only (fun j => j = p ∨ j = q) w ((w.setCell ⟨p, 0, none⟩ x).setCell ⟨q, 0, none⟩ y) :=
  ⟨(hp.set 0 x).other (a := ⟨q, 0, none⟩) hne _, (hq.other (a := ⟨p, 0, none⟩) (fun e => hne e.symm) x).set 0 y, ((Only.refl (fun k => k = p ∨ k = q) w).setCell (p := ⟨p, 0, none⟩) (fun _ => .inl rfl) _).setCell (p := ⟨q, 0, none⟩) (fun _ => .inr rfl) _⟩
set_option maxRecDepth 100000 in
set_option maxHeartbeats 6400000 in
theorem unpack_ix (w : World) (v : Value) (bs : List UInt8) (hs : Po.BSrc w v bs) (hl : bs.length ≤ 300000) (hrk : ∀ L, readI bs = some L → L.length ≤ 1000 ∧ OkS L) (hok : ∀ L, readI bs = some L → checkI L = 0 → PkOk L) :
    Calls Tryz.prog 11 #[v] w (UnP w bs) := by
  have hmf : ∀ (fn : Fn) (first cap : Array Value) (w : World), (Instr.makeFunc fn first cap).run Tryz.prog w = .ok (.func fn first cap) w := fun _ _ _ _ => rfl
  have HR := hid (fun W => refuse_no 5 W)
  have HY := hid (fun W => refuse_yes 5 W)
  obtain ⟨w0, hw0⟩ : ∃ w0, w0 = (w.alloc (.cells #[.pointer none] 26)).alloc (.cells #[.int .i64 0] 27) := ⟨_, rfl⟩
  have k0 : Kept w w0 := by rw [hw0]; exact ((Only.refl _ w).alloc _).alloc _
  have bp : Blk w0 w.heap.size [.pointer none] 26 := by rw [hw0]; exact (Blk.new w _ _).alloc _
  have bq : Blk w0 (w.heap.size + 1) [.int .i64 0] 27 := by
    rw [hw0]
    have := Blk.new (w.alloc (.cells #[.pointer none] 26)) [.int .i64 0] 27
    simpa using this
  have HRX := hid (read_ix w0 v bs (hs.stay k0) hl)
  have HFAIL : Hid (∀ (w1 : World) (x : Value) (y : Int), (∀ L, ¬ UnI bs L) → Kept w w1 → Blk w1 w.heap.size [x] 26 → Blk w1 (w.heap.size + 1) [.int .i64 y] 27 → True) := fun _ _ _ _ _ _ _ => trivial
  obtain ⟨a, c, rfl, _⟩ := hs.2
  have HS := hid hs
  have HK0 := hid k0
  have HP := hid bp
  have HQ := hid bq
  have HOK := hid hok
  have HRK := hid hrk
  obtain ⟨M, hM⟩ : ∃ M, bs.length = M := ⟨_, rfl⟩
  rw [hM] at HRX HS hl ⊢
  clear hs k0 bp bq hok hrk HFAIL
  go_enter_defers Tryz.func11, Tryz.ntmps11
  go_wp2_with fail
  rw [← hw0]
  clear hw0
  refine HRX.out.mono ?_
  intro e w1 h1
  obtain ⟨hno, rfl, k1⟩ | ⟨v1, vs, L, hr, rfl, hown, k1⟩ := h1
  · have HP1 := hid (Only.blk k1 HP.out (fun f => f))
    have HQ1 := hid (Only.blk k1 HQ.out (fun f => f))
    have HK1 := hid (HK0.out.trans k1 (fun _ _ f => f))
    have HN : Hid (∀ L, ¬ UnI bs L) := hid (fun L h => by rw [h.1] at hno; cases hno)
    refine leaves_cons (f := 31) (args := #[.pointer (some ⟨w.heap.size, 0, none⟩), .pointer (some ⟨w.heap.size + 1, 0, none⟩)]) (by simp) (by simp [go_sem]) ?_
    refine (unUp _ _ _ 0 5 _ HP1.out HQ1.out).mono ?_
    rintro e u' w'' ⟨rfl, rfl, hk2, hp2, hq2⟩
    have hp3 := hp2.cell 0 rfl
    have hq3 := hq2.cell 0 rfl
    simp [Leaves, settle, results, Tryz.results11, go_sem, hp3, hq3]
    exact ⟨.inr ⟨HN.out, rfl⟩, HK1.out.trans hk2 (fun j hj e => by omega)⟩
  · have hrk := HRK.out L hr
    have HMK := hid (make_ix w1 v1 L hown.src (by have := hrk.1; omega) hrk.2)
    have HP1 := hid (Only.blk k1 HP.out (fun f => f))
    have HQ1 := hid (Only.blk k1 HQ.out (fun f => f))
    have HK1 := hid (HK0.out.trans k1 (fun _ _ f => f))
    have HRI := hid hr
    clear hown k1 hr HP HQ HRX
    go_wp2_with fail
    refine HMK.out.mono ?_
    rintro e w2 ⟨hA, k2⟩
    have HP2 := hid (Only.blk k2 HP1.out (fun f => f))
    have HQ2 := hid (Only.blk k2 HQ1.out (fun f => f))
    have HK2 := hid (HK1.out.trans k2 (fun _ _ f => f))
    have c0 := HP2.out.cell 0 rfl
    have f0 := HP2.out.frozen 0
    rcases hA with ⟨hc, x, rfl, hmd⟩ | ⟨hc, rfl⟩
    · have d0 := (HQ2.out.other (a := ⟨w.heap.size, 0, none⟩) (by show w.heap.size + 1 ≠ w.heap.size; omega) (.pointer (some ⟨x.xb, 0, none⟩))).cell 0 rfl
      have g0 := (HQ2.out.other (a := ⟨w.heap.size, 0, none⟩) (by show w.heap.size + 1 ≠ w.heap.size; omega) (.pointer (some ⟨x.xb, 0, none⟩))).frozen 0
      obtain ⟨t1, t2, t3⟩ := two_set HP2.out HQ2.out (by omega) (.pointer (some ⟨x.xb, 0, none⟩)) (.int .i64 0)
      obtain ⟨w3, hw3⟩ : ∃ w3, ((w2.setCell ⟨w.heap.size, 0, none⟩ (.pointer (some ⟨x.xb, 0, none⟩))).setCell ⟨w.heap.size + 1, 0, none⟩ (.int .i64 0)) = w3 := ⟨_, rfl⟩
      have hlt1 := HQ1.out.lt
      have hat3 := hmd.at_.only t3 (fun j hj e => by omega)
      have hpk := HOK.out L HRI.out hc
      have HPK := hid (pack_ix hat3 hmd.is hpk.1 hpk.2.1 (by rw [hmd.n]; exact hpk.2.2))
      have HP3 := hid t1
      have HQ3 := hid t2
      have HK3 := hid (HK2.out.trans t3 (fun j hj e => by omega))
      have HAT := hid hat3
      have HMD := hid hmd
      have HC := hid hc
      have ht3s := t3.size
      rw [hw3] at HPK HP3 HQ3 HK3 HAT ht3s
      have e0 := HP3.out.cell 0 rfl
      have e1 := HQ3.out.cell 0 rfl
      clear t1 t2 t3 hat3 hpk hmd hc
      go_wp2_with fail
      refine (HR.out w3).mono ?_
      rintro e w' ⟨rfl, hw⟩
      replace hw := hw.symm
      subst hw
      clear c0 f0 d0 g0 hw3 HP1 HQ1 HP2 HQ2 HMK
      go_wp2_with fail
      refine HPK.out.mono ?_
      rintro e w4 ⟨vB, rfl, hby, k4⟩
      have HP4 := hid (Only.blk k4 HP3.out (fun f => f))
      have HQ4 := hid (Only.blk k4 HQ3.out (fun f => f))
      have HK4 := hid (HK3.out.trans k4 (fun _ _ f => f))
      have HAT4 := hid (HAT.out.only k4 (fun _ _ f => f))
      have hsrc := HS.out.1.stay HK4.out
      have HEQ := hid (beq_any (own_src hby) hsrc)
      have c4 := HP4.out.cell 0 rfl
      have f4 := HP4.out.frozen 0
      have hs4 := k4.size
      clear hby k4 hsrc HPK e0 e1 HP3 HQ3 HAT
      go_wp2_with fail
      refine HEQ.out.mono ?_
      rintro e w' ⟨hw, hab⟩
      replace hw := hw.symm
      subst hw
      obtain ⟨hab, rfl⟩ | ⟨hab, rfl⟩ := hab
      · have HU : Hid (UnI bs L) := hid ⟨HRI.out, HC.out, by rw [← HMD.out.n]; exact hab⟩
        have d4 := (HQ4.out.other (a := ⟨w.heap.size, 0, none⟩) (by show w.heap.size + 1 ≠ w.heap.size; omega) (.pointer (some ⟨x.xb, 0, none⟩))).cell 0 rfl
        have g4 := (HQ4.out.other (a := ⟨w.heap.size, 0, none⟩) (by show w.heap.size + 1 ≠ w.heap.size; omega) (.pointer (some ⟨x.xb, 0, none⟩))).frozen 0
        obtain ⟨t1, t2, t3⟩ := two_set HP4.out HQ4.out (by omega) (.pointer (some ⟨x.xb, 0, none⟩)) (.int .i64 0)
        have HE := hid (And.intro t1 (And.intro t2 t3))
        clear t1 t2 t3 hab HEQ
        go_wp2_with fail
        refine (HR.out w4).mono ?_
        rintro e w' ⟨rfl, hw⟩
        replace hw := hw.symm
        subst hw
        go_wp2_with fail
        refine leaves_cons (f := 31) (args := #[.pointer (some ⟨w.heap.size, 0, none⟩), .pointer (some ⟨w.heap.size + 1, 0, none⟩)]) (by simp) (by simp [go_sem]) ?_
        refine (unNo _ _ _).mono ?_
        rintro e u' w'' ⟨rfl, rfl, rfl⟩
        have hp3 := HE.out.1.cell 0 rfl
        have hq3 := HE.out.2.1.cell 0 rfl
        have hO := HE.out.2.2
        have hsz := hO.size
        have hat := (HAT4.out.only hO (fun j hj e => by omega)).weak (O' := fun j => w.heap.size ≤ j ∧ j < ((w4.setCell ⟨w.heap.size, 0, none⟩ (.pointer (some ⟨x.xb, 0, none⟩))).setCell ⟨w.heap.size + 1, 0, none⟩ (.int .i64 0)).heap.size) (fun j hj => ⟨by omega, by omega⟩) (fun j hj => hj.2)
        have hkk := HK4.out.trans hO (fun j hj e => by omega)
        simp [Leaves, settle, results, Tryz.results11, go_sem, hp3, hq3]
        exact ⟨.inl ⟨L, x, HU.out, rfl, ⟨hat, HMD.out.is, HMD.out.bd, HMD.out.n⟩⟩, hkk⟩
      · have HN : Hid (∀ L, ¬ UnI bs L) := hid (fun L' h => by
          have h1 := h.1
          rw [HRI.out] at h1
          cases h1
          exact hab (by rw [HMD.out.n]; exact h.2.2))
        clear hab HEQ
        go_wp2_with fail
        refine (HY.out w4).mono ?_
        rintro e w' ⟨rfl, hw⟩
        replace hw := hw.symm
        subst hw
        refine leaves_cons (f := 31) (args := #[.pointer (some ⟨w.heap.size, 0, none⟩), .pointer (some ⟨w.heap.size + 1, 0, none⟩)]) (by simp) (by simp [go_sem]) ?_
        refine (unUp _ _ _ 0 5 _ HP4.out HQ4.out).mono ?_
        rintro e u' w'' ⟨rfl, rfl, hk2, hp2, hq2⟩
        have hp3 := hp2.cell 0 rfl
        have hq3 := hq2.cell 0 rfl
        simp [Leaves, settle, results, Tryz.results11, go_sem, hp3, hq3]
        exact ⟨.inr ⟨HN.out, rfl⟩, HK4.out.trans hk2 (fun j hj e => by omega)⟩
    · have d0 := (HQ2.out.other (a := ⟨w.heap.size, 0, none⟩) (by show w.heap.size + 1 ≠ w.heap.size; omega) (.pointer none)).cell 0 rfl
      have g0 := (HQ2.out.other (a := ⟨w.heap.size, 0, none⟩) (by show w.heap.size + 1 ≠ w.heap.size; omega) (.pointer none)).frozen 0
      generalize hck : checkI L = ck at hc
      have dck : (ck == 0) = false := by simpa using hc
      have dck2 : (ck != 0) = true := by simpa using hc
      have HN : Hid (∀ L, ¬ UnI bs L) := hid (fun L' h => by
        have h1 := h.1
        rw [HRI.out] at h1
        cases h1
        have := h.2.1
        rw [hck] at this
        exact hc this)
      obtain ⟨t1, t2, t3⟩ := two_set HP2.out HQ2.out (by omega) (.pointer none) (.int .i64 ck)
      have HP3 := hid t1
      have HQ3 := hid t2
      have HK3 := hid (HK2.out.trans t3 (fun j hj e => by omega))
      clear t1 t2 t3
      go_wp2_with fail
      refine (HY.out _).mono ?_
      rintro e w' ⟨rfl, hw⟩
      replace hw := hw.symm
      subst hw
      refine leaves_cons (f := 31) (args := #[.pointer (some ⟨w.heap.size, 0, none⟩), .pointer (some ⟨w.heap.size + 1, 0, none⟩)]) (by simp) (by simp [go_sem]) ?_
      refine (unUp _ _ _ ck 5 _ HP3.out HQ3.out).mono ?_
      rintro e u' w'' ⟨rfl, rfl, hk2, hp2, hq2⟩
      have hp3 := hp2.cell 0 rfl
      have hq3 := hq2.cell 0 rfl
      simp [Leaves, settle, results, Tryz.results11, go_sem, hp3, hq3]
      exact ⟨.inr ⟨HN.out, rfl⟩, HK3.out.trans hk2 (fun j hj e => by omega)⟩
end Go.Proofs.YteknpfldemgmnaaGreat.X

/-
  What was packed, read again: in plain words.
-/
namespace Go.Proofs.YteknpfldemgmnaaGreat.X
open Go.RowKit Go.Proofs.Lys Go.Maps Go.Proofs.YteknpfldemgmnaaGreat.N
set_option linter.unusedVariables false
set_option linter.unusedSimpArgs false

theorem uN_nat {n : Nat} (h : n < 9223372036854775808) : U.uN (n : Int) = n := by
  unfold U.uN
  omega
theorem numR_put {n : Nat} (h : n < 9223372036854775808) (more : List UInt8) : numR (putN (U.uN (n : Int)) ++ more) = some (n, (putN (U.uN (n : Int))).length) := by
  rw [uN_nat h]
  unfold numR
  rw [get_put0 (by omega) more]
  simp [h]
theorem txtR_put (s : ByteArray) (h : s.size ≤ 100000) (more : List UInt8) : txtR (putN (U.uN (s.size : Int)) ++ s.data.toList ++ more) = some (s.data.toList, more) := by
  unfold txtR
  rw [List.append_assoc, numR_put (by omega)]
  simp only
  have hl : s.data.toList.length = s.size := rfl
  rw [List.drop_left, if_pos (by rw [List.length_append, hl]; omega), ← hl, List.take_left, List.drop_left]
theorem rdA_gap (more : List UInt8) : ∀ (l : List Int) (last : Int) (acc : List Int) (at_ : Nat), -1 ≤ last → Po.upB last l = true → Po.rdA l.length last acc at_ (Po.gapB last l ++ more) = some (acc ++ l, at_ + (Po.gapB last l).length) := by
  intro l
  induction l with
  | nil => intro last acc at_ _ _; simp [Po.rdA, Po.gapB]
  | cons x t ih =>
    intro last acc at_ h0 h
    obtain ⟨h1, h2, h3⟩ := Po.up_cons.1 h
    obtain ⟨d, hd⟩ : ∃ d : Nat, x - last - 1 = (d : Int) := ⟨(x - last - 1).toNat, by omega⟩
    rw [Po.gapB, hd, uN_nat (by omega), List.append_assoc, List.length_cons, Po.rd_go (Po.num_put (by omega) _) (by omega), List.drop_left, show last + (d : Int) + 1 = x by omega, ih x _ _ (by omega) h3, List.length_append]
    simp [Nat.add_assoc]
theorem readR_pack {l : List Int} (h : l.length ≤ 10000) (hu : Po.upB (-1) l = true) (more : List UInt8) : Po.readR (Po.packL l ++ more) = some (l, (Po.packL l).length) := by
  unfold Po.readR Po.packL
  rw [List.append_assoc, uN_nat (by omega), Po.num_put (by omega)]
  simp only
  rw [if_pos h, List.drop_left, rdA_gap more l (-1) [] _ (by omega) hu, List.length_append]
  rfl
theorem mkB_back (s : ByteArray) : mkB s.data.toList = s := by
  simp [mkB]
/-- Posts, put one behind the other. -/
def putP : Posts → List Labs → Option (List Labs)
  | [], L => some L
  | p :: r, L => match putL p.1 p.2 L with
    | none => none
    | some L2 => putP r L2
theorem rdM_pack : ∀ (P : Posts) (L : List Labs), (∀ p ∈ P, p.2.length ≤ 1000 ∧ Po.upB (-1) p.2 = true ∧ p.1.1.size ≤ 64 ∧ p.1.2.size ≤ 64) → rdM P.length L (P.flatMap oneP) = putP P L
  | [], L, _ => rfl
  | p :: r, L, h => by
    obtain ⟨⟨s, t⟩, l⟩ := p
    obtain ⟨h1, h2, h3, h4⟩ := h _ (List.mem_cons_self ..)
    replace h1 : l.length ≤ 1000 := h1
    replace h2 : Po.upB (-1) l = true := h2
    replace h3 : s.size ≤ 64 := h3
    replace h4 : t.size ≤ 64 := h4
    have e : ((((s, t), l) : Post) :: r).flatMap oneP = putN (U.uN (s.size : Int)) ++ s.data.toList ++ (putN (U.uN (t.size : Int)) ++ t.data.toList ++ (Po.packL l ++ r.flatMap oneP)) := by
      simp [oneP]
    rw [e, List.length_cons, rdM, txtR_put s (by omega)]
    simp only
    rw [txtR_put t (by omega)]
    simp only
    rw [readR_pack (by omega) h2]
    simp only
    rw [mkB_back, mkB_back, putP]
    simp only
    cases hp : putL (s, t) l L with
    | none => rfl
    | some L2 =>
      simp only
      rw [List.drop_left]
      exact rdM_pack r L2 (fun q hq => h q (List.mem_cons_of_mem _ hq))
theorem readI_pack {n : Nat} {P : Posts} (hn : n ≤ 1000) (hP : P.length ≤ 20000) (h : ∀ p ∈ P, p.2.length ≤ 1000 ∧ Po.upB (-1) p.2 = true ∧ p.1.1.size ≤ 64 ∧ p.1.2.size ≤ 64) : readI (packI n P) = putP P (List.replicate n []) := by
  unfold readI packI
  rw [List.append_assoc, numR_put (by omega)]
  simp only
  rw [if_neg (by omega), List.drop_left, numR_put (by omega)]
  simp only
  rw [List.drop_left]
  exact rdM_pack P _ h
/-- A label put to many series: to each that is told, once. -/
theorem putL_at (y : Lab) : ∀ (l : List Int) (X : List Labs), l.Nodup → (∀ x ∈ l, 0 ≤ x ∧ x < (X.length : Int)) → ∃ X2, putL y l X = some X2 ∧ X2.length = X.length ∧ ∀ i (h : i < X.length) (h2 : i < X2.length), X2[i] = X[i] ++ (if (i : Int) ∈ l then [y] else [])
  | [], X, _, _ => ⟨X, rfl, rfl, fun i h h2 => by simp⟩
  | a :: r, X, hn, hb => by
    obtain ⟨ha0, ha1⟩ := hb a (List.mem_cons_self ..)
    obtain ⟨n, rfl⟩ : ∃ n : Nat, a = (n : Int) := ⟨a.toNat, by omega⟩
    have hnX : n < X.length := by omega
    have hn2 := List.nodup_cons.1 hn
    obtain ⟨X2, e1, e2, e3⟩ := putL_at y r (putAt X n y) hn2.2 (fun x hx => by rw [putAt_len]; exact hb x (List.mem_cons_of_mem _ hx))
    rw [putAt_len] at e2
    refine ⟨X2, by rw [putL, if_pos ha1]; exact e1, e2, fun i h h2 => ?_⟩
    rw [e3 i (by rw [putAt_len]; exact h) h2]
    by_cases hin : i = n
    · subst hin
      have g : (putAt X i y)[i]'(by rw [putAt_len]; exact h) = X[i] ++ [y] := by
        simp [putAt_eq h]
      rw [g, if_neg hn2.1, if_pos (List.mem_cons_self ..), List.append_nil]
    · have g : (putAt X n y)[i]'(by rw [putAt_len]; exact h) = X[i] := by
        simp only [putAt_eq hnX]
        rw [List.getElem_set, if_neg (fun e => hin e.symm)]
      rw [g]
      by_cases hr : (i : Int) ∈ r
      · rw [if_pos hr, if_pos (List.mem_cons_of_mem _ hr)]
      · rw [if_neg hr, if_neg (fun e => by
          rcases List.mem_cons.1 e with e | e
          · exact hin (by omega)
          · exact hr e)]
/-- Posts that are put: each series gets the labels of the posts that tell it, in their order. -/
theorem putP_back : ∀ (P : Posts) (X L : List Labs), X.length = L.length → (∀ p ∈ P, Po.upB (-1) p.2 = true) → (∀ p ∈ P, ∀ v ∈ p.2, v < (X.length : Int)) →
    (∀ i (h : i < X.length) (h2 : i < L.length), L[i] = X[i] ++ (P.filter (fun p => decide ((i : Int) ∈ p.2))).map (·.1)) → putP P X = some L
  | [], X, L, hl, _, _, h => by
    rw [putP]
    congr 1
    exact List.ext_getElem hl (fun i h1 h2 => by rw [h i h1 h2]; simp)
  | p :: r, X, L, hl, hu, hb, h => by
    have hup := hu p (List.mem_cons_self ..)
    obtain ⟨X2, e1, e2, e3⟩ := putL_at p.1 p.2 X (up_nodup hup) (fun x hx => ⟨by have := (Po.up_mem hup hx).1; omega, hb p (List.mem_cons_self ..) x hx⟩)
    rw [putP, e1]
    simp only
    refine putP_back r X2 L (by rw [e2, hl]) (fun q hq => hu q (List.mem_cons_of_mem _ hq)) (fun q hq => by rw [e2]; exact hb q (List.mem_cons_of_mem _ hq)) (fun i h1 h2 => ?_)
    rw [h i (by rw [← e2]; exact h1) h2, e3 i (by rw [← e2]; exact h1) h1, List.filter_cons]
    by_cases hi : (i : Int) ∈ p.2
    · simp [hi]
    · simp [hi]
theorem lt_ext : ∀ (a b : Labs), a.Pairwise (fun x y => labC x y = -1) → b.Pairwise (fun x y => labC x y = -1) → (∀ x, x ∈ a ↔ x ∈ b) → a = b
  | [], [], _, _, _ => rfl
  | [], y :: b, _, _, h => by cases (h y).2 (List.mem_cons_self ..)
  | x :: a, [], _, _, h => by cases (h x).1 (List.mem_cons_self ..)
  | x :: a, y :: b, ha, hb, h => by
    obtain ⟨a1, a2⟩ := List.pairwise_cons.1 ha
    obtain ⟨b1, b2⟩ := List.pairwise_cons.1 hb
    have hxy : x = y := by
      rcases List.mem_cons.1 ((h x).1 (List.mem_cons_self ..)) with e | e
      · exact e
      · rcases List.mem_cons.1 ((h y).2 (List.mem_cons_self ..)) with g | g
        · exact g.symm
        · have h1 := b1 x e
          have h2 := a1 y g
          have := labC_good.anti x y
          omega
    subst hxy
    rw [lt_ext a b a2 b2 (fun z => ⟨fun hz => ?_, fun hz => ?_⟩)]
    · rcases List.mem_cons.1 ((h z).1 (List.mem_cons_of_mem _ hz)) with e | e
      · subst e; exact absurd (a1 _ hz) (labC_irr _)
      · exact e
    · rcases List.mem_cons.1 ((h z).2 (List.mem_cons_of_mem _ hz)) with e | e
      · subst e; exact absurd (b1 _ hz) (labC_irr _)
      · exact e
theorem rise_lab {l : Labs} (h : Rise l) : l.Pairwise (fun x y => labC x y = -1) := by
  refine List.Pairwise.imp (fun {x y} e => ?_) h
  unfold labC
  simp [e]
/-- The posts of series, put, are the series. -/
theorem putP_posts (L : List Labs) (hM : ∀ l ∈ L, Rise l) (hl : L.length < 1000000) : putP (postsOf L) (List.replicate L.length []) = some L := by
  have T := posts_tells L hM hl
  refine putP_back _ _ _ (by rw [List.length_replicate]) T.up (fun p hp v hv => by rw [List.length_replicate]; exact T.lt p hp v hv) (fun i h1 h2 => ?_)
  rw [List.getElem_replicate, List.nil_append]
  refine lt_ext _ _ (rise_lab (hM _ (List.getElem_mem h2))) ?_ (fun x => ?_)
  · rw [List.pairwise_map]
    exact T.sort.filter _
  · have hit := T.iff x i
    constructor
    · intro hx
      have hin := hit.2 ⟨L[i], List.getElem?_eq_getElem h2, hx⟩
      obtain ⟨p, hp, e1, e2⟩ := look_mem hin
      rw [e2] at hin
      exact List.mem_map.2 ⟨p, List.mem_filter.2 ⟨hp, decide_eq_true hin⟩, e1⟩
    · intro hx
      obtain ⟨p, hp, e1⟩ := List.mem_map.1 hx
      obtain ⟨hp1, hp2⟩ := List.mem_filter.1 hp
      have hlk : lookP (postsOf L) x = p.2 := look_sorted T.sort (by rw [← e1]; exact hp1)
      obtain ⟨l, g1, g2⟩ := hit.1 (by rw [hlk]; exact of_decide_eq_true hp2)
      rw [List.getElem?_eq_getElem h2] at g1
      cases g1
      exact g2
/-- What was packed of good series is read as those. -/
theorem readI_posts {L : List Labs} (hM : ∀ l ∈ L, Rise l) (hl : L.length ≤ 1000) (hP : PkOk L) : readI (packI L.length (postsOf L)) = some L := by
  rw [readI_pack hl hP.1 hP.2.1]
  exact putP_posts L hM (by omega)
end Go.Proofs.YteknpfldemgmnaaGreat.X

/-
  What was read out of few bytes can be packed; the document's own reader of an index: in plain words.
-/
namespace Go.Proofs.YteknpfldemgmnaaGreat.X
open Go.RowKit Go.Proofs.Lys Go.Maps Go.Proofs.YteknpfldemgmnaaGreat.N
set_option linter.unusedVariables false
set_option linter.unusedSimpArgs false

theorem up_len : ∀ (l : List Int) (last N : Int), Po.upB last l = true → (∀ v ∈ l, v < N) → last < N → (l.length : Int) ≤ N - last - 1
  | [], last, N, _, _, h => by simp; omega
  | a :: t, last, N, h, hb, h0 => by
    obtain ⟨h1, h2, h3⟩ := Po.up_cons.1 h
    have ha := hb a (List.mem_cons_self ..)
    have := up_len t a N h3 (fun v hv => hb v (List.mem_cons_of_mem _ hv)) ha
    rw [List.length_cons]
    omega
theorem addF_sum : ∀ (L : List Labs) (P : Posts) (i : Nat), ((addF P i L).flatMap (·.2)).length = (P.flatMap (·.2)).length + sumN L
  | [], P, i => rfl
  | l :: r, P, i => by
    rw [addF, addF_sum r, addS_sum, sumN]
    omega
theorem posts_sumN (L : List Labs) : ((postsOf L).flatMap (·.2)).length = sumN L := by
  have := addF_sum L [] 0
  rw [List.flatMap_nil, List.length_nil, Nat.zero_add] at this
  exact this
theorem packL_len (l : List Int) : (Po.packL l).length ≤ 10 + 10 * l.length := by
  unfold Po.packL
  rw [List.length_append]
  have h1 := Po.put_ten (l.length : Int)
  have h2 := Po.gap_len l (-1)
  omega
theorem flat_len : ∀ (P : Posts), (∀ p ∈ P, p.1.1.size ≤ 64 ∧ p.1.2.size ≤ 64) → (P.flatMap oneP).length ≤ 158 * P.length + 10 * (P.flatMap (·.2)).length
  | [], _ => Nat.zero_le _
  | p :: r, h => by
    have ih := flat_len r (fun q hq => h q (List.mem_cons_of_mem _ hq))
    obtain ⟨h1, h2⟩ := h p (List.mem_cons_self ..)
    rw [List.flatMap_cons, List.flatMap_cons, List.length_append, List.length_append, List.length_cons]
    have h3 := packL_len p.2
    have h4 := Po.put_ten (p.1.1.size : Int)
    have h5 := Po.put_ten (p.1.2.size : Int)
    have e1 : p.1.1.data.toList.length = p.1.1.size := rfl
    have e2 : p.1.2.data.toList.length = p.1.2.size := rfl
    have h6 : (oneP p).length ≤ 158 + 10 * p.2.length := by
      unfold oneP
      simp only [List.length_append]
      omega
    omega
theorem lab_64 {x : Lab} (h : labOk x = true) : x.1.size ≤ 64 ∧ x.2.size ≤ 64 := by
  unfold labOk nameOk valOk at h
  simp at h
  omega
/-- Good series of few labels can be packed. -/
theorem pk_ok {L : List Labs} (hc : checkI L = 0) (hsum : sumN L ≤ 5000) : PkOk L ∧ (packI L.length (postsOf L)).length ≤ 20 + 168 * sumN L := by
  obtain ⟨h1, h2, h3⟩ := check_zero.1 hc
  have T := posts_tells L (fun l hl => (h2 l hl).rise) (by omega)
  have hlen : (postsOf L).length ≤ sumN L := by
    have hbd := bd_posts L L.length (Nat.le_refl _)
    rw [List.take_length] at hbd
    exact hbd.1.1
  have hsz : ∀ p ∈ postsOf L, p.2.length ≤ 1000 ∧ Po.upB (-1) p.2 = true ∧ p.1.1.size ≤ 64 ∧ p.1.2.size ≤ 64 := fun p hp => by
    have hup := T.up p hp
    have hl := up_len p.2 (-1) (L.length : Int) hup (T.lt p hp) (by omega)
    obtain ⟨u, hu⟩ := List.exists_mem_of_ne_nil _ (T.some p hp)
    obtain ⟨i, hi, l, hl1, hl2⟩ := up_mem' T hp hu
    have hok := lab_64 ((h2 l (List.mem_of_getElem? hl1)).ok _ hl2)
    exact ⟨by omega, hup, hok.1, hok.2⟩
  have hfl := flat_len (postsOf L) (fun p hp => (hsz p hp).2.2)
  rw [posts_sumN] at hfl
  have hpk : (packI L.length (postsOf L)).length ≤ 20 + 168 * sumN L := by
    unfold packI
    simp only [List.length_append]
    have h4 := Po.put_ten (L.length : Int)
    have h5 := Po.put_ten ((postsOf L).length : Int)
    omega
  exact ⟨⟨by omega, hsz, by omega⟩, hpk⟩
theorem sumN_set : ∀ (L : List Labs) (i : Nat) (h : i < L.length) (y : Lab), sumN (L.set i (L[i] ++ [y])) = sumN L + 1
  | a :: r, 0, h, y => by
    simp only [List.set_cons_zero, List.getElem_cons_zero, sumN, List.length_append, List.length_singleton]
    omega
  | a :: r, i + 1, h, y => by
    simp only [List.set_cons_succ, List.getElem_cons_succ, sumN]
    rw [sumN_set r i (by simpa using h) y]
    omega
theorem putL_sum (y : Lab) : ∀ (l : List Int) (L L2 : List Labs), (∀ x ∈ l, 0 ≤ x) → putL y l L = some L2 → sumN L2 = sumN L + l.length
  | [], L, L2, _, h => by cases h; rfl
  | i :: r, L, L2, h0, h => by
    rw [putL] at h
    split at h
    · rename_i hi
      have hi0 := h0 i (List.mem_cons_self ..)
      have hq : i.toNat < L.length := by omega
      rw [putAt_eq hq] at h
      rw [putL_sum y r _ L2 (fun x hx => h0 x (List.mem_cons_of_mem _ hx)) h, sumN_set _ _ hq, List.length_cons]
      omega
    · cases h
theorem rdM_sum : ∀ (m : Nat) (L : List Labs) (bs : List UInt8) (L2 : List Labs), rdM m L bs = some L2 → sumN L2 ≤ sumN L + bs.length := by
  intro m
  induction m with
  | zero =>
    intro L bs L2 h
    rw [rdM] at h
    cases h
    omega
  | succ m ih =>
    intro L bs L2 h
    rw [rdM] at h
    cases h1 : txtR bs with
    | none => rw [h1] at h; cases h
    | some p =>
      obtain ⟨s, r1⟩ := p
      rw [h1] at h
      simp only at h
      cases h2 : txtR r1 with
      | none => rw [h2] at h; cases h
      | some p =>
        obtain ⟨t, r2⟩ := p
        rw [h2] at h
        simp only at h
        cases h3 : Po.readR r2 with
        | none => rw [h3] at h; cases h
        | some p =>
          obtain ⟨l, k⟩ := p
          rw [h3] at h
          simp only at h
          cases h4 : putL (mkB s, mkB t) l L with
          | none => rw [h4] at h; cases h
          | some L3 =>
            rw [h4] at h
            simp only at h
            have g1 := txtR_le h1
            have g2 := txtR_le h2
            have g3 := read_bounds h3
            have g4 := read_takes h3
            have e1 := ih L3 (r2.drop k) L2 h
            have e2 := putL_sum _ _ _ _ g3.1 h4
            rw [List.length_drop] at e1
            omega
theorem sumN_nil (c : Nat) : sumN (List.replicate c []) = 0 := by
  induction c with
  | zero => rfl
  | succ c ih => rw [List.replicate_succ, sumN, ih]; rfl
/-- The labels that were read are not more than the bytes. -/
theorem readI_sum {bs : List UInt8} {L : List Labs} (h : readI bs = some L) : sumN L ≤ bs.length := by
  unfold readI at h
  cases h1 : numR bs with
  | none => rw [h1] at h; cases h
  | some p =>
    obtain ⟨c, k⟩ := p
    rw [h1] at h
    simp only at h
    split at h
    · cases h
    · cases h2 : numR (bs.drop k) with
      | none => rw [h2] at h; cases h
      | some p =>
        obtain ⟨m, q⟩ := p
        rw [h2] at h
        simp only at h
        have := rdM_sum m _ _ _ h
        rw [sumN_nil, List.length_drop, List.length_drop] at this
        omega

/-! ### The document's own reader -/
def rtxtR (bs : List UInt8) : Option (List UInt8 × List UInt8) := match numR bs with
  | none => none
  | some (n, k) => if n ≤ 64 ∧ n ≤ (bs.drop k).length then some ((bs.drop k).take n, (bs.drop k).drop n) else none
def rputL (y : Lab) : List Int → List Labs → Option (List Labs)
  | [], L => some L
  | i :: r, L => if i < (L.length : Int) ∧ (L.getD i.toNat []).length ≤ 16 then rputL y r (putAt L i.toNat y) else none
def rrdM : Nat → List Labs → List UInt8 → Option (List Labs)
  | 0, L, _ => some L
  | m + 1, L, bs => match rtxtR bs with
    | none => none
    | some (s, r1) => match rtxtR r1 with
      | none => none
      | some (t, r2) => match Po.readR r2 with
        | none => none
        | some (l, k) => match rputL (mkB s, mkB t) l L with
          | none => none
          | some L2 => rrdM m L2 (r2.drop k)
def rreadI (bs : List UInt8) : Option (List Labs) := match numR bs with
  | none => none
  | some (c, k) => if 1000 < c then none else match numR (bs.drop k) with
    | none => none
    | some (m, q) => if 16000 < m then none else rrdM m (List.replicate c []) ((bs.drop k).drop q)
theorem rtxtR_txt {bs s r : List UInt8} (h : rtxtR bs = some (s, r)) : txtR bs = some (s, r) := by
  unfold rtxtR at h
  unfold txtR
  cases hn : numR bs with
  | none => rw [hn] at h; cases h
  | some nk =>
    obtain ⟨n, k⟩ := nk
    rw [hn] at h
    simp only at h ⊢
    split at h
    · rename_i hc
      rw [if_pos hc.2]
      exact h
    · cases h
theorem rputL_put (y : Lab) : ∀ (l : List Int) (L L2 : List Labs), rputL y l L = some L2 → putL y l L = some L2
  | [], L, L2, h => h
  | i :: r, L, L2, h => by
    rw [rputL] at h
    split at h
    · rename_i hc
      rw [putL, if_pos hc.1]
      exact rputL_put y r _ L2 h
    · cases h
theorem rrdM_rd : ∀ (m : Nat) (L : List Labs) (bs : List UInt8) (L2 : List Labs), rrdM m L bs = some L2 → rdM m L bs = some L2 := by
  intro m
  induction m with
  | zero => intro L bs L2 h; exact h
  | succ m ih =>
    intro L bs L2 h
    rw [rrdM] at h
    rw [rdM]
    cases h1 : rtxtR bs with
    | none => rw [h1] at h; cases h
    | some p =>
      obtain ⟨s, r1⟩ := p
      rw [h1] at h
      rw [rtxtR_txt h1]
      simp only at h ⊢
      cases h2 : rtxtR r1 with
      | none => rw [h2] at h; cases h
      | some p =>
        obtain ⟨t, r2⟩ := p
        rw [h2] at h
        rw [rtxtR_txt h2]
        simp only at h ⊢
        cases h3 : Po.readR r2 with
        | none => rw [h3] at h; cases h
        | some p =>
          obtain ⟨l, k⟩ := p
          rw [h3] at h
          simp only at h ⊢
          cases h4 : rputL (mkB s, mkB t) l L with
          | none => rw [h4] at h; cases h
          | some L3 =>
            rw [h4] at h
            rw [rputL_put _ _ _ _ h4]
            simp only at h ⊢
            exact ih _ _ _ h
theorem rreadI_read {bs : List UInt8} {L : List Labs} (h : rreadI bs = some L) : readI bs = some L := by
  unfold rreadI at h
  unfold readI
  cases h1 : numR bs with
  | none => rw [h1] at h; cases h
  | some p =>
    obtain ⟨c, k⟩ := p
    rw [h1] at h
    simp only at h ⊢
    split at h
    · cases h
    · rename_i hc
      rw [if_neg hc]
      cases h2 : numR (bs.drop k) with
      | none => rw [h2] at h; cases h
      | some p =>
        obtain ⟨m, q⟩ := p
        rw [h2] at h
        simp only at h ⊢
        split at h
        · cases h
        · exact rrdM_rd _ _ _ _ h
theorem rtxtR_put (s : ByteArray) (h : s.size ≤ 64) (more : List UInt8) : rtxtR (putN (U.uN (s.size : Int)) ++ s.data.toList ++ more) = some (s.data.toList, more) := by
  unfold rtxtR
  rw [List.append_assoc, numR_put (by omega)]
  simp only
  have hl : s.data.toList.length = s.size := rfl
  rw [List.drop_left, if_pos ⟨h, by rw [List.length_append, hl]; omega⟩, ← hl, List.take_left, List.drop_left]
def rputP : Posts → List Labs → Option (List Labs)
  | [], L => some L
  | p :: r, L => match rputL p.1 p.2 L with
    | none => none
    | some L2 => rputP r L2
theorem rrdM_pack : ∀ (P : Posts) (L : List Labs), (∀ p ∈ P, p.2.length ≤ 1000 ∧ Po.upB (-1) p.2 = true ∧ p.1.1.size ≤ 64 ∧ p.1.2.size ≤ 64) → rrdM P.length L (P.flatMap oneP) = rputP P L
  | [], L, _ => rfl
  | p :: r, L, h => by
    obtain ⟨⟨s, t⟩, l⟩ := p
    obtain ⟨h1, h2, h3, h4⟩ := h _ (List.mem_cons_self ..)
    replace h1 : l.length ≤ 1000 := h1
    replace h2 : Po.upB (-1) l = true := h2
    replace h3 : s.size ≤ 64 := h3
    replace h4 : t.size ≤ 64 := h4
    have e : ((((s, t), l) : Post) :: r).flatMap oneP = putN (U.uN (s.size : Int)) ++ s.data.toList ++ (putN (U.uN (t.size : Int)) ++ t.data.toList ++ (Po.packL l ++ r.flatMap oneP)) := by
      simp [oneP]
    rw [e, List.length_cons, rrdM, rtxtR_put s h3]
    simp only
    rw [rtxtR_put t h4]
    simp only
    rw [readR_pack (by omega) h2]
    simp only
    rw [mkB_back, mkB_back, rputP]
    simp only
    cases hp : rputL (s, t) l L with
    | none => rfl
    | some L2 =>
      simp only
      rw [List.drop_left]
      exact rrdM_pack r L2 (fun q hq => h q (List.mem_cons_of_mem _ hq))
theorem putAt_grow (L : List Labs) (n : Nat) (y : Lab) (i : Nat) : (L.getD i []).length ≤ ((putAt L n y).getD i []).length := by
  unfold putAt
  rw [List.getD_eq_getElem?_getD, List.getD_eq_getElem?_getD, List.getElem?_set]
  by_cases h : n = i
  · subst h
    by_cases h2 : n < L.length
    · simp [h2]
    · simp [h2]
  · simp [h]
theorem putL_grow (y : Lab) : ∀ (l : List Int) (L L2 : List Labs), putL y l L = some L2 → ∀ i, (L.getD i []).length ≤ (L2.getD i []).length
  | [], L, L2, h, i => by cases h; exact Nat.le_refl _
  | a :: r, L, L2, h, i => by
    rw [putL] at h
    split at h
    · exact Nat.le_trans (putAt_grow _ _ _ _) (putL_grow y r _ L2 h i)
    · cases h
theorem putP_grow : ∀ (P : Posts) (L L2 : List Labs), putP P L = some L2 → ∀ i, (L.getD i []).length ≤ (L2.getD i []).length
  | [], L, L2, h, i => by cases h; exact Nat.le_refl _
  | p :: r, L, L2, h, i => by
    rw [putP] at h
    cases h1 : putL p.1 p.2 L with
    | none => rw [h1] at h; cases h
    | some L3 =>
      rw [h1] at h
      exact Nat.le_trans (putL_grow _ _ _ _ h1 i) (putP_grow r _ L2 h i)
theorem rputL_of (y : Lab) : ∀ (l : List Int) (L L2 : List Labs), putL y l L = some L2 → (∀ i, (L2.getD i []).length ≤ 16) → rputL y l L = some L2
  | [], L, L2, h, _ => h
  | a :: r, L, L2, h, hb => by
    rw [putL] at h
    split at h
    · rename_i hc
      have hg := Nat.le_trans (putAt_grow L a.toNat y a.toNat) (putL_grow y r _ L2 h a.toNat)
      rw [rputL, if_pos ⟨hc, Nat.le_trans hg (hb _)⟩]
      exact rputL_of y r _ L2 h hb
    · cases h
theorem rputP_of : ∀ (P : Posts) (L L2 : List Labs), putP P L = some L2 → (∀ i, (L2.getD i []).length ≤ 16) → rputP P L = some L2
  | [], L, L2, h, _ => h
  | p :: r, L, L2, h, hb => by
    rw [putP] at h
    cases h1 : putL p.1 p.2 L with
    | none => rw [h1] at h; cases h
    | some L3 =>
      rw [h1] at h
      simp only at h
      rw [rputP, rputL_of _ _ _ _ h1 (fun i => Nat.le_trans (putP_grow r _ _ h i) (hb i))]
      exact rputP_of r _ L2 h hb
/-- What was packed of good series is read as those by the document's own, too. -/
theorem rreadI_posts {L : List Labs} (hc : checkI L = 0) (hsum : sumN L ≤ 5000) : rreadI (packI L.length (postsOf L)) = some L := by
  obtain ⟨h1, h2, h3⟩ := check_zero.1 hc
  have hP := (pk_ok hc hsum).1
  have hlen : (postsOf L).length ≤ sumN L := by
    have hbd := bd_posts L L.length (Nat.le_refl _)
    rw [List.take_length] at hbd
    exact hbd.1.1
  unfold rreadI packI
  rw [List.append_assoc, numR_put (by omega)]
  simp only
  rw [if_neg (by omega), List.drop_left, numR_put (by omega)]
  simp only
  rw [if_neg (by omega), List.drop_left, rrdM_pack _ _ hP.2.1]
  refine rputP_of _ _ _ (putP_posts L (fun l hl => (h2 l hl).rise) (by omega)) (fun i => ?_)
  rw [List.getD_eq_getElem?_getD]
  cases e : L[i]? with
  | none => exact Nat.zero_le _
  | some l => exact (h2 l (List.mem_of_getElem? e)).len16
/-- What the document's own reader tells. -/
def UnR (bs : List UInt8) (L : List Labs) : Prop := rreadI bs = some L ∧ checkI L = 0 ∧ packI L.length (postsOf L) = bs
theorem unR_iff {bs : List UInt8} (hl : bs.length ≤ 5000) (L : List Labs) : UnR bs L ↔ UnI bs L := by
  constructor
  · rintro ⟨h1, h2, h3⟩
    exact ⟨rreadI_read h1, h2, h3⟩
  · rintro ⟨h1, h2, h3⟩
    have hs := readI_sum h1
    refine ⟨?_, h2, h3⟩
    have := rreadI_posts h2 (by omega)
    rw [h3] at this
    exact this
end Go.Proofs.YteknpfldemgmnaaGreat.X

/-
  The document's own reader of an index: a text; a label more of a series.
-/
namespace Go.Proofs.YteknpfldemgmnaaGreat.X
open Go.RowKit Go.Proofs.Lys Go.Maps Go.Proofs.YteknpfldemgmnaaGreat.N
set_option linter.unusedVariables false
set_option linter.unusedSimpArgs false

/-- What text tells. -/
def RTxtP (w : World) (bs : List UInt8) (at_ : Nat) (e : Ending) (w' : World) : Prop :=
  w' = w ∧ ((rtxtR (bs.drop at_) = none ∧ e = .returned (.tuple #[.string ⟨#[]⟩, .int .i64 0, .bool false])) ∨ ∃ s r q, rtxtR (bs.drop at_) = some (s, r) ∧ e = .returned (.tuple #[.string (mkB s), .int .i64 ((q : Nat) : Int), .bool true]) ∧ q ≤ bs.length ∧ r = bs.drop q)
theorem take_drop (bs : List UInt8) (a n : Nat) : (bs.take (a + n)).drop a = (bs.drop a).take n := by
  rw [List.drop_take]
  congr 1
  omega
set_option maxRecDepth 100000 in
set_option maxHeartbeats 1600000 in
theorem rtextI_any (w : World) (v : Value) (bs : List UInt8) (at_ : Nat) (hs : Po.BSrc w v bs) (hat : at_ ≤ bs.length) (hl : bs.length ≤ 1000000) :
    Calls Tryz.prog 39 #[v, .int .i64 (at_ : Int)] w (RTxtP w bs at_) := by
  obtain ⟨a1, c1, s1, b1⟩ := hs.tail hat
  have HG := hid (U.rget_any w _ (bs.drop at_) b1.1 (by rw [List.length_drop]; omega))
  have hcs := Po.getA_cases (bs.drop at_) 0 0 (by decide) (by decide)
  have hnum : numR (bs.drop at_) = if (getA (bs.drop at_) 0 0).2.2 = 0 ∧ (getA (bs.drop at_) 0 0).1 < 9223372036854775808 then some ((getA (bs.drop at_) 0 0).1, (getA (bs.drop at_) 0 0).2.1) else none := rfl
  have HNO : Hid (rtxtR (bs.drop at_) = none → RTxtP w bs at_ (.returned (.tuple #[.string ⟨#[]⟩, .int .i64 0, .bool false])) w) := fun h => ⟨rfl, .inl ⟨h, rfl⟩⟩
  have HS := hid hs
  obtain ⟨a, c, rfl, _⟩ := hs.2
  have hdl : (bs.drop at_).length = bs.length - at_ := List.length_drop
  obtain ⟨M, hM⟩ : ∃ M, bs.length = M := ⟨_, rfl⟩
  have HM := hid hM
  have hs1 := s1 w
  rw [hM] at HS HG hat hl hs1 hdl ⊢
  clear s1 hs
  obtain ⟨T, hT⟩ : ∃ T, M - at_ = T := ⟨_, rfl⟩
  rw [hT] at hs1 HG hdl
  clear b1 hM
  rcases hcs with e0 | ⟨u, k, e0, hu, hk⟩
  · rw [e0] at HG hnum
    have HF := hid (HNO.out (by unfold rtxtR; rw [hnum]; rfl))
    have hgot : U.got (0, 0, 5) = .tuple #[.int .i64 0, .int .i64 0, .int .i64 5] := by
      unfold U.got
      rw [show wrap64 ((0 : Nat) : Int) = 0 by unfold wrap64; omega]
      rfl
    rw [hgot] at HG
    clear hnum e0 hgot HNO hdl
    go_enter Tryz.func39, Tryz.ntmps39
    go_wp2_with fail
    refine HG.out.mono ?_
    rintro e w' ⟨rfl, hw⟩
    replace hw := hw.symm
    subst hw
    go_wp2
    go_ret3
    exact HF.out
  · rw [e0] at HG hnum
    have hgot : U.got (u, k, 0) = .tuple #[.int .i64 (wrap64 (u : Int)), .int .i64 (k : Int), .int .i64 0] := rfl
    rw [hgot] at HG
    have hkT : k ≤ T := by rw [hdl] at hk; omega
    by_cases h63 : u < 9223372036854775808
    · have hyes : numR (bs.drop at_) = some (u, k) := by rw [hnum, if_pos ⟨rfl, h63⟩]
      have hw64 : wrap64 (u : Int) = (u : Int) := by unfold wrap64; omega
      rw [hw64] at HG
      have hrt : rtxtR (bs.drop at_) = if u ≤ 64 ∧ u ≤ ((bs.drop at_).drop k).length then some (((bs.drop at_).drop k).take u, ((bs.drop at_).drop k).drop u) else none := by
        unfold rtxtR
        rw [hyes]
      rw [List.length_drop, hdl] at hrt
      by_cases hc : u ≤ 64 ∧ u ≤ T - k
      · obtain ⟨a2, c2, s2, b2⟩ := HS.out.sub (lo := at_ + k) (hi := at_ + k + u) (by omega) (by have := HM.out; omega)
        rw [take_drop, ← List.drop_drop] at b2
        have htl : (((bs.drop at_).drop k).take u).length = u := by rw [List.length_take, List.length_drop, hdl]; omega
        have hcv := conv_bytes b2.1
        have hs2 := s2 w
        rw [show at_ + k + u - (at_ + k) = u by omega] at hs2 hcv
        have HF : Hid (RTxtP w bs at_ (.returned (.tuple #[.string (mkB (((bs.drop at_).drop k).take u)), .int .i64 ((at_ + k + u : Nat) : Int), .bool true])) w) := ⟨rfl, .inr ⟨_, _, at_ + k + u, by rw [hrt, if_pos hc], rfl, by have := HM.out; omega, by rw [List.drop_drop, List.drop_drop]; congr 1; omega⟩⟩
        generalize mkB (((bs.drop at_).drop k).take u) = TX at HF hcv
        obtain ⟨A1, hA1⟩ : ∃ A1, at_ + k = A1 := ⟨_, rfl⟩
        obtain ⟨A2, hA2⟩ : ∃ A2, A1 + u = A2 := ⟨_, rfl⟩
        rw [hA1, hA2] at hs2 HF
        have i1 : (at_ : Int) + (k : Int) = (A1 : Int) := by omega
        have i2 : (A1 : Int) + (u : Int) = (A2 : Int) := by omega
        have j1 : ¬ (u : Int) < 0 := by omega
        have j2 : ¬ 64 < u := by omega
        have j3 : ¬ (M : Int) - (at_ : Int) - (k : Int) < (u : Int) := by omega
        have d1 : decide ((u : Int) < 0) = false := decide_eq_false j1
        have d2 : decide ((64 : Int) < (u : Int)) = false := decide_eq_false (by omega)
        have d3 : decide ((M : Int) - (at_ : Int) - (k : Int) < (u : Int)) = false := decide_eq_false j3
        have hA2M : A2 ≤ M := by omega
        clear hnum hyes hrt b2 htl hc e0 hgot hw64 HNO hdl s2 HM
        go_enter Tryz.func39, Tryz.ntmps39
        go_wp2_with fail
        refine HG.out.mono ?_
        rintro e w' ⟨rfl, hw⟩
        replace hw := hw.symm
        subst hw
        go_wp2
        go_ret3
        exact HF.out
      · have HF := hid (HNO.out (by rw [hrt, if_neg hc]))
        have j1 : ¬ (u : Int) < 0 := by omega
        have d1 : decide ((u : Int) < 0) = false := decide_eq_false j1
        clear hnum hyes hrt e0 hgot hw64 HNO hdl HM
        by_cases h64 : 64 < u
        · have d2 : decide ((64 : Int) < (u : Int)) = true := decide_eq_true (by omega)
          clear hc
          go_enter Tryz.func39, Tryz.ntmps39
          go_wp2_with fail
          refine HG.out.mono ?_
          rintro e w' ⟨rfl, hw⟩
          replace hw := hw.symm
          subst hw
          go_wp2
          go_ret3
          exact HF.out
        · have d2 : decide ((64 : Int) < (u : Int)) = false := decide_eq_false (by omega)
          have j3 : (M : Int) - (at_ : Int) - (k : Int) < (u : Int) := by omega
          have d3 : decide ((M : Int) - (at_ : Int) - (k : Int) < (u : Int)) = true := decide_eq_true j3
          clear hc
          go_enter Tryz.func39, Tryz.ntmps39
          go_wp2_with fail
          refine HG.out.mono ?_
          rintro e w' ⟨rfl, hw⟩
          replace hw := hw.symm
          subst hw
          go_wp2
          go_ret3
          exact HF.out
    · have HF := hid (HNO.out (by unfold rtxtR; rw [hnum, if_neg (fun hx => h63 hx.2)]))
      have hw64 : wrap64 (u : Int) < 0 := by unfold wrap64; omega
      have d1 : decide (wrap64 (u : Int) < 0) = true := decide_eq_true hw64
      generalize wrap64 (u : Int) = U0 at HG hw64 d1
      clear hnum e0 hgot HNO hdl HM
      go_enter Tryz.func39, Tryz.ntmps39
      go_wp2_with fail
      refine HG.out.mono ?_
      rintro e w' ⟨rfl, hw⟩
      replace hw := hw.symm
      subst hw
      go_wp2
      go_ret3
      exact HF.out
/-- A label more of series i, beside a list of numbers. -/
theorem rput_step {w : World} {B B2 g b cap lc cc n i j : Nat} {vs xs : List Value} {L : List Labs} (h : OwnR w B (.slice (some ⟨g, 0, none⟩) cc cap) vs L) (hvs : vs.length = cc) (hB : B ≤ w.heap.size) (hlst : w.ownsRow B2 3 1 (.slice (some ⟨b, 0, none⟩) n lc) n xs) (hj : j < n) (hi : i < cc) (y : Lab) (hlen : (L.getD i []).length ≤ 16) :
    ∃ la ln lc' w2 a2 n2 c2 vs2 w3, ln = (L.getD i []).length ∧ w.cell? ⟨g, i, none⟩ = some (.slice la ln lc') ∧ Hid ((Builtin.append_ #[44, 44] 0 #[.slice la ln lc', .slice (some ⟨w.heap.size, 0, none⟩) 1 1]).run Tryz.prog (w.alloc (.cells #[.string y.1, .string y.2] 43)) = .ok (.slice a2 n2 c2) w2) ∧
      w2.frozen? ⟨g, i, none⟩ = false ∧ w2.cell? ⟨g, i, none⟩ = some (.slice la ln lc') ∧ w2.cell? ⟨b, j, none⟩ = w.cell? ⟨b, j, none⟩ ∧ w2.setCell ⟨g, i, none⟩ (.slice a2 n2 c2) = w3 ∧ Hid (OwnR w3 B (.slice (some ⟨g, 0, none⟩) cc cap) vs2 (putAt L i y)) ∧ Hid (vs2.length = cc) ∧ Hid (w3.ownsRow B2 3 1 (.slice (some ⟨b, 0, none⟩) n lc) n xs) ∧ Hid (Only (fun k => B ≤ k) w w3) := by
  subst hvs
  have hi2 : i < L.length := by rw [← h.len]; exact hi
  have hgd : L.getD i [] = L[i] := by rw [List.getD_eq_getElem?_getD, List.getElem?_eq_getElem hi2]; rfl
  rw [hgd] at hlen ⊢
  obtain ⟨la, lc', w2, a2, n2, c2, e1, hr, hf, hc, hq, hcell, hon2⟩ := own_put h hB hi hi2 y (by omega)
  have hgb : (Value.slice (some ⟨g, 0, none⟩) vs.length cap).ownBlock = some g := rfl
  have hBg := (ownN_lt h.row hgb).1
  have hat := h.each i hi hi2
  have ho := hq.out.2
  have hlb : (Value.slice (some ⟨b, 0, none⟩) n lc).ownBlock = some b := rfl
  have hls2 : w2.ownsRow B2 3 1 (.slice (some ⟨b, 0, none⟩) n lc) n xs := ownN_only hlst hon2 (fun k hk e => ((ownN_typed hlst hk).ne (ownN_typed hat e) (by decide)) rfl)
  refine ⟨la, L[i].length, lc', w2, a2, n2, c2, vs.set i (.slice a2 n2 c2), _, rfl, ?_, hr, hf, hcell, ?_, rfl, ?_, ?_, ?_, ?_⟩
  · rw [h.row.cellAt i (by omega), List.getElem?_eq_getElem hi, e1]
  · rw [hls2.cellAt j (by omega), hlst.cellAt j (by omega)]
  · show OwnR _ _ _ _ _
    rw [putAt_eq hi2]
    exact hq.out.1
  · show _ = _
    rw [List.length_set]
  · exact hid (ownN_only hlst ho (fun k hk e => by
      rcases e with e | e
      · exact ((ownN_typed hlst hk).ne (ownN_typed h.row (by rw [e]; exact hgb)) (by decide)) rfl
      · exact ((ownN_typed hlst hk).ne (ownN_typed hat e) (by decide)) rfl))
  · exact hid (ho.mono (fun k _ e => by
      rcases e with e | e
      · omega
      · exact (ownN_lt hat e).1))
end Go.Proofs.YteknpfldemgmnaaGreat.X
