/-
  A head in memory: its block, its map, its series.
-/
import Derived.Test.YtnbfbnhiikliaaaGreatHkv
import Derived.Test.YtnbfbnhiikliaaaGreatNtxt
namespace Go.Proofs.YtnbfbnhiikliaaaGreat.Hd
open Go.RowKit Go.Proofs.Lys Go.Maps Go.Proofs.YtnbfbnhiikliaaaGreat.N
set_option linter.unusedVariables false

structure SerC where
  b : Nat
  lv : Value
  sv : Value
  labs : Labs
  smps : Smps
def SerC.has (c : SerC) (k : Nat) : Prop := k = c.b ∨ c.lv.ownBlock = some k ∨ c.sv.ownBlock = some k
structure SerOk (w : World) (c : SerC) : Prop where
  blk : Blk w c.b [c.lv, c.sv] 79
  lab : LabAt w 0 c.lv c.labs
  smp : SmpAt w 0 c.sv c.smps
theorem SerOk.only {w w' : World} {c : SerC} {O : Nat → Prop} (h : SerOk w c) (k : Only O w w') (hO : ∀ j, c.has j → ¬ O j) : SerOk w' c :=
  ⟨k.blk h.blk (hO _ (.inl rfl)), ownN_only h.lab k (fun b hb => hO b (.inr (.inl hb))), ownN_only h.smp k (fun b hb => hO b (.inr (.inr hb)))⟩
theorem SerOk.lt {w : World} {c : SerC} (h : SerOk w c) {k : Nat} (hk : c.has k) : k < w.heap.size := by
  rcases hk with rfl | hk | hk
  · exact h.blk.lt
  · exact (ownN_lt h.lab hk).2
  · exact (ownN_lt h.smp hk).2
theorem SerOk.ne {w : World} {c : SerC} (h : SerOk w c) : (∀ k, c.lv.ownBlock = some k → k ≠ c.b) ∧ (∀ k, c.sv.ownBlock = some k → k ≠ c.b) ∧ (∀ k j, c.lv.ownBlock = some k → c.sv.ownBlock = some j → k ≠ j) :=
  ⟨fun k hk => (ownN_typed h.lab hk).ne h.blk.typed (by decide), fun k hk => (ownN_typed h.smp hk).ne h.blk.typed (by decide), fun k j hk hj => (ownN_typed h.lab hk).ne (ownN_typed h.smp hj) (by decide)⟩
def keyC (c : SerC) : Key × Int := (textL c.labs, (c.b : Int))
def serC (c : SerC) : Ser := (c.labs, c.smps)
structure HeadC where
  hb : Nat
  win : Int
  mv : Option Nat
  kv : KV
  cs : List SerC
structure HeadAt (w : World) (h : HeadC) (O : Nat → Prop) : Prop where
  blk : Blk w h.hb [.int .i64 h.win, .map h.mv] 65
  map : ∀ mb, h.mv = some mb → w.ownsMap Tryz.prog 9 ptrE mb h.kv.length (kvD h.kv)
  nil : h.mv = none → h.kv = []
  perm : h.kv.Perm (h.cs.map keyC)
  each : ∀ s ∈ h.cs, SerOk w s
  made : ∀ s ∈ h.cs, Made s.labs
  apart : h.cs.Pairwise (fun a b => ∀ k, a.has k → ¬ b.has k)
  texts : h.cs.Pairwise (fun a b => textL a.labs ≠ textL b.labs)
  own : ∀ k, (k = h.hb ∨ h.mv = some k ∨ ∃ s ∈ h.cs, s.has k) → O k
  lt : ∀ k, O k → k < w.heap.size
  win0 : 0 ≤ h.win ∧ h.win ≤ 9007199254740992
theorem HeadAt.only {w w' : World} {h : HeadC} {O O' : Nat → Prop} (hA : HeadAt w h O) (k : Only O' w w') (hO : ∀ j, O j → ¬ O' j) : HeadAt w' h O where
  blk := k.blk hA.blk (hO _ (hA.own _ (.inl rfl)))
  map := fun mb e => k.map (hA.map mb e) (hO _ (hA.own _ (.inr (.inl e))))
  nil := hA.nil
  perm := hA.perm
  each := fun s hs => (hA.each s hs).only k (fun j hj => hO j (hA.own j (.inr (.inr ⟨s, hs, hj⟩))))
  made := hA.made
  apart := hA.apart
  texts := hA.texts
  own := hA.own
  lt := fun j hj => Nat.lt_of_lt_of_le (hA.lt j hj) k.size
  win0 := hA.win0
theorem HeadAt.stay {w w' : World} {h : HeadC} {O : Nat → Prop} (hA : HeadAt w h O) (k : Kept w w') : HeadAt w' h O := hA.only k (fun _ _ f => f)
theorem HeadAt.more {w : World} {h : HeadC} {O O' : Nat → Prop} (hA : HeadAt w h O) (hO : ∀ j, O j → O' j) (hlt : ∀ j, O' j → j < w.heap.size) : HeadAt w h O' :=
  { hA with own := fun k hk => hO k (hA.own k hk), lt := hlt }
/-- The state that a head is in. -/
structure Is (h : HeadC) (M : Mod) : Prop where
  perm : (h.cs.map serC).Perm M
  ok : ModOk M

theorem text_inj {a b : Labs} (ha : Made a) (hb : Made b) (h : textL a = textL b) : a = b := by
  have h1 := parse_iff.2 ⟨ha, rfl⟩
  have h2 := parse_iff.2 ⟨hb, rfl⟩
  rw [h, h2] at h1
  exact (Option.some.inj h1).symm
theorem text_pos (l : Labs) : textL l ≠ [] := by
  unfold textL
  simp
theorem pw_inj {h : HeadC} (ht : h.cs.Pairwise (fun a b => textL a.labs ≠ textL b.labs)) {a b : SerC} (ha : a ∈ h.cs) (hb : b ∈ h.cs) (e : textL a.labs = textL b.labs) : a = b := by
  obtain ⟨hb_, win, mv, kv, cs⟩ := h
  simp only at *
  induction cs with
  | nil => cases ha
  | cons z r ih =>
    have hz := List.pairwise_cons.1 ht
    rcases List.mem_cons.1 ha with e1 | ha'
    · rcases List.mem_cons.1 hb with e2 | hb'
      · rw [e1, e2]
      · exact absurd (by rw [← e1]; exact e) (hz.1 b hb')
    · rcases List.mem_cons.1 hb with e2 | hb'
      · exact absurd (by rw [← e2]; exact e.symm) (hz.1 a ha')
      · exact ih hz.2 ha' hb'
theorem HeadAt.kvApart {w : World} {h : HeadC} {O : Nat → Prop} (hA : HeadAt w h O) : Apart h.kv := by
  cases e : h.mv with
  | none => rw [hA.nil e]; exact List.Pairwise.nil
  | some mb => exact kv_apart (hA.map mb e)
/-- A text is that of one series, or of none. -/
theorem HeadAt.find {w : World} {h : HeadC} {O : Nat → Prop} (hA : HeadAt w h O) (key : Key) : (∃ c ∈ h.cs, textL c.labs = key ∧ kvGet h.kv key = some (c.b : Int)) ∨ ((∀ c ∈ h.cs, textL c.labs ≠ key) ∧ kvGet h.kv key = none) := by
  cases e : kvGet h.kv key with
  | none =>
    refine .inr ⟨fun c hc ht => ?_, rfl⟩
    exact get_none.1 e (c.b : Int) (hA.perm.mem_iff.2 (List.mem_map.2 ⟨c, hc, by unfold keyC; rw [ht]⟩))
  | some v =>
    have hm := hA.perm.mem_iff.1 ((get_some hA.kvApart).1 e)
    obtain ⟨c, hc, hk⟩ := List.mem_map.1 hm
    unfold keyC at hk
    cases hk
    exact .inl ⟨c, hc, rfl, rfl⟩
theorem Is.look {w : World} {h : HeadC} {O : Nat → Prop} {M : Mod} (hI : Is h M) {c : SerC} (hc : c ∈ h.cs) : lookM M c.labs = some c.smps :=
  (look_some hI.ok.sort).2 (hI.perm.mem_iff.1 (List.mem_map.2 ⟨c, hc, rfl⟩))
theorem Is.lookNone {h : HeadC} {M : Mod} (hI : Is h M) {l : Labs} (hn : ∀ c ∈ h.cs, textL c.labs ≠ textL l) : lookM M l = none := by
  refine look_none.2 (fun s hs => ?_)
  obtain ⟨c, hc, e⟩ := List.mem_map.1 (hI.perm.mem_iff.2 hs)
  unfold serC at e
  cases e
  exact hn c hc rfl
theorem Is.len {h : HeadC} {M : Mod} (hI : Is h M) : h.cs.length = M.length := by
  have := hI.perm.length_eq
  simpa using this
theorem HeadAt.len {w : World} {h : HeadC} {O : Nat → Prop} (hA : HeadAt w h O) : h.kv.length = h.cs.length := by
  have := hA.perm.length_eq
  simpa using this
/-- A head's block is apart from the map's and the series'. -/
theorem HeadAt.hbNe {w : World} {h : HeadC} {O : Nat → Prop} (hA : HeadAt w h O) {c : SerC} (hc : c ∈ h.cs) : ¬ c.has h.hb := by
  have hs := hA.each c hc
  rintro (e | e | e)
  · exact (hA.blk.typed.ne hs.blk.typed (by decide)) e
  · exact (hA.blk.typed.ne (ownN_typed hs.lab e) (by decide)) rfl
  · exact (hA.blk.typed.ne (ownN_typed hs.smp e) (by decide)) rfl
theorem HeadAt.mbNe {w : World} {h : HeadC} {O : Nat → Prop} (hA : HeadAt w h O) {mb : Nat} (hm : h.mv = some mb) : h.hb ≠ mb ∧ ∀ c ∈ h.cs, ¬ c.has mb := by
  refine ⟨hA.blk.typed.ne_map (hA.map mb hm), fun c hc => ?_⟩
  have hs := hA.each c hc
  rintro (e | e | e)
  · exact (hs.blk.typed.ne_map (hA.map mb hm)) e.symm
  · exact ((ownN_typed hs.lab e).ne_map (hA.map mb hm)) rfl
  · exact ((ownN_typed hs.smp e).ne_map (hA.map mb hm)) rfl
end Go.Proofs.YtnbfbnhiikliaaaGreat.Hd
