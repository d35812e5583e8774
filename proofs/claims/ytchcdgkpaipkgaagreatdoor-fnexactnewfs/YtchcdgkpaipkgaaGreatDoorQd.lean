/- Devices: writes and devices, and what is asked of them; no program in it. Rows of writes: how they lie; a row behind a row. Rows of writes: what laws.toWrite, toWriteS, eqWrite, eqWriteS, szWrite, szWriteS do. Rows of writes: what laws.markWriteS and heldWriteS do. Rows of texts: what laws.szStringS does. Blocks of cells: read, written, kept. Devices: how they lie; what laws.szDev, toDev, eqDev, markDev, heldDev do. Devices: results that are devices; laws.toDev; spec.NewDev, impl.NewDev. Texts that are too long: impl.tooLong; slices.ContainsFunc of it. 'append' onto a row without room: nothing old is touched. No word of the program. Devices: spec.l8WriteOk, spec.DevOk; spec.NewDev, impl.NewDev. Devices: spec.l8Copy. Devices: spec.l8Copy. Devices: the bit of a mask; impl.choice.has. Devices: spec.l8Done. Devices: spec.Flush, spec.Crash. strings.Clone. Devices, impl: isNoWrite, slices.ContainsFunc of it, writesFit, DevOk. Devices, impl: copyTexts, copyWrites. Devices, impl: copied, settled, Flush, Crash. Devices, impl: settled. Devices, impl: Flush, Crash, NewDev; spec.NewDev. -/
import Derived.Test.YtchcdgkpaipkgaaGreatDoorRows
import Derived.Test.YtchcdgkpaipkgaaGreatDoorMa
import Derived.Test.YtchcdgkpaipkgaaGreatDoorMq
import Derived.Test.YtchcdgkpaipkgaaGreatDoorStS
import Derived.Test.YtchcdgkpaipkgaaGreatDoorNa
import Derived.Test.YtchcdgkpaipkgaaGreatDoorMl
import Derived.Test.YtchcdgkpaipkgaaGreatDoorMbt
import Derived.Test.YtchcdgkpaipkgaaGreatDoorMu
import Derived.Laws.AppendOwnNone
import Derived.WalkKit
import Derived.WalkSpells
import Derived.WalkLawsBesides
import Derived.Deep.QuietTactic
import Derived.BigQuiet
import Derived.Deep.Onto
import Derived.Lib.QuietBelow
import Derived.Lib.SmallJoins
import Derived.Deep.RegionHeld3
import Derived.Deep.RegionLaw
import Derived.MapKept
import Derived.Laws.AppendOwn
namespace Go.Proofs.YtchcdgkpaipkgaaGreatDoor

section
open Go.RowKit

/-- a write -/
structure Wr where
  block : Int
  text : ByteArray
  deriving DecidableEq
instance : Inhabited Wr := ⟨⟨0, ⟨#[]⟩⟩⟩
/-- a device -/
structure Dv where
  blocks : List ByteArray
  pend : List Wr
  deriving DecidableEq
instance : Inhabited Dv := ⟨⟨[], []⟩⟩

def wrB (x : Wr) : Bool := decide (0 ≤ x.block ∧ x.block < 18 ∧ x.text.size ≤ 4000)
def wrsB (l : List Wr) : Bool := l.all wrB
def txtB (l : List ByteArray) : Bool := l.all fun t => decide (t.size ≤ 4000)
def devB (d : Dv) : Bool := decide (d.blocks.length = 18 ∧ d.pend.length ≤ 40) && (txtB d.blocks && wrsB d.pend)
def newDv : Dv := ⟨List.replicate 18 ⟨#[]⟩, []⟩
/-- what Put answers -/
def putFits (d : Dv) (l : List Wr) : Bool := decide (l.length + d.pend.length ≤ 40) && wrsB l
def putN (d : Dv) (l : List Wr) : Dv × Bool :=
  if devB d then (if putFits d l then (⟨d.blocks, d.pend ++ l⟩, true) else (d, false)) else (⟨[], []⟩, false)
/-- the writes of l that are kept are done, in their order; the first one has the number i -/
def doneN (keep : Nat → Bool) : Nat → List Wr → List ByteArray → List ByteArray
  | _, [], b => b
  | i, x :: l, b => doneN keep (i + 1) l (if keep i then b.set x.block.toNat x.text else b)
/-- the bit i of the mask -/
def bitB (mask : Int) (i : Nat) : Bool := decide (0 ≤ mask) && (bits .and .i64 (mask / 2 ^ i) 1 == 1)
theorem bit_all (i : Nat) (h : i < 40) : bitB 1099511627775 i = true := by
  have key : ∀ j : Fin 40, bitB 1099511627775 j.val = true := by decide
  exact key ⟨i, h⟩
theorem bit_none (i : Nat) : bitB 0 i = false := by
  unfold bitB
  rw [Int.zero_ediv]
  rfl
def keptN (keep : Nat → Bool) (d : Dv) : Dv := if devB d then ⟨doneN keep 0 d.pend d.blocks, []⟩ else ⟨[], []⟩
theorem doneN_len (keep : Nat → Bool) : ∀ (i : Nat) (l : List Wr) (b : List ByteArray), (doneN keep i l b).length = b.length
  | _, [], _ => rfl
  | i, x :: l, b => by rw [doneN, doneN_len keep (i + 1) l]; split <;> simp
theorem doneN_append (keep : Nat → Bool) : ∀ (i : Nat) (l m : List Wr) (b : List ByteArray), doneN keep i (l ++ m) b = doneN keep (i + l.length) m (doneN keep i l b)
  | i, [], m, b => by simp [doneN]
  | i, x :: l, m, b => by
    rw [List.cons_append, doneN, doneN_append keep (i + 1) l m, doneN, List.length_cons, show i + 1 + l.length = i + (l.length + 1) by omega]
theorem doneN_step (keep : Nat → Bool) (l : List Wr) (b : List ByteArray) (k : Nat) (h : k < l.length) :
    doneN keep 0 (l.take (k + 1)) b = if keep k then (doneN keep 0 (l.take k) b).set l[k]!.block.toNat l[k]!.text else doneN keep 0 (l.take k) b := by
  rw [List.take_succ_eq_append_getElem h, doneN_append, Nat.zero_add, List.length_take, Nat.min_eq_left (by omega), getElem!_pos l k h]
  rfl
theorem doneN_congr {keep keep' : Nat → Bool} : ∀ (i : Nat) (l : List Wr) (b : List ByteArray), (∀ t, t < l.length → keep (i + t) = keep' (i + t)) → doneN keep i l b = doneN keep' i l b
  | _, [], _, _ => rfl
  | i, x :: l, b, h => by
    have h0 := h 0 (by simp)
    rw [Nat.add_zero] at h0
    have ih := doneN_congr (keep := keep) (keep' := keep') (i + 1) l (if keep' i then b.set x.block.toNat x.text else b) (fun t ht => by have := h (t + 1) (by rw [List.length_cons]; omega); rwa [show i + (t + 1) = i + 1 + t by omega] at this)
    rw [doneN, doneN, h0, ih]
theorem keptN_congr {keep keep' : Nat → Bool} (d : Dv) (h : ∀ t, t < 40 → keep t = keep' t) : keptN keep d = keptN keep' d := by
  unfold keptN
  by_cases hd : devB d = true
  · rw [if_pos hd, if_pos hd, doneN_congr 0 d.pend d.blocks (fun t ht => ?_)]
    rw [Nat.zero_add]
    simp only [devB, Bool.and_eq_true, decide_eq_true_eq] at hd
    exact h t (by omega)
  · rw [if_neg hd, if_neg hd]
theorem devB_iff (d : Dv) : devB d = true ↔ (d.blocks.length = 18 ∧ d.pend.length ≤ 40) ∧ (∀ t, t < d.blocks.length → d.blocks[t]!.size ≤ 4000) ∧ ∀ t, t < d.pend.length → 0 ≤ d.pend[t]!.block ∧ d.pend[t]!.block < 18 ∧ d.pend[t]!.text.size ≤ 4000 := by
  unfold devB txtB wrsB wrB
  simp only [Bool.and_eq_true, decide_eq_true_eq, List.all_eq_true]
  constructor
  · rintro ⟨h1, h2, h3⟩
    exact ⟨h1, fun t ht => by rw [getElem!_pos _ t ht]; exact h2 _ (List.getElem_mem ht), fun t ht => by rw [getElem!_pos _ t ht]; exact h3 _ (List.getElem_mem ht)⟩
  · rintro ⟨h1, h2, h3⟩
    refine ⟨h1, fun x hx => ?_, fun x hx => ?_⟩
    · obtain ⟨t, ht, rfl⟩ := List.getElem_of_mem hx
      have := h2 t ht
      rwa [getElem!_pos _ t ht] at this
    · obtain ⟨t, ht, rfl⟩ := List.getElem_of_mem hx
      have := h3 t ht
      rwa [getElem!_pos _ t ht] at this
end

section
open Go.RowKit

/-- an write's cells -/
def encW (e : Wr) : List Value := [.int .i64 e.block, .string e.text]
theorem encW_len (e : Wr) : (encW e).length = 2 := rfl
theorem encW_one (e : Wr) : ∀ v ∈ encW e, v.oneCell' = true := by
  intro v hv
  simp only [encW, List.mem_cons, List.not_mem_nil, or_false] at hv
  rcases hv with rfl | rfl <;> rfl
def flatW (l : List Wr) : List Value := l.flatMap encW
theorem flatW_len (l : List Wr) : (flatW l).length = l.length * 2 := by
  unfold flatW
  induction l with
  | nil => rfl
  | cons c l ih => rw [List.flatMap_cons, List.length_append, ih, encW_len, List.length_cons]; omega
theorem flatW_append (l m : List Wr) : flatW (l ++ m) = flatW l ++ flatW m := by simp [flatW]
theorem flatW_cons (e : Wr) (l : List Wr) : flatW (e :: l) = encW e ++ flatW l := by simp [flatW]
theorem flatW_one (e : Wr) : flatW [e] = encW e := by simp [flatW]
theorem flatW_cell (l : List Wr) (v : Value) (hv : v ∈ flatW l) : v.oneCell' = true := by
  unfold flatW at hv
  obtain ⟨e, _, he⟩ := List.mem_flatMap.1 hv
  exact encW_one e v he
/-- the cells of write e at place o -/
structure CellsW (w : World) (b o : Nat) (e : Wr) : Prop where
  c0 : w.cell? ⟨b, o, none⟩ = some (.int .i64 e.block)
  c1 : w.cell? ⟨b, o + 1, none⟩ = some (.string e.text)
theorem flatW_at : ∀ (l : List Wr) (j : Nat), j < l.length → ∀ t, t < 2 → (flatW l)[j * 2 + t]? = (encW l[j]!)[t]?
  | [], j, h, _, _ => by simp at h
  | e :: l, 0, _, t, ht => by
    rw [flatW_cons, List.getElem?_append_left (by rw [encW_len]; omega), Nat.zero_mul, Nat.zero_add]; rfl
  | e :: l, j + 1, h, t, ht => by
    have ih := flatW_at l j (by simpa using h) t ht
    rw [flatW_cons, List.getElem?_append_right (by rw [encW_len]; omega), encW_len, show (j + 1) * 2 + t - 2 = j * 2 + t by omega, ih]
    rfl

/-- the slice v reads as the writes l -/
def WrsAt (w : World) (v : Value) (l : List Wr) : Prop :=
  ∃ a cap, v = .slice a l.length cap ∧ (a = none → cap = 0) ∧ ∀ t, t < l.length → ∃ b off, a = some ⟨b, off, none⟩ ∧ b < w.heap.size ∧ CellsW w b (off + t * 2) l[t]!

/-- the slice v is a row of writes that lies from block base on and is the call's own -/
def WrRow (w : World) (base : Nat) (v : Value) (l : List Wr) : Prop := w.ownsRow base 78 2 v l.length (flatW l)

theorem WrRow.at {w : World} {base : Nat} {v : Value} {l : List Wr} (h : WrRow w base v l) : WrsAt w v l := by
  rcases h.2 with ⟨rfl, h0⟩ | ⟨g, cap, cur, rfl, hg, hh, hnc, hcp, hcs, htake⟩
  · exact ⟨none, 0, by rw [h0], fun _ => rfl, fun t ht => by omega⟩
  · refine ⟨some ⟨g, 0, none⟩, cap, rfl, fun h => (by cases h), fun t ht => ⟨g, 0, rfl, lt_of_block hh, ?_⟩⟩
    have key : ∀ s, s < 2 → w.cell? ⟨g, 0 + t * 2 + s, none⟩ = (encW l[t]!)[s]? := fun s hs => by
      rw [Nat.zero_add, World.ownsRow.cellAt h _ (by omega), flatW_at l t ht s hs]
    exact ⟨key 0 (by omega), key 1 (by omega)⟩
theorem CellsW.below {w w' : World} {b o : Nat} {e : Wr} (h : CellsW w b o e) (hl : b < w.heap.size) (hb : Below w.heap.size w w') : CellsW w' b o e :=
  ⟨(hb.cell (p := ⟨b, o, none⟩) hl).trans h.c0, (hb.cell (p := ⟨b, o + 1, none⟩) hl).trans h.c1⟩
theorem WrsAt.below {w w' : World} {v : Value} {l : List Wr} (h : WrsAt w v l) (b : Below w.heap.size w w') : WrsAt w' v l := by
  obtain ⟨a, cap, rfl, hn, hc⟩ := h
  refine ⟨a, cap, rfl, hn, fun t ht => ?_⟩
  obtain ⟨bb, off, h1, h2, h3⟩ := hc t ht
  exact ⟨bb, off, h1, Nat.lt_of_lt_of_le h2 b.size, h3.below h2 b⟩
theorem WrRow.below {w w' : World} {base : Nat} {v : Value} {l : List Wr} (h : WrRow w base v l) (b : Below w.heap.size w w') : WrRow w' base v l :=
  ⟨h.1, by
    rcases h.2 with h0 | ⟨g, cap, cur, e, hg, hh, r⟩
    · exact .inl h0
    · exact .inr ⟨g, cap, cur, e, hg, (b.block g (lt_of_block hh)).trans hh, r⟩⟩
theorem WrRow.mono {w : World} {base base' : Nat} {v : Value} {l : List Wr} (h : WrRow w base v l) (hb : base' ≤ base) : WrRow w base' v l :=
  ⟨h.1, by
    rcases h.2 with h0 | ⟨g, cap, cur, e, hg, r⟩
    · exact .inl h0
    · exact .inr ⟨g, cap, cur, e, Nat.le_trans hb hg, r⟩⟩

theorem Tryz.infoW : (Tryz.prog.info? 78).map (fun i => (i.zero, i.size, i.bytes)) = some (some (.agg #[.int .i64 0, .string ⟨#[]⟩]), 2, 24) := by kernel_rfl

/-- a new row that is empty, as the walk has it -/
theorem lit_wrs (w : World) : WrRow (w.alloc (.cells #[] 78)) w.heap.size (.slice (some ⟨w.heap.size, 0, none⟩) 0 0) [] :=
  World.ownsRow_lit (base := w.heap.size) (e := 78) (size := 2) w #[] 0 (Nat.le_refl _) (by unfold maxLen; omega) rfl
/-- a new block with one write -/
theorem one_wr (w : World) (e : Wr) : WrsAt (w.alloc (.cells #[.int .i64 e.block, .string e.text] 78)) (.slice (some ⟨w.heap.size, 0, none⟩) 1 1) [e] := by
  refine ⟨_, _, rfl, fun h => (by cases h), fun t ht => ⟨w.heap.size, 0, rfl, by simp, ?_⟩⟩
  obtain rfl : t = 0 := by simpa using ht
  refine ⟨?_, ?_⟩ <;> rw [World.cell?_alloc_mark] <;> rfl

/-- 'append(out, x...)', out a row of the call's own, x any row of writes -/
theorem append_wrs (w : World) {ops : Array Oper} {rest : List Oper} {o : Oper} {a : Act} {Q : Exit → Act → World → Prop} (hgd : o.guard = none) (s x : Operand)
    (ho : o.op = .call { callee := .builtin .append, args := #[s, x], argTypes := #[26, 26] }) (base : Nat)
    (v u : Value) (l m : List Wr) (hl : l.length + m.length ≤ 1099511627776) (hown : WrRow w base v l) (hu : WrsAt w u m) (hs : a.eval s = v) (hx : a.eval x = u)
    (hbase : base ≤ w.heap.size)
    (h : ∀ v' w', WrRow w' base v' (l ++ m) → Below base w w' → wpList Tryz.prog ops Q rest (a.put o.dst v') w') :
    wpList Tryz.prog ops Q (o :: rest) a w := by
  obtain ⟨i0, hi, hz0, hz1, hz2⟩ := info_parts Tryz.infoW
  obtain ⟨ad, cap, rfl, hn, hc⟩ := hu
  cases ad with
  | none =>
    have hc0 := hn rfl
    have hm : m = [] := by
      cases m with
      | nil => rfl
      | cons e m => obtain ⟨b, off, h1, _⟩ := hc 0 (by simp); cases h1
    subst hm hc0
    refine wpList_append_own_none hgd s x 26 ho base 78 i0 2 Tryz.underlying26 hi v l.length (flatW l) hs hown hx ?_
    refine h v w (by rw [List.append_nil]; exact hown) (Below.refl _ _)
  | some ad =>
    have hcl : ∀ j y, (flatW m)[j]? = some y → w.cell? (ad.add j) = some y := by
      intro j y hy
      have hj : j < m.length * 2 := by
        have := (List.getElem?_eq_some_iff.1 hy).1
        rwa [flatW_len] at this
      obtain ⟨b1, off1, e, _, hcj⟩ := hc (j / 2) (by omega)
      cases e
      have hjj : j = j / 2 * 2 + j % 2 := by omega
      have h4 := flatW_at m (j / 2) (by omega) (j % 2) (by omega)
      rw [← hjj, hy] at h4
      rw [Addr.add_lit, hjj, ← Nat.add_assoc]
      have : j % 2 < 2 := by omega
      generalize j % 2 = s at *
      rcases s with _ | _ | s
      · exact hcj.c0.trans h4.symm
      · exact hcj.c1.trans h4.symm
      · omega
    refine wpList_append_own _ hgd s x 26 ho base 78 i0 _ 2 24 Tryz.underlying26 hi hz0 hz1 hz2 rfl (by decide) v l.length (flatW l) hs hown ad m.length cap (flatW m) hx (flatW_len m) hcl (flatW_cell m) (by unfold maxLen; omega) (by omega) hbase ?_
    intro v' w' hown' hgrow _
    refine h v' w' ?_ ?_
    · unfold WrRow
      rw [flatW_append, List.length_append]
      exact hown'
    · refine (Below.refl base w).grown hgrow hbase ?_
      intro k hk
      exact (World.ownsRow.lt hown k hk).1
end

section
open Go.RowKit Go.Sort


set_option maxRecDepth 100000 in
set_option maxHeartbeats 1000000 in
theorem eqWr_any (a b : Wr) (w : World) :
    Calls Tryz.prog 51 #[.agg #[.int .i64 a.block, .string a.text], .agg #[.int .i64 b.block, .string b.text]] w fun x w' => x = .returned (.bool (decide (a = b))) ∧ Below w.heap.size w w' := by
  obtain ⟨h, s⟩ := a
  obtain ⟨h', s'⟩ := b
  have hb := (below_lit w (.cells #[.int .i64 h, .string s] 78)).alloc (by simp) (.cells #[.int .i64 h', .string s'] 78)
  have HR : Hid (∀ r : Bool, (r = true ↔ h = h' ∧ s = s') → decide ((⟨h, s⟩ : Wr) = ⟨h', s'⟩) = r) := fun r hr => by
    rw [Bool.eq_iff_iff, hr, decide_eq_true_eq, Wr.mk.injEq]
  dsimp only
  generalize decide ((⟨h, s⟩ : Wr) = ⟨h', s'⟩) = r at HR ⊢
  by_cases e1 : h = h'
  · by_cases e3 : s = s'
    · have f1 : (h != h') = false := by simp [e1]
      have f3 : (s.toList == s'.toList) = true := by simp [e3]
      have hr := HR.out true (by simp [e1, e3])
      clear e1 e3
      go_enter Tryz.func51, Tryz.ntmps51
      go_wp2
      go_ret
      exact ⟨by rw [hr]; rfl, hb⟩
    · have f1 : (h != h') = false := by simp [e1]
      have f3 : (s.toList == s'.toList) = false := by rw [beq_eq_false_iff_ne]; exact fun e => e3 (list_ext (by simpa [ByteArray.toList_eq] using e))
      have hr := HR.out false (by simp [e3])
      clear e1 e3
      go_enter Tryz.func51, Tryz.ntmps51
      go_wp2
      go_ret
      exact ⟨by rw [hr]; rfl, hb⟩
  · have f1 : (h != h') = true := by simp [e1]
    have hr := HR.out false (by simp [e1])
    clear e1
    go_enter Tryz.func51, Tryz.ntmps51
    go_wp2
    go_ret
    exact ⟨by rw [hr]; rfl, hb⟩

theorem wrs_ext (l m : List Wr) (hl : l.length = m.length) (h : ∀ t, t < l.length → l[t]! = m[t]!) : l = m := by
  apply List.ext_getElem hl
  intro t h1 h2
  have := h t h1
  rwa [getElem!_pos l t h1, getElem!_pos m t h2] at this

theorem eqW_any (a b : Wr) (w : World) (d : Nat) (os : Array Obj) :
    Calls Tryz.prog 51 #[.agg #[.int .i64 a.block, .string a.text], .agg #[.int .i64 b.block, .string b.text]] (grow (redrawn w d) os) fun x w'' => x = .returned (.bool (decide (a = b))) ∧ ∃ p : Regrown, w'' = grow (redrawn w p.d) p.os :=
  Calls.regrown_of (eqWr_any a b _)

set_option maxRecDepth 100000 in
set_option maxHeartbeats 1000000 in
theorem eqWrS_any (v u : Value) (l m : List Wr) (w : World) (hl : l.length ≤ 9223372036854775807) (hv : WrsAt w v l) (hu : WrsAt w u m) :
    Calls Tryz.prog 34 #[v, u] w fun e w' => e = .returned (.bool (decide (l = m))) ∧ Below w.heap.size w w' := by
  obtain ⟨a, ca, rfl, -, hva⟩ := hv
  obtain ⟨b, cb, rfl, -, hub⟩ := hu
  by_cases hlen : l.length = m.length
  · have hlen' : (l.length : Int) = (m.length : Int) := by omega
    obtain ⟨n, HN⟩ : ∃ n, Hid (n = m.length) := ⟨_, rfl⟩
    rw [hlen] at hva hl ⊢
    rw [← HN.out] at hva hub hl ⊢
    go_enter Tryz.func34, Tryz.ntmps34
    go_wp2
    go_loopw [5] (fun i wr => ∃ k : Nat, k ≤ n ∧ i = .int .i64 k ∧ Hid (∀ t, t < k → l[t]! = m[t]!) ∧ Below w.heap.size w wr) (fun i _ => n - (intOf i).toNat)
    case atStart => exact ⟨0, Nat.zero_le _, rfl, fun t ht => by omega, Below.refl _ _⟩
    case round =>
      obtain ⟨k, hk, rfl, HEQ, hbel⟩ := hrel
      by_cases hlt : k < n
      · obtain ⟨b1, o1, rfl, hb1, hc1⟩ := hva k hlt
        obtain ⟨b2, o2, rfl, hb2, hc2⟩ := hub k hlt
        have hc1 := hc1.below hb1 hbel
        have hc2 := hc2.below hb2 hbel
        have HX : Hid (l[k]! = m[k]! → ∀ t, t < k + 1 → l[t]! = m[t]!) := fun h t ht => by
          by_cases e : t = k
          · rw [e]; exact h
          · exact HEQ.out t (by omega)
        have HY : Hid (¬ l[k]! = m[k]! → ¬ l = m) := fun h e => h (by rw [e])
        generalize l[k]! = x at hc1 HX HY
        generalize m[k]! = y at hc2 HX HY
        have k0 := cell_regrown hc1.c0
        have k1 := cell_regrown hc1.c1
        have j0 := cell_regrown hc2.c0
        have j1 := cell_regrown hc2.c1
        have hE := fun d os => eqW_any x y wr d os
        have hkn : (k : Int) < (n : Int) := by omega
        have hk0 : (0 : Int) ≤ (k : Int) := by omega
        clear hva hub hc1 hc2
        by_cases hxy : x = y
        · have hd : decide (x = y) = true := by simp [hxy]
          have HX' : Hid _ := HX.out hxy
          rw [hd] at hE
          clear HX HY hd hxy
          go_wp2
          refine wp_region_quiet_below (by kernel_rfl) (by kernel_rfl) ?_
          repeat (go_big_quiet_step (exact hE _ _))
          refine wpQuiet_nil ?_
          rintro w' ⟨⟨dq, osq⟩, rfl⟩
          have hbq := below_regrown wr dq osq
          generalize grow (redrawn wr dq) osq = w4 at hbq ⊢
          go_wp2
          go_roundw
          case rel => exact ⟨k + 1, by omega, by go_num, HX'.out, hbel.trans (hbq.mono hbel.size)⟩
          case measure => simp [intOf]; omega
        · have hd : decide (x = y) = false := by simp [hxy]
          have HY' : Hid _ := HY.out hxy
          rw [hd] at hE
          clear HX HY hd hxy
          go_wp2
          refine wp_region_quiet_below (by kernel_rfl) (by kernel_rfl) ?_
          repeat (go_big_quiet_step (exact hE _ _))
          refine wpQuiet_nil ?_
          rintro w' ⟨⟨dq, osq⟩, rfl⟩
          have hbq := below_regrown wr dq osq
          generalize grow (redrawn wr dq) osq = w4 at hbq ⊢
          go_wp2
          go_ret
          exact ⟨by rw [decide_eq_false HY'.out]; rfl, hbel.trans (hbq.mono hbel.size)⟩
      · obtain rfl : k = n := by omega
        go_wp2
        go_ret
        refine ⟨?_, hbel⟩
        have : l = m := wrs_ext l m hlen (fun t ht => HEQ.out t (by rw [HN.out]; omega))
        simp [this]
  · have hne : ((l.length : Int) != (m.length : Int)) = true := by simp; omega
    have hneq : ¬ l = m := fun e => hlen (by rw [e])
    go_enter Tryz.func34, Tryz.ntmps34
    go_wp2
    go_ret
    exact ⟨by simp [hneq], Below.refl _ _⟩

theorem flatW_set : ∀ (l : List Wr) (t : Nat) (e : Wr), t < l.length → ((flatW l).set (t * 2) (.int .i64 e.block)).set (t * 2 + 1) (.string e.text) = flatW (l.set t e)
  | [], t, e, h => by simp at h
  | x :: l, 0, e, _ => by simp [flatW_cons, encW]
  | x :: l, t + 1, e, h => by
    have ih := flatW_set l t e (by simpa using h)
    rw [List.set_cons_succ, flatW_cons, flatW_cons, ← ih]
    simp only [encW, List.cons_append, List.nil_append]
    rw [show (t + 1) * 2 = t * 2 + 1 + 1 by omega]
    simp only [List.set_cons_succ]

/-- the two cells of one write of a row of the call's own written anew -/
theorem rowW_put {w : World} {base g n cap : Nat} {l : List Wr} (h : w.ownsRow base 78 2 (.slice (some ⟨g, 0, none⟩) n cap) n (flatW l)) (t : Nat) (ht : t < l.length) (e : Wr) :
    ((w.setCell ⟨g, t * 2, none⟩ (.int .i64 e.block)).setCell ⟨g, t * 2 + 1, none⟩ (.string e.text)).ownsRow base 78 2 (.slice (some ⟨g, 0, none⟩) n cap) n (flatW (l.set t e)) := by
  have h1 := (h.stored (t * 2) (.int .i64 e.block)).1
  have h2 := (h1.stored (t * 2 + 1) (.string e.text)).1
  rw [flatW_set l t e ht] at h2
  exact h2
/-- each of its cells is there and may be written -/
theorem rowW_cells {w : World} {base g n cap : Nat} {xs : List Value} (h : w.ownsRow base 78 2 (.slice (some ⟨g, 0, none⟩) n cap) n xs) (t : Nat) (ht : t < n * 2) : (∃ u, w.cell? ⟨g, t, none⟩ = some u) ∧ w.frozen? ⟨g, t, none⟩ = false :=
  ⟨⟨_, (h.cellAt t ht).trans (List.getElem?_eq_getElem (by have := h.1; omega))⟩, h.frozenAt t⟩

/-- the first j of l, then empty ones -/
def fillW (j : Nat) (l : List Wr) : List Wr := l.take j ++ List.replicate (l.length - j) default
theorem fillW_len (j : Nat) (l : List Wr) : (fillW j l).length = l.length := by unfold fillW; simp; omega
theorem fillW_step (j : Nat) (l : List Wr) (h : j < l.length) : (fillW j l).set j l[j]! = fillW (j + 1) l := by
  have e : min j l.length = j := by omega
  unfold fillW
  rw [List.set_append_right _ _ (by rw [List.length_take, e]; exact Nat.le_refl _), List.take_succ_eq_append_getElem h, getElem!_pos l j h, List.length_take, e, Nat.sub_self]
  rw [show l.length - j = (l.length - (j + 1)) + 1 by omega, List.replicate_succ, List.set_cons_zero, List.append_assoc]
  rfl
theorem flatW_zero (n : Nat) : (madeCells #[.int .i64 0, .string ⟨#[]⟩] (n * 2)).toList = flatW (List.replicate n default) := by
  apply List.ext_getElem?
  intro j
  by_cases hj : j < n * 2
  · have h1 := flatW_at (List.replicate n default) (j / 2) (by simp; omega) (j % 2) (by omega)
    have h2 : (List.replicate n (default : Wr))[j / 2]! = default := by
      rw [getElem!_pos _ _ (by simp; omega)]; simp
    rw [h2, show j / 2 * 2 + j % 2 = j by omega] at h1
    rw [h1]
    simp only [madeCells, Array.toList_map, List.getElem?_map, Array.toList_range, List.getElem?_range hj, Option.map_some]
    have : j % 2 < 2 := by omega
    show some (#[Value.int .i64 0, .string ⟨#[]⟩][j % 2]!) = _
    generalize j % 2 = s at *
    rcases s with _ | _ | s
    · rfl
    · rfl
    · omega
  · rw [List.getElem?_eq_none (by rw [Array.length_toList, size_madeCells]; omega), List.getElem?_eq_none (by rw [flatW_len]; simp; omega)]
end

section
open Go.RowKit Go.Sort

/-- the marked write whose first number is m -/
def mkW (m : Nat) : Wr := ⟨m, mkT (m + 1)⟩
def marksW (k : Nat) : Nat → List Wr
  | 0 => []
  | n + 1 => marksW k n ++ [mkW (k + 2 * n)]
theorem marksW_len (k n : Nat) : (marksW k n).length = n := by
  induction n with
  | zero => rfl
  | succ n ih => simp [marksW, ih]
def markdW (k j : Nat) (l : List Wr) : List Wr := marksW k j ++ l.drop j
theorem markdW_len {k j : Nat} {l : List Wr} (h : j ≤ l.length) : (markdW k j l).length = l.length := by
  simp [markdW, marksW_len]; omega
theorem markdW_step {k j : Nat} {l : List Wr} (h : j < l.length) : (markdW k j l).set j (mkW (k + 2 * j)) = markdW k (j + 1) l := by
  unfold markdW
  rw [List.set_append_right _ _ (by rw [marksW_len]; exact Nat.le_refl _), marksW_len, Nat.sub_self, List.drop_eq_getElem_cons h, List.set_cons_zero]
  simp [marksW]
theorem markdW_all (k : Nat) (l : List Wr) : markdW k l.length l = marksW k l.length := by simp [markdW]
theorem marksW_get (k n t : Nat) (h : t < n) : (marksW k n)[t]! = mkW (k + 2 * t) := by
  induction n with
  | zero => omega
  | succ n ih =>
    rw [getElem!_pos _ _ (by rw [marksW_len]; exact h)]
    simp only [marksW]
    by_cases ht : t < n
    · rw [List.getElem_append_left (by rw [marksW_len]; exact ht), ← ih ht, getElem!_pos _ _ (by rw [marksW_len]; exact ht)]
    · obtain rfl : t = n := by omega
      rw [List.getElem_append_right (by rw [marksW_len]; exact Nat.le_refl _)]
      simp [marksW_len]

set_option maxRecDepth 100000 in
set_option maxHeartbeats 1000000 in
theorem markWrS_any (v : Value) (l : List Wr) (k : Nat) (base : Nat) (w : World) (hv : WrRow w base v l) (hl : l.length ≤ 1048577) (hk0 : 0 < k) (hk1 : k ≤ 100000000) :
    Calls Tryz.prog 38 #[v, .int .i64 k] w fun e w' => e = .returned (.int .i64 ((k + 2 * l.length : Nat) : Int)) ∧ WrRow w' base v (marksW k l.length) ∧ w.grownBy w' v.ownBlock := by
  rcases hv.2 with ⟨rfl, h0⟩ | ⟨g, cap, cur, rfl, hg, hh, hnc, hcp, hcs, htake⟩
  · obtain rfl : l = [] := List.length_eq_zero_iff.1 h0
    go_enter Tryz.func38, Tryz.ntmps38
    go_wp2
    refine wp_loop_rounds 1 ?_
    rw [rounds_succ]
    go_wp2
    go_ret
    exact ⟨by simp, hv, ⟨rfl, rfl, rfl, Nat.le_refl _, fun _ _ _ => rfl⟩⟩
  · obtain ⟨n, HN⟩ : ∃ n, Hid (n = l.length) := ⟨_, rfl⟩
    have hv1 : w.ownsRow base 78 2 (.slice (some ⟨g, 0, none⟩) n cap) n (flatW (markdW k 0 l)) := by
      have : markdW k 0 l = l := by simp [markdW, marksW]
      rw [this, HN.out]; exact hv
    have HM : Hid (∀ j, j < n → (markdW k j l).set j (mkW (k + 2 * j)) = markdW k (j + 1) l) := fun j hj => markdW_step (by rw [← HN.out]; exact hj)
    have HLN : Hid (∀ j, j ≤ n → (markdW k j l).length = n) := fun j hj => by rw [HN.out] at hj ⊢; exact markdW_len hj
    have HE : Hid (markdW k n l = marksW k l.length) := by show _ = _; rw [HN.out]; exact markdW_all k l
    clear hv hh hcs htake
    rw [← HN.out] at hl hnc ⊢
    go_enter Tryz.func38, Tryz.ntmps38
    go_wp2
    go_loopw [1, 5] (fun q i wr => ∃ (j m : Nat), j ≤ n ∧ i = .int .i64 j ∧ q = .int .i64 m ∧ Hid (m = k + 2 * j) ∧ wr.ownsRow base 78 2 (.slice (some ⟨g, 0, none⟩) n cap) n (flatW (markdW k j l)) ∧ w.grownBy wr (some g)) (fun _ i _ => n - (intOf i).toNat)
    case atStart => exact ⟨0, k, Nat.zero_le _, rfl, rfl, rfl, hv1, ⟨rfl, rfl, rfl, Nat.le_refl _, fun _ _ _ => rfl⟩⟩
    case round =>
      obtain ⟨j, m, hj, rfl, rfl, HMM, hown, hgb⟩ := hrel
      have hm0 : 0 < m := by have := HMM.out; omega
      have hm1 : m ≤ 200000000 := by have := HMM.out; omega
      by_cases hlt : j < n
      · obtain ⟨⟨u0, d0⟩, f0⟩ := rowW_cells hown (j * 2) (by omega)
        have hs0 := (hown.stored (j * 2) (.int .i64 (m : Int))).1
        have HP : Hid (∀ w3, Below _ (wr.setCell ⟨g, j * 2, none⟩ (.int .i64 (m : Int))) w3 → ((w3.setCell ⟨g, j * 2 + 1, none⟩ (.string (mkT (m + 1)))).ownsRow base 78 2 (.slice (some ⟨g, 0, none⟩) n cap) n (flatW (markdW k (j + 1) l))) ∧ (∀ t, t < n * 2 → (∃ u, w3.cell? ⟨g, t, none⟩ = some u) ∧ w3.frozen? ⟨g, t, none⟩ = false)) := fun w3 hb => by
          have h3 := own_below hs0 hb
          refine ⟨?_, fun t ht => rowW_cells h3 t ht⟩
          have h4 := (h3.stored (j * 2 + 1) (.string (mkT (m + 1)))).1
          have e := flatW_set (markdW k j l) j (mkW m) (by rw [HLN.out j hj]; exact hlt)
          rw [← HM.out j hlt, ← HMM.out, ← e]
          exact h4
        have HT := fun w' => markText_at ((m : Int) + 1) (m + 1) (by omega) w' (by omega) (by omega)
        have hgb2 := gbi_trans hgb (gbi_set wr g (j * 2) (.int .i64 (m : Int)))
        have HGB : Hid _ := hgb2
        clear hs0 hown hgb2
        go_wp2_with (go_at_call 37; refine (HT _).mono ?_; rintro e w3 ⟨rfl, b3⟩; obtain ⟨h3, hcc⟩ := HP.out w3 b3; obtain ⟨⟨u2, d2⟩, f2⟩ := hcc (j * 2 + 1) (by omega); have HS : Hid _ := h3; clear h3 hcc)
        go_roundw
        case rel => exact ⟨j + 1, m + 2, by omega, by go_num, by go_num, by show m + 2 = _; rw [HMM.out]; omega, HS.out, gbi_trans (gbi_trans HGB.out (gb_belowE b3)) (gbi_set _ _ _ _)⟩
        case measure => simp [intOf]; omega
      · obtain rfl : n = j := by omega
        rw [HE.out] at hown
        go_wp2
        go_ret
        refine ⟨by rw [HMM.out]; rfl, ?_, hgb⟩
        rw [← HN.out] at hown
        unfold WrRow
        rw [marksW_len]
        exact hown

set_option maxRecDepth 100000 in
set_option maxHeartbeats 1000000 in
theorem heldWrS_marks (v : Value) (n k : Nat) (w : World) (hn : n ≤ 1048577) (hk0 : 0 < k) (hk1 : k ≤ 100000000) (hv : WrsAt w v (marksW k n)) :
    Calls Tryz.prog 40 #[v, .int .i64 k] w fun e w' => e = .returned (.int .i64 ((k + 2 * n : Nat) : Int)) ∧ Below w.heap.size w w' := by
  obtain ⟨a, cap, rfl, -, hva⟩ := hv
  rw [marksW_len] at hva ⊢
  have HV : Hid (∀ t, t < n → ∃ b off, a = some ⟨b, off, none⟩ ∧ b < w.heap.size ∧ CellsW w b (off + t * 2) (mkW (k + 2 * t))) := fun t ht => by
    obtain ⟨b, off, h1, h2, h3⟩ := hva t ht
    rw [marksW_get k n t ht] at h3
    exact ⟨b, off, h1, h2, h3⟩
  clear hva
  go_enter Tryz.func40, Tryz.ntmps40
  go_wp2
  go_loopw [1, 5] (fun q i wr => ∃ (j m : Nat), j ≤ n ∧ i = .int .i64 j ∧ q = .int .i64 m ∧ Hid (m = k + 2 * j) ∧ Below w.heap.size w wr) (fun _ i _ => n - (intOf i).toNat)
  case atStart => exact ⟨0, k, Nat.zero_le _, rfl, rfl, rfl, Below.refl _ _⟩
  case round =>
    obtain ⟨j, m, hj, rfl, rfl, HMM, hbel⟩ := hrel
    have hm0 : 0 < m := by have := HMM.out; omega
    have hm1 : m ≤ 200000000 := by have := HMM.out; omega
    by_cases hlt : j < n
    · obtain ⟨b, off, rfl, hb, hc⟩ := HV.out j hlt
      rw [← HMM.out] at hc
      have hc1 := hc.below hb hbel
      have k0 := hc1.c0
      have k1 := hc1.c1
      dsimp only [mkW] at k0 k1
      have HT : ∀ (dd : Nat) (os : Array Obj), Calls Tryz.prog 37 #[.int .i64 ((m : Int) + 1)] (grow (redrawn wr dd) os) fun e w'' => e = .returned (.string (mkT (m + 1))) ∧ ∃ p : Regrown, w'' = grow (redrawn wr p.d) p.os := fun dd os => Calls.regrown_of (markText_at ((m : Int) + 1) (m + 1) (by omega) _ (by omega) (by omega))
      have q2 := cell_regrown k1
      generalize mkT (m + 1) = tx at k1 q2 HT
      have hj0 : (0 : Int) ≤ (j : Int) := by omega
      have hjn : (j : Int) < (n : Int) := by omega
      clear hc hc1
      go_wp2
      refine wp_region_quiet_below (by kernel_rfl) (by kernel_rfl) ?_
      repeat (go_big_quiet_step (exact HT _ _))
      refine wpQuiet_nil ?_
      rintro w' ⟨⟨dq, osq⟩, rfl⟩
      have hbq := below_regrown wr dq osq
      generalize grow (redrawn wr dq) osq = w3 at hbq ⊢
      go_wp2
      go_roundw
      case rel => exact ⟨j + 1, m + 2, by omega, by go_num, by go_num, by show m + 2 = _; rw [HMM.out]; omega, hbel.trans (hbq.mono hbel.size)⟩
      case measure => simp [intOf]; omega
    · obtain rfl : n = j := by omega
      go_wp2
      go_ret
      exact ⟨by rw [HMM.out]; rfl, hbel⟩
end

section
open Go.RowKit Go.Sort
end

section
open Go.RowKit

theorem cell_blk {w : World} {g : Nat} {cs : Array Value} {t : TypeId} {fr : Nat × Nat} (h : w.heap[g]? = some (.cells cs t fr)) (i : Nat) : w.cell? ⟨g, i, none⟩ = cs[i]? := by simp [World.cell?, h]
theorem own_same {w w' : World} {base size n : Nat} {e : TypeId} {v : Value} {xs : List Value} (h : w.ownsRow base e size v n xs) (hb : ∀ q, v.ownBlock = some q → w'.heap[q]? = w.heap[q]?) : w'.ownsRow base e size v n xs :=
  ⟨h.1, by
    rcases h.2 with h0 | ⟨g, cap, cur, e, hg, hh, r⟩
    · exact .inl h0
    · exact .inr ⟨g, cap, cur, e, hg, (hb g (by rw [e]; rfl)).trans hh, r⟩⟩
theorem own_gb {w w' : World} {base size n : Nat} {e : TypeId} {v : Value} {xs : List Value} {r : Option Nat} (h : w.ownsRow base e size v n xs) (g : w.grownBy w' r) (hne : ∀ q, v.ownBlock = some q → r ≠ some q) : w'.ownsRow base e size v n xs :=
  own_same h fun q hq => g.block q (World.ownsRow.lt h q hq).2 fun e => hne q hq (by rw [e])
theorem unfrozen_blk {w : World} {g : Nat} {cs : Array Value} {t : TypeId} (h : w.heap[g]? = some (.cells cs t (0, 0))) (i : Nat) : w.frozen? ⟨g, i, none⟩ = false := by simp [World.frozen?, h]
theorem block_set {w : World} {g i : Nat} {cs : Array Value} {t : TypeId} {fr : Nat × Nat} (h : w.heap[g]? = some (.cells cs t fr)) (v : Value) : (w.setCell ⟨g, i, none⟩ v).heap[g]? = some (.cells (cs.setIfInBounds i v) t fr) := by
  rw [setCell_eq_setRow w g i cs t fr v h]
  exact setRow_heap w g _ _ t _ h
theorem put2d {w : World} {g : Nat} {T : TypeId} {a0 a1 : Value} (x0 x1 : Value) (h : w.heap[g]? = some (.cells #[a0, a1] T (0, 0))) :
    ((w.setCell ⟨g, 0, none⟩ x0).setCell ⟨g, 1, none⟩ x1).heap[g]? = some (.cells #[x0, x1] T (0, 0)) := by
  have h1 := block_set (i := 0) h x0
  exact block_set (i := 1) h1 x1
theorem own_low {w : World} {base size n : Nat} {e : TypeId} {v : Value} {xs : List Value} (h : w.ownsRow base e size v n xs) {g : Nat} (hg : g < base) (o : Nat) (u : Value) : (w.setCell ⟨g, o, none⟩ u).ownsRow base e size v n xs := ownsRow_setCell_below h hg u
end

section
open Go.RowKit Go.Sort

/-- the device d lies at v -/
def DevAt (w : World) (v : Value) (d : Dv) : Prop := ∃ a b, v = .agg #[a, b] ∧ TxtsAt w a d.blocks ∧ WrsAt w b d.pend
/-- the device d lies at the slices a and b, the call's own from base on, no memory of it shared -/
structure DevRow (w : World) (base : Nat) (a b : Value) (d : Dv) : Prop where
  t : TxtRow w base a d.blocks
  p : WrRow w base b d.pend
  ap : ∀ q, a.ownBlock = some q → b.ownBlock ≠ some q
theorem DevRow.at {w : World} {base : Nat} {a b : Value} {d : Dv} (h : DevRow w base a b d) : DevAt w (.agg #[a, b]) d := ⟨a, b, rfl, h.t.at, h.p.at⟩
theorem DevRow.below {w w' : World} {base : Nat} {a b : Value} {d : Dv} (h : DevRow w base a b d) (hb : Below w.heap.size w w') : DevRow w' base a b d := ⟨own_below h.t hb, own_below h.p hb, h.ap⟩
theorem DevAt.below {w w' : World} {v : Value} {d : Dv} (h : DevAt w v d) (hb : Below w.heap.size w w') : DevAt w' v d := by
  obtain ⟨a, b, e, h1, h2⟩ := h
  exact ⟨a, b, e, h1.below hb, h2.below hb⟩
theorem DevRow.mono {w : World} {base base' : Nat} {a b : Value} {d : Dv} (h : DevRow w base a b d) (hb : base' ≤ base) : DevRow w base' a b d := ⟨h.t.mono hb, h.p.mono hb, h.ap⟩
theorem DevRow.mid {B T base : Nat} {w w' : World} {a b : Value} {d : Dv} (h : DevRow w base a b d) (m : MidB B T w w') (ha : ∀ q, a.ownBlock = some q → q < B ∨ T ≤ q) (hb : ∀ q, b.ownBlock = some q → q < B ∨ T ≤ q) : DevRow w' base a b d :=
  ⟨own_same h.t fun q hq => m.block q (World.ownsRow.lt h.t q hq).2 (ha q hq), own_same h.p fun q hq => m.block q (World.ownsRow.lt h.p q hq).2 (hb q hq), h.ap⟩
theorem DevRow.blk {w : World} {base : Nat} {a b : Value} {d : Dv} (h : DevRow w base a b d) : (∀ q, a.ownBlock = some q → base ≤ q ∧ q < w.heap.size) ∧ ∀ q, b.ownBlock = some q → base ≤ q ∧ q < w.heap.size := ⟨fun q hq => World.ownsRow.lt h.t q hq, fun q hq => World.ownsRow.lt h.p q hq⟩


set_option maxRecDepth 100000 in
set_option maxHeartbeats 1000000 in
theorem eqDev_any (u v : Value) (d e : Dv) (w : World) (hl : d.blocks.length ≤ 9223372036854775807) (hl2 : d.pend.length ≤ 9223372036854775807) (hu : DevAt w u d) (hv : DevAt w v e) :
    Calls Tryz.prog 18 #[u, v] w fun r w' => r = .returned (.bool (decide (d = e))) ∧ Below w.heap.size w w' := by
  obtain ⟨a, b, rfl, ha, hb⟩ := hu
  obtain ⟨a', b', rfl, ha', hb'⟩ := hv
  have B0 := below_lit w (.cells #[a, b] 28)
  have S0 : (w.alloc (.cells #[a, b] 28)).heap.size = w.heap.size + 1 := by simp
  have hP := (MapKept.heap_alloc w (.cells #[a, b] 28)).1
  have C0 := below_lit (w.alloc (.cells #[a, b] 28)) (.cells #[a', b'] 28)
  have S1 : ((w.alloc (.cells #[a, b] 28)).alloc (.cells #[a', b'] 28)).heap.size = w.heap.size + 1 + 1 := by simp
  have hR := (MapKept.heap_alloc (w.alloc (.cells #[a, b] 28)) (.cells #[a', b'] 28)).1
  have hP' := (C0.block w.heap.size (by omega)).trans hP
  rw [S0] at hR
  have D0 := B0.trans (C0.mono (by omega))
  have HE : Hid (decide (d = e) = (decide (d.blocks = e.blocks) && decide (d.pend = e.pend))) := by
    show _ = _
    obtain ⟨d1, d2⟩ := d
    obtain ⟨e1, e2⟩ := e
    simp
  have H1 := eqStringS_any a a' d.blocks e.blocks _ hl (ha.below D0) (ha'.below D0)
  have H2 := fun w' (h : Below (w.heap.size + 1 + 1) ((w.alloc (.cells #[a, b] 28)).alloc (.cells #[a', b'] 28)) w') => eqWrS_any b b' d.pend e.pend w' hl2 ((hb.below D0).below (by rw [S1]; exact h)) ((hb'.below D0).below (by rw [S1]; exact h))
  rw [S1] at H1
  generalize decide (d = e) = r at HE ⊢
  generalize decide (d.blocks = e.blocks) = r1 at HE H1
  generalize decide (d.pend = e.pend) = r2 at HE H2
  go_enter Tryz.func18, Tryz.ntmps18
  go_wp2_with fail
  refine H1.mono ?_
  rintro x w1 ⟨rfl, b1⟩
  have B1 := D0.trans (b1.mono (by omega))
  have p1 := cell_blk ((b1.block w.heap.size (by omega)).trans hP') 1
  have q1 := cell_blk ((b1.block (w.heap.size + 1) (by omega)).trans hR) 1
  dsimp at p1 q1
  cases r1 with
  | false =>
    go_wp2
    go_ret
    exact ⟨ret_bool (by rw [HE.out]; rfl), B1⟩
  | true =>
    go_wp2_with fail
    refine (H2 w1 b1).mono ?_
    rintro x w2 ⟨rfl, b2⟩
    have B2 := B1.trans (b2.mono B1.size)
    cases r2 with
    | false =>
      go_wp2
      go_ret
      exact ⟨ret_bool (by rw [HE.out]; rfl), B2⟩
    | true =>
      go_wp2
      go_ret
      exact ⟨ret_bool (by rw [HE.out]; rfl), B2⟩

set_option maxRecDepth 100000 in
set_option maxHeartbeats 1000000 in
theorem heldDev_marks (a b : Value) (n m k : Nat) (w : World) (hn : n ≤ 1048577) (hm : m ≤ 1048577) (hk0 : 0 < k) (hk1 : k ≤ 1000000) (ha : TxtsAt w a (marksT k n)) (hb : WrsAt w b (marksW (k + n) m)) :
    Calls Tryz.prog 26 #[.agg #[a, b], .int .i64 k] w fun e w' => e = .returned (.int .i64 ((k + n + 2 * m : Nat) : Int)) ∧ Below w.heap.size w w' := by
  have B0 := below_lit w (.cells #[a, b] 28)
  have S0 : (w.alloc (.cells #[a, b] 28)).heap.size = w.heap.size + 1 := by simp
  have hP := (MapKept.heap_alloc w (.cells #[a, b] 28)).1
  have H1 := heldStringS_marks a n k _ hn hk0 (by omega) (ha.below B0)
  have H2 := fun w' (hb' : Below (w.heap.size + 1) (w.alloc (.cells #[a, b] 28)) w') => heldWrS_marks b m (k + n) w' hm (by omega) (by omega) ((hb.below B0).below (by rw [S0]; exact hb'))
  rw [S0] at H1
  obtain ⟨k1, HK1⟩ : ∃ k1, Hid (k1 = k + n) := ⟨_, rfl⟩
  rw [← HK1.out] at H1 H2 ⊢
  obtain ⟨k2, HK2⟩ : ∃ k2, Hid (k2 = k1 + 2 * m) := ⟨_, rfl⟩
  rw [← HK2.out] at H2 ⊢
  go_enter Tryz.func26, Tryz.ntmps26
  go_wp2_with fail
  refine H1.mono ?_
  rintro e w1 ⟨rfl, b1⟩
  have B1 := B0.trans (b1.mono (by omega))
  have p1 := cell_blk ((b1.block w.heap.size (by omega)).trans hP) 1
  dsimp at p1
  have hk : ¬ ((k1 : Int) < 0) := by omega
  have hkk : ¬ ((k2 : Int) < 0) := by omega
  go_wp2_with fail
  refine (H2 w1 b1).mono ?_
  rintro e w2 ⟨rfl, b2⟩
  go_wp2
  go_ret
  exact ⟨rfl, B1.trans (b2.mono B1.size)⟩

set_option maxRecDepth 100000 in
set_option maxHeartbeats 1000000 in
theorem markDev_any (a b : Value) (d : Dv) (k base top : Nat) (w : World) (h : DevRow w base a b d) (ha : ∀ q, a.ownBlock = some q → q < top) (hb : ∀ q, b.ownBlock = some q → q < top) (hl : d.blocks.length ≤ 1048577) (hl2 : d.pend.length ≤ 1048577) (hk0 : 0 < k) (hk1 : k ≤ 1000000) :
    Calls Tryz.prog 22 #[.agg #[a, b], .int .i64 k] w fun e w' => e = .returned (.int .i64 ((k + d.blocks.length + 2 * d.pend.length : Nat) : Int)) ∧ DevRow w' base a b ⟨marksT k d.blocks.length, marksW (k + d.blocks.length) d.pend.length⟩ ∧ MidB base top w w' := by
  have B0 := below_lit w (.cells #[a, b] 28)
  have S0 : (w.alloc (.cells #[a, b] 28)).heap.size = w.heap.size + 1 := by simp
  have hP := (MapKept.heap_alloc w (.cells #[a, b] 28)).1
  have h1 := h.below B0
  have hblk := h.blk
  have H1 := markStringS_any a d.blocks k base _ h1.t hl hk0 (by omega)
  have H2 := fun w' (hr : WrRow w' base b d.pend) => markWrS_any b d.pend (k + d.blocks.length) base w' hr hl2 (by omega) (by omega)
  have hap := h.ap
  generalize d.blocks.length = n at H1 H2 ⊢
  generalize d.pend.length = m at H2 ⊢
  obtain ⟨k1, HK1⟩ : ∃ k1, Hid (k1 = k + n) := ⟨_, rfl⟩
  rw [← HK1.out] at H1 H2 ⊢
  obtain ⟨k2, HK2⟩ : ∃ k2, Hid (k2 = k1 + 2 * m) := ⟨_, rfl⟩
  rw [← HK2.out] at H2 ⊢
  go_enter Tryz.func22, Tryz.ntmps22
  go_wp2_with fail
  refine H1.mono ?_
  rintro e w1 ⟨rfl, r1, g1⟩
  have hP1 : w1.heap[w.heap.size]? = some (.cells #[a, b] 28) := (g1.block w.heap.size (by omega) fun e => by have := (hblk.1 _ e.symm).2; omega).trans hP
  have p1 := cell_blk hP1 1
  dsimp at p1
  have M1 : MidB base top w w1 := (MidB.of_below B0).trans (MidB.of_grown g1 fun q hq => ⟨(hblk.1 q hq).1, ha q hq⟩)
  have pr1 := own_gb h1.p g1 fun q hq e => hap q e hq
  go_wp2_with fail
  refine (H2 w1 pr1).mono ?_
  rintro e w2 ⟨rfl, r2, g2⟩
  have M2 := M1.trans (MidB.of_grown g2 fun q hq => ⟨(hblk.2 q hq).1, hb q hq⟩)
  have tr2 := own_gb r1 g2 fun q hq => hap q hq
  go_wp2
  go_ret
  exact ⟨rfl, ⟨tr2, r2, hap⟩, M2⟩
end

section
open Go.RowKit

theorem results_dev {fn : Func} {p : Tmp} (h : fn.results = #[.cell p 28]) (tmps : Array Value) (w : World) (g : Nat) (cs : Array Value) (hc : cs.size = 2)
    (hp : tmps.getD p undef = .pointer (some ⟨g, 0, none⟩)) (hg : w.heap[g]? = some (.cells cs 28 (0, 0))) :
    (results fn tmps).run Tryz.prog w = .ok (.agg cs) w := by
  have hi : (Tryz.prog.info? 28).map (·.size) = some cs.size := by rw [hc]; kernel_rfl
  have hr := run_loadVar_row (P := Tryz.prog) w g 28 28 cs (0, 0) _ hg Tryz.underlying28 rfl hi
  have hp' : tmps[p]?.getD undef = .pointer (some ⟨g, 0, none⟩) := by simpa using hp
  simp [results, h, hp', asAddr, hr]
theorem results_devb {fn : Func} {p q : Tmp} (h : fn.results = #[.cell p 28, .tmp q]) (tmps : Array Value) (w : World) (g : Nat) (cs : Array Value) (f : Value) (hc : cs.size = 2)
    (hp : tmps.getD p undef = .pointer (some ⟨g, 0, none⟩)) (hq : tmps.getD q undef = f) (hg : w.heap[g]? = some (.cells cs 28 (0, 0))) :
    (results fn tmps).run Tryz.prog w = .ok (.tuple #[.agg cs, f]) w := by
  have hi : (Tryz.prog.info? 28).map (·.size) = some cs.size := by rw [hc]; kernel_rfl
  have hr := run_loadVar_row (P := Tryz.prog) w g 28 28 cs (0, 0) _ hg Tryz.underlying28 rfl hi
  have hp' : tmps[p]?.getD undef = .pointer (some ⟨g, 0, none⟩) := by simpa using hp
  have hq' : tmps[q]?.getD undef = f := by simpa using hq
  simp [results, h, hp', hq', asAddr, hr]
theorem DevRow.low {w : World} {base : Nat} {a b : Value} {d : Dv} (h : DevRow w base a b d) {g : Nat} (hg : g < base) (o : Nat) (u : Value) : DevRow (w.setCell ⟨g, o, none⟩ u) base a b d := ⟨own_low h.t hg o u, own_low h.p hg o u, h.ap⟩
end

section
open Go.RowKit Go.Sort
end

section
open Go.RowKit

theorem run_append_zero {P : Program} (w : World) (base : Nat) (t ty e : TypeId) (i : TypeInfo) (z : Value) (size bytes : Nat) (ht : P.underlying t = some (.slice e)) (hi : P.info? e = some i) (hz : i.zero = some z)
    (hsize : i.size = size) (hby : i.bytes = bytes) (hzs : z.cells.size = size) (hsz : 0 < size)
    (g : Nat) (hg : w.heap[g]? = some (.cells #[] e)) (hbg : base ≤ g)
    (a : Addr) (m c : Nat) (news : List Value) (hl : news.length = m * size) (hnews : ∀ j u, news[j]? = some u → w.cell? (a.add j) = some u) (h1 : ∀ u ∈ news, u.oneCell' = true)
    (h63 : m ≤ maxLen) (hbytes : m * bytes ≤ 140737488355328) (hbase : base ≤ w.heap.size) :
    ∃ g' cap' w', (Builtin.append_ #[t, t] ty #[.slice (some ⟨g, 0, none⟩) 0 0, .slice (some a) m c]).run P w = .ok (.slice (some ⟨g', 0, none⟩) m cap') w' ∧ w'.ownsRow base e size (.slice (some ⟨g', 0, none⟩) m cap') m news ∧ Below w.heap.size w w' := by
  subst hsize
  subst hby
  have hsmall : m ≤ 9223372036854775807 := by simp only [maxLen] at h63; omega
  by_cases hm : m = 0
  · subst hm
    have hn : news = [] := List.eq_nil_of_length_eq_zero (by simpa using hl)
    subst hn
    have hr := run_append_room (P := P) w t ty e i ht hi g 0 0 #[] hg a 0 c [] (by simp) (by intro j u hj; simp at hj) (by simp) (by omega) (by simp)
    refine ⟨_, _, _, hr, ⟨by simp, .inr ⟨g, 0, _, rfl, hbg, setRow_heap w g #[] _ e _ hg, Nat.le_refl _, Nat.zero_le _, by simp, by simp⟩⟩, ⟨rfl, rfl, rfl, by simp, fun k hk => ?_⟩⟩
    by_cases hkg : k = g
    · subst hkg; rw [setRow_heap w k #[] _ e _ hg, hg]; simp
    · exact setRow_other w g k _ hkg
  · have hr := run_append_grow (P := P) w t ty e i z ht hi hz ⟨g, 0, none⟩ 0 0 [] (by simp) (by intro j u hj; simp at hj) a m c news hl hnews (by omega) (by omega) (growslice_fits (by omega) (by rw [Nat.zero_add]; exact hbytes))
    have hge := grownCap_ge w m 0 e
    have hcm : grownCap w m 0 e ≤ maxLen := grownCap_le_maxLen w m 0 e (by omega)
    rw [Nat.zero_add] at hr
    refine ⟨_, _, _, hr, ⟨hl, .inr ⟨w.heap.size, _, _, rfl, hbase, (MapKept.heap_alloc w.drew _).1, by omega, hcm, ?_, ?_⟩⟩, ⟨rfl, rfl, rfl, by simp, fun k hk => (MapKept.heap_alloc w.drew _).2 k hk⟩⟩
    · simp only [Array.size_append, List.size_toArray, size_zeroCells, hzs, hl, List.length_nil, Nat.zero_add, ← Nat.add_mul]
      rw [show m + (grownCap w m 0 e - m) = grownCap w m 0 e by omega]
    · simp only [Array.toList_append, List.nil_append]
      rw [← hl]
      exact List.take_left

/-- the same as one step of a statement whose order is open -/
theorem step_append_zero {P : Program} {ops : Array Oper} {o : Oper} {a : Act} {w : World} {K : Act → World → Prop} {Q : Exit → Act → World → Prop} {Z : Prop}
    (hgd : o.guard = none) (s x : Operand) (S E : TypeId) (hop : o.op = Op.call { callee := Callee.builtin Builtin.append, args := #[s, x], argTypes := #[S, S] }) (base : Nat)
    (size bytes : Nat) (z : Value) (hS : P.underlying S = some (.slice E)) (hI : (P.info? E).map (fun i => (i.zero, i.size, i.bytes)) = some (some z, size, bytes)) (hzs : z.cells.size = size) (hsz : 0 < size)
    (g : Nat) (hg : w.heap[g]? = some (.cells #[] E)) (hbg : base ≤ g) (hs : a.eval s = .slice (some ⟨g, 0, none⟩) 0 0)
    (ad : Addr) (m c : Nat) (news : List Value) (hx : a.eval x = .slice (some ad) m c) (hl : news.length = m * size) (hc : ∀ j u, news[j]? = some u → w.cell? (ad.add j) = some u) (h1 : ∀ u ∈ news, u.oneCell' = true)
    (h63 : m ≤ maxLen) (hbytes : m * bytes ≤ 140737488355328) (hbase : base ≤ w.heap.size)
    (hK : ∀ g' cap' w', w'.ownsRow base E size (.slice (some ⟨g', 0, none⟩) m cap') m news → Below w.heap.size w w' → K (a.put o.dst (.slice (some ⟨g', 0, none⟩) m cap')) w') :
    if Region.wanted o (yielded ops a.tmps) = true then Oper.wp P o a w K Q else Z := by
  obtain ⟨i0, hi, hz0, hz1, hz2⟩ := info_parts hI
  have hw : Region.wanted o (yielded ops a.tmps) = true := by simp [Region.wanted, hgd]
  rw [if_pos hw]
  obtain ⟨g', cap', w', hrun, r1, r2⟩ := run_append_zero (P := P) w base S o.type E i0 z size bytes hS hi hz0 hz1 hz2 hzs hsz g hg hbg ad m c news hl hc h1 h63 hbytes hbase
  unfold Oper.wp
  simp [execOp, hop, resolve, invoke, builtin, hs, hx, hrun, Result.andThen]
  exact hK g' cap' w' r1 r2
end

section
open Go.RowKit

/-- a boxed pair and all that was there before it -/
theorem box_dev {w wr : World} {a u : Value} {T : TypeId} (hb : Below (w.heap.size + 1) (w.alloc (.cells #[a, u] T)) wr) : wr.cell? ⟨w.heap.size, 0, none⟩ = some a ∧ wr.cell? ⟨w.heap.size, 1, none⟩ = some u := by
  have key : ∀ j : Nat, wr.cell? ⟨w.heap.size, j, none⟩ = (w.alloc (.cells #[a, u] T)).cell? ⟨w.heap.size, j, none⟩ := fun j => hb.cell (p := ⟨w.heap.size, j, none⟩) (by show w.heap.size < _; omega)
  constructor <;> rw [key, World.cell?_alloc_mark] <;> rfl
end

section
open Go.RowKit

theorem types_ne : (9 : Nat) ≠ 78 := by decide
theorem devRow_of {w : World} {base : Nat} {a b : Value} {d : Dv} (h : TxtRow w base a d.blocks) (k : WrRow w base b d.pend) : DevRow w base a b d := by
  refine ⟨h, k, fun q hq hq' => ?_⟩
  rcases h.2 with ⟨rfl, -⟩ | ⟨g, cap, cur, rfl, -, hh, -⟩
  · cases hq
  · rcases k.2 with ⟨rfl, -⟩ | ⟨g', cap', cur', rfl, -, hh', -⟩
    · cases hq'
    · cases hq
      cases hq'
      rw [hh] at hh'
      simp at hh'
theorem txt_src {w : World} {u : Value} {m : List ByteArray} (hu : TxtsAt w u m) : ∃ ad c, u = .slice ad m.length c ∧ (∀ a, ad = some a → ∀ j x, (strsV m)[j]? = some x → w.cell? (a.add j) = some x) ∧ (ad = none → m = [] ∧ c = 0) := by
  obtain ⟨ad, cap, rfl, hn, hc⟩ := hu
  refine ⟨ad, cap, rfl, fun a ha j x hx => ?_, fun h => ⟨?_, hn h⟩⟩
  · have hj : j < m.length := by
      have := (List.getElem?_eq_some_iff.1 hx).1
      rwa [strsV_length] at this
    obtain ⟨b1, o1, e, -, h1⟩ := hc j hj
    rw [ha] at e
    cases e
    rw [Addr.add_lit, h1, ← hx, strsV_get m j hj]
  · cases m with
    | nil => rfl
    | cons x m => obtain ⟨b, off, h1, -⟩ := hc 0 (by simp); rw [h] at h1; cases h1

theorem wr_src {w : World} {u : Value} {m : List Wr} (hu : WrsAt w u m) : ∃ ad c, u = .slice ad m.length c ∧ (∀ a, ad = some a → ∀ j x, (flatW m)[j]? = some x → w.cell? (a.add j) = some x) ∧ (ad = none → m = [] ∧ c = 0) := by
  obtain ⟨ad, cap, rfl, hn, hc⟩ := hu
  refine ⟨ad, cap, rfl, fun a ha j x hx => ?_, fun h => ⟨?_, hn h⟩⟩
  · have hj : j < m.length * 2 := by
      have := (List.getElem?_eq_some_iff.1 hx).1
      rwa [flatW_len] at this
    obtain ⟨b1, o1, e, -, h1⟩ := hc (j / 2) (by omega)
    rw [ha] at e
    cases e
    have hjj : j = j / 2 * 2 + j % 2 := by omega
    have h4 := flatW_at m (j / 2) (by omega) (j % 2) (by omega)
    rw [← hjj, hx] at h4
    rw [Addr.add_lit, hjj, ← Nat.add_assoc]
    have : j % 2 < 2 := by omega
    generalize j % 2 = s at *
    rcases s with _ | _ | s
    · exact h1.c0.trans h4.symm
    · exact h1.c1.trans h4.symm
    · omega
  · cases m with
    | nil => rfl
    | cons x m => obtain ⟨b, off, h1, -⟩ := hc 0 (by simp); rw [h] at h1; cases h1
theorem strsV_one (l : List ByteArray) : ∀ u ∈ strsV l, u.oneCell' = true := by
  intro u hu
  simp only [strsV, List.mem_map] at hu
  obtain ⟨z, -, rfl⟩ := hu
  rfl
theorem step_append_none {P : Program} {ops : Array Oper} {o : Oper} {a : Act} {w : World} {K : Act → World → Prop} {Q : Exit → Act → World → Prop} {Z : Prop}
    (hgd : o.guard = none) (s x : Operand) (S E : TypeId) (hop : o.op = Op.call { callee := Callee.builtin Builtin.append, args := #[s, x], argTypes := #[S, S] }) (size bytes : Nat) (z : Value) (hS : P.underlying S = some (.slice E)) (hI : (P.info? E).map (fun i => (i.zero, i.size, i.bytes)) = some (some z, size, bytes))
    (base g : Nat) (hg : w.heap[g]? = some (.cells #[] E)) (hbg : base ≤ g) (hs : a.eval s = .slice (some ⟨g, 0, none⟩) 0 0) (hx : a.eval x = .slice none 0 0)
    (hK : w.ownsRow base E size (.slice (some ⟨g, 0, none⟩) 0 0) 0 [] → K (a.put o.dst (.slice (some ⟨g, 0, none⟩) 0 0)) w) :
    if Region.wanted o (yielded ops a.tmps) = true then Oper.wp P o a w K Q else Z := by
  obtain ⟨i0, hi, hz0, hz1, hz2⟩ := info_parts hI
  have hw : Region.wanted o (yielded ops a.tmps) = true := by simp [Region.wanted, hgd]
  rw [if_pos hw]
  have hown : w.ownsRow base E size (.slice (some ⟨g, 0, none⟩) 0 0) 0 [] := ⟨by simp, .inr ⟨g, 0, _, rfl, hbg, hg, Nat.le_refl _, Nat.zero_le _, by simp, by simp⟩⟩
  have hrun := run_append_owned_none (P := P) (w := w) base S o.type E i0 size hS hi _ 0 [] hown
  unfold Oper.wp
  simp [execOp, hop, resolve, invoke, builtin, hs, hx, hrun, Result.andThen]
  exact hK hown
theorem heap_a1 (W : World) (o : Obj) : (W.alloc o).heap[W.heap.size]? = some o := (MapKept.heap_alloc _ _).1
theorem heap_a2 (W : World) (o o' : Obj) : ((W.alloc o).alloc o').heap[W.heap.size]? = some o := by rw [(MapKept.heap_alloc _ _).2 _ (by simp), (MapKept.heap_alloc _ _).1]
theorem heap_a2' (W : World) (o o' : Obj) : ((W.alloc o).alloc o').heap[W.heap.size + 1]? = some o' := by
  have := (MapKept.heap_alloc (W.alloc o) o').1
  rwa [show (W.alloc o).heap.size = W.heap.size + 1 by simp] at this
theorem below_al0 {W0 w' : World} (h : Below W0.heap.size W0 w') (o : Obj) : Below W0.heap.size W0 (w'.alloc o) := h.alloc h.size o
end

section
open Go.RowKit

/-- what stands while a device is copied: its box, the two rows -/
structure CpB (n0 : Nat) (vt vp : Value) (ad : Addr) (bd : Option Addr) (txs wxs : List Value) (W : World) : Prop where
  hP : W.heap[n0]? = some (.cells #[vt, vp] 28)
  s1 : ∀ j u, txs[j]? = some u → W.cell? (ad.add j) = some u
  s2 : ∀ b, bd = some b → ∀ j u, wxs[j]? = some u → W.cell? (b.add j) = some u
  l1 : ∀ j u, txs[j]? = some u → (ad.add j).block < n0
  l2 : ∀ b, bd = some b → ∀ j u, wxs[j]? = some u → (b.add j).block < n0
theorem CpB.below {n0 : Nat} {vt vp : Value} {ad : Addr} {bd : Option Addr} {txs wxs : List Value} {W W' : World} (h : CpB n0 vt vp ad bd txs wxs W) (b : Below (n0 + 1) W W') : CpB n0 vt vp ad bd txs wxs W' :=
  ⟨(b.block _ (by omega)).trans h.hP, fun j u hu => (b.cell (p := ad.add j) (by have := h.l1 j u hu; omega)).trans (h.s1 j u hu), fun bb hb j u hu => (b.cell (p := bb.add j) (by have := h.l2 bb hb j u hu; omega)).trans (h.s2 bb hb j u hu), h.l1, h.l2⟩
theorem CpB.cells {n0 : Nat} {vt vp : Value} {ad : Addr} {bd : Option Addr} {txs wxs : List Value} {W : World} (h : CpB n0 vt vp ad bd txs wxs W) : W.cell? ⟨n0, 0, none⟩ = some vt ∧ W.cell? ⟨n0, 1, none⟩ = some vp := ⟨cell_blk h.hP 0, cell_blk h.hP 1⟩
/-- the answer is laid down -/
theorem dev_fin {w W : World} {n0 : Nat} (hR : W.heap[n0 + 1]? = some (.cells #[.slice none 0 0, .slice none 0 0] 28)) (a' b' : Value) {d : Dv} (r : DevRow W (n0 + 1 + 1) a' b' d) (bw : Below n0 w W) :
    ((W.setCell ⟨n0 + 1, 0, none⟩ a').setCell ⟨n0 + 1, 1, none⟩ b').heap[n0 + 1]? = some (.cells #[a', b'] 28 (0, 0)) ∧ DevRow ((W.setCell ⟨n0 + 1, 0, none⟩ a').setCell ⟨n0 + 1, 1, none⟩ b') n0 a' b' d ∧ Below n0 w ((W.setCell ⟨n0 + 1, 0, none⟩ a').setCell ⟨n0 + 1, 1, none⟩ b') :=
  ⟨put2d a' b' hR, ((r.low (by omega) _ _).low (by omega) _ _).mono (by omega), (bw.setCell (by show n0 ≤ n0 + 1; omega) _).setCell (by show n0 ≤ n0 + 1; omega) _⟩
theorem CpB.start (w : World) (vt vp : Value) (ad : Addr) (bd : Option Addr) (txs wxs : List Value) (s1 : ∀ j u, txs[j]? = some u → w.cell? (ad.add j) = some u) (s2 : ∀ b, bd = some b → ∀ j u, wxs[j]? = some u → w.cell? (b.add j) = some u) :
    CpB w.heap.size vt vp ad bd txs wxs ((w.alloc (.cells #[vt, vp] 28)).alloc (.cells #[.slice none 0 0, .slice none 0 0] 28)) := by
  have B1 := (below_lit w (.cells #[vt, vp] 28)).alloc (by simp) (.cells #[.slice none 0 0, .slice none 0 0] 28)
  exact ⟨heap_a2 _ _ _, fun j u hu => (B1.cell (p := ad.add j) (World.block_lt_of_cell? _ _ (s1 j u hu))).trans (s1 j u hu), fun bb hb j u hu => (B1.cell (p := bb.add j) (World.block_lt_of_cell? _ _ (s2 bb hb j u hu))).trans (s2 bb hb j u hu), fun j u hu => World.block_lt_of_cell? _ _ (s1 j u hu), fun bb hb j u hu => World.block_lt_of_cell? _ _ (s2 bb hb j u hu)⟩
theorem below_al1 {W0 w' : World} {B : Nat} (h : Below B W0 w') (hB : B ≤ W0.heap.size) (o : Obj) : Below B W0 (w'.alloc o) := h.alloc (Nat.le_trans hB h.size) o
theorem below_st {W0 w' : World} {B : Nat} (h : Below B W0 w') (o : Nat) (v : Value) : Below B W0 (w'.setCell ⟨B, o, none⟩ v) := h.setCell (Nat.le_refl _) v
theorem own_mono {w : World} {base base' size n : Nat} {e : TypeId} {v : Value} {xs : List Value} (h : w.ownsRow base e size v n xs) (hb : base' ≤ base) : w.ownsRow base' e size v n xs :=
  ⟨h.1, h.2.elim Or.inl fun ⟨g, cap, cur, hv, hg, r⟩ => Or.inr ⟨g, cap, cur, hv, Nat.le_trans hb hg, r⟩⟩
theorem heap_drw (x : World) : x.drew.heap = x.heap := rfl
theorem step_cp_txt {ops : Array Oper} {o : Oper} {a : Act} {w W0 : World} {K : Act → World → Prop} {Q : Exit → Act → World → Prop} {Z : Prop} {n0 : Nat} {vt vp : Value} {ad : Addr} {bd : Option Addr} {txs wxs : List Value} {ca : Nat}
    (cp : CpB n0 vt vp ad bd txs wxs w) (hb : Below (n0 + 1) W0 w) (hn : n0 + 1 ≤ W0.heap.size) (HLT : txs.length = 18 * 1) (HOT : ∀ u ∈ txs, u.oneCell' = true) (s x : Operand)
    (hgd : o.guard = none) (hop : o.op = Op.call { callee := Callee.builtin Builtin.append, args := #[s, x], argTypes := #[25, 25] })
    (g : Nat) (hs : a.eval s = .slice (some ⟨g, 0, none⟩) 0 0) (hx : a.eval x = .slice (some ad) 18 ca) (hg : w.heap[g]? = some (.cells #[] 9)) (hbg : W0.heap.size ≤ g)
    (hK : ∀ g' c' w', w'.ownsRow W0.heap.size 9 1 (.slice (some ⟨g', 0, none⟩) 18 c') 18 txs → Below (n0 + 1) W0 w' → Below w.heap.size w w' → K (a.put o.dst (.slice (some ⟨g', 0, none⟩) 18 c')) w') :
    if Region.wanted o (yielded ops a.tmps) = true then Oper.wp Tryz.prog o a w K Q else Z :=
  step_append_zero hgd s x 25 9 hop W0.heap.size 1 16 (.string ⟨#[]⟩) Tryz.underlying25 Tryz.infoTxt rfl (by decide) g hg hbg hs ad 18 ca txs hx HLT cp.s1 HOT (by decide) (by decide) hb.size fun g' c' w' r b => hK g' c' w' r (hb.trans (b.mono (Nat.le_trans hn hb.size))) b
theorem step_cp_wr {ops : Array Oper} {o : Oper} {a : Act} {w W0 : World} {K : Act → World → Prop} {Q : Exit → Act → World → Prop} {Z : Prop} {n0 m : Nat} {vt vp : Value} {ad bd : Addr} {txs wxs : List Value} {cb : Nat}
    (cp : CpB n0 vt vp ad (some bd) txs wxs w) (hb : Below (n0 + 1) W0 w) (hn : n0 + 1 ≤ W0.heap.size) (HLP : wxs.length = m * 2) (HOP : ∀ u ∈ wxs, u.oneCell' = true) (hm : m ≤ 40) (s x : Operand)
    (hgd : o.guard = none) (hop : o.op = Op.call { callee := Callee.builtin Builtin.append, args := #[s, x], argTypes := #[26, 26] })
    (g : Nat) (hs : a.eval s = .slice (some ⟨g, 0, none⟩) 0 0) (hx : a.eval x = .slice (some bd) m cb) (hg : w.heap[g]? = some (.cells #[] 78)) (hbg : W0.heap.size ≤ g)
    (hK : ∀ g' c' w', w'.ownsRow W0.heap.size 78 2 (.slice (some ⟨g', 0, none⟩) m c') m wxs → Below (n0 + 1) W0 w' → Below w.heap.size w w' → K (a.put o.dst (.slice (some ⟨g', 0, none⟩) m c')) w') :
    if Region.wanted o (yielded ops a.tmps) = true then Oper.wp Tryz.prog o a w K Q else Z :=
  step_append_zero hgd s x 26 78 hop W0.heap.size 2 24 (.agg #[.int .i64 0, .string ⟨#[]⟩]) Tryz.underlying26 Tryz.infoW rfl (by decide) g hg hbg hs bd m cb wxs hx HLP (cp.s2 bd rfl) HOP (by unfold maxLen; omega) (by omega) hb.size fun g' c' w' r b => hK g' c' w' r (hb.trans (b.mono (Nat.le_trans hn hb.size))) b
theorem step_cp_nil {ops : Array Oper} {o : Oper} {a : Act} {w W0 : World} {K : Act → World → Prop} {Q : Exit → Act → World → Prop} {Z : Prop} (s x : Operand)
    (hgd : o.guard = none) (hop : o.op = Op.call { callee := Callee.builtin Builtin.append, args := #[s, x], argTypes := #[26, 26] })
    (g : Nat) (hs : a.eval s = .slice (some ⟨g, 0, none⟩) 0 0) (hx : a.eval x = .slice none 0 0) (hg : w.heap[g]? = some (.cells #[] 78)) (hbg : W0.heap.size ≤ g)
    (hK : w.ownsRow W0.heap.size 78 2 (.slice (some ⟨g, 0, none⟩) 0 0) 0 [] → K (a.put o.dst (.slice (some ⟨g, 0, none⟩) 0 0)) w) :
    if Region.wanted o (yielded ops a.tmps) = true then Oper.wp Tryz.prog o a w K Q else Z :=
  step_append_none hgd s x 26 78 hop 2 24 (.agg #[.int .i64 0, .string ⟨#[]⟩]) Tryz.underlying26 Tryz.infoW W0.heap.size g hg hbg hs hx hK
end

section
open Go.RowKit
end

section
open Go.RowKit

theorem wr_form {w : World} {base : Nat} {b : Value} {l : List Wr} (h : WrRow w base b l) : ∃ bb cb, b = .slice bb l.length cb ∧ ∀ t, t < l.length → ∃ pb, bb = some ⟨pb, 0, none⟩ ∧ b.ownBlock = some pb ∧ ∀ wr, WrRow wr base b l → CellsW wr pb (t * 2) l[t]! := by
  rcases h.2 with ⟨rfl, h0⟩ | ⟨g, cap, cur, rfl, hg, hh, r⟩
  · exact ⟨none, 0, by rw [h0], fun t ht => by omega⟩
  · refine ⟨some ⟨g, 0, none⟩, cap, rfl, fun t ht => ⟨g, rfl, rfl, fun wr hr => ?_⟩⟩
    obtain ⟨a, c, e, -, hc⟩ := hr.at
    obtain ⟨b1, o1, e1, -, h1⟩ := hc t ht
    subst e1
    cases e
    rwa [Nat.zero_add] at h1
theorem txt_form {w : World} {base : Nat} {a : Value} {l : List ByteArray} (h : TxtRow w base a l) (hl : 0 < l.length) : ∃ g cap, a = .slice (some ⟨g, 0, none⟩) l.length cap ∧ base ≤ g ∧ g < w.heap.size := by
  rcases h.2 with ⟨-, h0⟩ | ⟨g, cap, cur, rfl, hg, hh, r⟩
  · omega
  · exact ⟨g, cap, rfl, hg, lt_of_block hh⟩

theorem own_st {w : World} {base size n : Nat} {e : TypeId} {v : Value} {xs : List Value} (h : w.ownsRow base e size v n xs) (g o : Nat) (u : Value) (hne : ∀ q, v.ownBlock = some q → q ≠ g) : (w.setCell ⟨g, o, none⟩ u).ownsRow base e size v n xs :=
  own_same h fun q hq => Below.heap_setCell w ⟨g, o, none⟩ u q (hne q hq)
/-- what stands while the first k of the writes are done -/
structure LdSt (w : World) (base g cap : Nat) (b : Value) (pn : List Wr) (T : List ByteArray) (wr : World) : Prop where
  hP : wr.heap[w.heap.size]? = some (.cells #[.slice (some ⟨g, 0, none⟩) 18 cap, b] 28)
  hR : wr.heap[w.heap.size + 1]? = some (.cells #[.slice none 0 0, .slice none 0 0] 28)
  t : wr.ownsRow base 9 1 (.slice (some ⟨g, 0, none⟩) 18 cap) 18 (strsV T)
  p : WrRow wr base b pn
  gb : w.grownBy wr (some g)
theorem LdSt.below {w : World} {base g cap : Nat} {b : Value} {pn : List Wr} {T : List ByteArray} {wr wr' : World} (h : LdSt w base g cap b pn T wr) (bb : Below wr.heap.size wr wr') : LdSt w base g cap b pn T wr' :=
  ⟨(bb.block _ (lt_of_block h.hP)).trans h.hP, (bb.block _ (lt_of_block h.hR)).trans h.hR, own_below h.t bb, own_below h.p bb, gbr_trans h.gb ⟨bb.os, bb.tape, bb.output, bb.size, fun k hk _ => bb.block k hk⟩⟩
theorem LdSt.put {w : World} {base g cap : Nat} {b : Value} {pn : List Wr} {T : List ByteArray} {wr : World} (h : LdSt w base g cap b pn T wr) (hg : g < w.heap.size) (ap : b.ownBlock ≠ some g) (y : Nat) (x : ByteArray) : LdSt w base g cap b pn (T.set y x) (wr.setCell ⟨g, y, none⟩ (.string x)) :=
  ⟨(Below.heap_setCell wr ⟨g, y, none⟩ _ w.heap.size (by show w.heap.size ≠ g; omega)).trans h.hP, (Below.heap_setCell wr ⟨g, y, none⟩ _ (w.heap.size + 1) (by show w.heap.size + 1 ≠ g; omega)).trans h.hR, by have := (h.t.stored y (.string x)).1; rwa [strsV_set] at this, own_same h.p fun q hq => Below.heap_setCell wr ⟨g, y, none⟩ _ q (by show q ≠ g; intro e; exact ap (by rw [hq, e])), gbr_trans h.gb (gbr_set _ _ _ _)⟩
theorem LdSt.cells {w : World} {base g cap : Nat} {b : Value} {pn : List Wr} {T : List ByteArray} {wr : World} (h : LdSt w base g cap b pn T wr) : (wr.cell? ⟨w.heap.size, 0, none⟩ = some (.slice (some ⟨g, 0, none⟩) 18 cap) ∧ wr.cell? ⟨w.heap.size, 1, none⟩ = some b) ∧ ∀ y, y < 18 → (∃ u, wr.cell? ⟨g, y, none⟩ = some u) ∧ wr.frozen? ⟨g, y, none⟩ = false :=
  ⟨⟨cell_blk h.hP 0, cell_blk h.hP 1⟩, fun y hy => ⟨⟨_, (h.t.cellAt y (by omega)).trans (List.getElem?_eq_getElem (by have := h.t.1; omega))⟩, h.t.frozenAt y⟩⟩
end

section
open Go.RowKit

/-- the box of a device that came in, and that of the answer -/
structure FlSt (w : World) (a b : Value) (wr : World) : Prop where
  hP : wr.heap[w.heap.size]? = some (.cells #[a, b] 28)
  hR : wr.heap[w.heap.size + 1]? = some (.cells #[.slice none 0 0, .slice none 0 0] 28)
  bel : Below w.heap.size w wr
theorem FlSt.below {w : World} {a b : Value} {wr wr' : World} (h : FlSt w a b wr) (bb : Below wr.heap.size wr wr') : FlSt w a b wr' := ⟨(bb.block _ (lt_of_block h.hP)).trans h.hP, (bb.block _ (lt_of_block h.hR)).trans h.hR, h.bel.trans (bb.mono h.bel.size)⟩
theorem FlSt.grown {w : World} {a b : Value} {wr wr' : World} {r : Option Nat} (h : FlSt w a b wr) (g : wr.grownBy wr' r) (hr : ∀ q, r = some q → w.heap.size + 1 < q) : FlSt w a b wr' :=
  ⟨(g.block _ (lt_of_block h.hP) (fun e => by have := hr _ e.symm; omega)).trans h.hP, (g.block _ (lt_of_block h.hR) (fun e => by have := hr _ e.symm; omega)).trans h.hR,
   ⟨g.os.trans h.bel.os, g.tape.trans h.bel.tape, g.output.trans h.bel.output, Nat.le_trans h.bel.size g.size, fun k hk => (g.block k (Nat.lt_of_lt_of_le hk h.bel.size) (fun e => by have := hr _ e.symm; omega)).trans (h.bel.block k hk)⟩⟩
theorem FlSt.sz {w : World} {a b : Value} {wr : World} (h : FlSt w a b wr) : w.heap.size + 1 < wr.heap.size := lt_of_block h.hR
theorem FlSt.out {w : World} {a b : Value} {wr : World} (h : FlSt w a b wr) : wr.cell? ⟨w.heap.size, 0, none⟩ = some a ∧ wr.cell? ⟨w.heap.size, 1, none⟩ = some b ∧ wr.cell? ⟨w.heap.size + 1, 0, none⟩ = some (.slice none 0 0) ∧ wr.cell? ⟨w.heap.size + 1, 1, none⟩ = some (.slice none 0 0) ∧ (∀ i, wr.frozen? ⟨w.heap.size + 1, i, none⟩ = false) ∧ Hid (wr.heap[w.heap.size + 1]? = some (.cells #[.slice none 0 0, .slice none 0 0] 28) ∧ Below w.heap.size w wr) :=
  ⟨cell_blk h.hP 0, cell_blk h.hP 1, cell_blk h.hR 0, cell_blk h.hR 1, fun i => unfrozen_blk h.hR i, ⟨h.hR, h.bel⟩⟩
theorem FlSt.start (w : World) (a b : Value) : FlSt w a b ((w.alloc (.cells #[a, b] 28)).alloc (.cells #[.slice none 0 0, .slice none 0 0] 28)) :=
  ⟨heap_a2 _ _ _, heap_a2' _ _ _, (below_lit w _).alloc (by simp) _⟩
theorem fl_below {w wr : World} {u u' : Value} (h : Below w.heap.size w wr) : Below w.heap.size w ((wr.setCell ⟨w.heap.size + 1, 0, none⟩ u).setCell ⟨w.heap.size + 1, 1, none⟩ u') :=
  (h.setCell (by show w.heap.size ≤ w.heap.size + 1; omega) _).setCell (by show w.heap.size ≤ w.heap.size + 1; omega) _
theorem nil_row (w : World) (base : Nat) : DevRow w base (.slice none 0 0) (.slice none 0 0) ⟨[], []⟩ := ⟨⟨rfl, .inl ⟨rfl, rfl⟩⟩, ⟨rfl, .inl ⟨rfl, rfl⟩⟩, fun q hq => by cases hq⟩
end

section
open Go.RowKit
end

section
open Go.RowKit

theorem wrB_eq (x : Wr) : wrB x = (inB x.block 0 17 && !decide (4000 < x.text.size)) := by
  unfold wrB inB
  rw [Bool.eq_iff_iff]
  simp
  omega
end

section
open Go.RowKit


theorem flatW_put (l : List Wr) (k : Nat) (hk : k < l.length) : (flatW l).set (k * 2 + 1) (.string l[k]!.text) = flatW l := by
  have h := flatW_set l k l[k]! hk
  have e : l.set k l[k]! = l := by rw [getElem!_pos l k hk]; exact List.set_getElem_self hk
  rw [e] at h
  have h0 : (flatW l).set (k * 2) (.int .i64 l[k]!.block) = flatW l := by
    apply List.ext_getElem?
    intro j
    by_cases hj : j = k * 2
    · subst hj
      rw [List.getElem?_set_self (by rw [flatW_len]; omega)]
      have := flatW_at l k hk 0 (by omega)
      rw [Nat.add_zero] at this
      rw [this]; rfl
    · rw [List.getElem?_set_ne (by omega)]
  rwa [h0] at h

/-- the row behind 'make' and 'copy' -/
theorem copy_wr {w : World} {n : Nat} {l : List Wr} (hn : n = l.length) (ty : TypeId) (u : Value) (hu : WrsAt w u l) (g : Nat) (base : Nat) (hr : w.ownsRow base 78 2 (.slice (some ⟨g, 0, none⟩) n n) n (flatW (List.replicate n default))) :
    ∃ v' w', (Builtin.copy_ #[26, 26] ty #[.slice (some ⟨g, 0, none⟩) n n, u]).run Tryz.prog w = .ok v' w' ∧ w'.ownsRow base 78 2 (.slice (some ⟨g, 0, none⟩) n n) n (flatW l) ∧ w.grownBy w' (some g) := by
  obtain ⟨ad, c, rfl, hs, hz⟩ := wr_src hu
  have hI : (Tryz.prog.info? 78).map (·.size) = some 2 := by kernel_rfl
  cases ad with
  | none =>
    obtain ⟨rfl, rfl⟩ := hz rfl
    subst hn
    exact ⟨_, _, run_copy_none w 26 26 ty 78 g 0 0 Tryz.underlying26 2 hI, hr, ⟨rfl, rfl, rfl, Nat.le_refl _, fun _ _ _ => rfl⟩⟩
  | some a =>
    rcases hr.2 with ⟨h0, -⟩ | ⟨g', cap, cs, e, hg, hcs, hnc, hcp, hsz, htk⟩
    · cases h0
    · cases e
      have hrun := run_copy_rowK (P := Tryz.prog) w 26 26 ty 78 2 n g 0 n n a l.length c cs 78 (flatW l) Tryz.underlying26 hI hcs (by rw [hn]; exact Nat.min_self _) (by rw [flatW_len, hn]) (hs a rfl) (by rw [flatW_len, hsz]; omega) (flatW_cell l)
      refine ⟨_, _, hrun, ⟨by rw [flatW_len, hn], .inr ⟨g, n, _, rfl, hg, setRow_heap w g cs _ _ _ hcs, Nat.le_refl _, hcp, ?_, ?_⟩⟩, ⟨rfl, rfl, rfl, by simp, fun k _ hk => setRow_other w g k _ (fun e => hk (by rw [e]))⟩⟩
      · simp [flatW_len, hsz]; omega
      · simp only [List.take_zero, List.nil_append, Nat.zero_add]
        have hl2 : (flatW l).length = n * 2 := by rw [flatW_len, hn]
        rw [← hl2]
        exact List.take_left
end

section
open Go.RowKit
end

section
open Go.RowKit

/-- what stands while the first of the writes are settled -/
structure SeSt (w : World) (a0 b0 : Value) (o base g cap : Nat) (b : Value) (pn : List Wr) (T : List ByteArray) (wr : World) : Prop where
  hO : wr.heap[o]? = some (.cells #[.slice (some ⟨g, 0, none⟩) 18 cap, b] 28)
  st : FlSt w a0 b0 wr
  t : wr.ownsRow base 9 1 (.slice (some ⟨g, 0, none⟩) 18 cap) 18 (strsV T)
  p : WrRow wr base b pn
theorem SeSt.below {w : World} {a0 b0 : Value} {o base g cap : Nat} {b : Value} {pn : List Wr} {T : List ByteArray} {wr wr' : World} (h : SeSt w a0 b0 o base g cap b pn T wr) (bb : Below wr.heap.size wr wr') : SeSt w a0 b0 o base g cap b pn T wr' :=
  ⟨(bb.block _ (lt_of_block h.hO)).trans h.hO, h.st.below bb, own_below h.t bb, own_below h.p bb⟩
theorem SeSt.put {w : World} {a0 b0 : Value} {o base g cap : Nat} {b : Value} {pn : List Wr} {T : List ByteArray} {wr : World} (h : SeSt w a0 b0 o base g cap b pn T wr) (hg : w.heap.size + 1 < g) (hgo : g ≠ o) (ap : b.ownBlock ≠ some g) (y : Nat) (x : ByteArray) : SeSt w a0 b0 o base g cap b pn (T.set y x) (wr.setCell ⟨g, y, none⟩ (.string x)) :=
  ⟨(Below.heap_setCell wr ⟨g, y, none⟩ _ o (Ne.symm hgo)).trans h.hO, h.st.grown (gbr_set wr g y _) (fun q hq => by cases hq; exact hg), by have := (h.t.stored y (.string x)).1; rwa [strsV_set] at this, own_st h.p g y _ fun q hq e => ap (by rw [hq, e])⟩
theorem SeSt.cells {w : World} {a0 b0 : Value} {o base g cap : Nat} {b : Value} {pn : List Wr} {T : List ByteArray} {wr : World} (h : SeSt w a0 b0 o base g cap b pn T wr) : (wr.cell? ⟨o, 0, none⟩ = some (.slice (some ⟨g, 0, none⟩) 18 cap) ∧ wr.cell? ⟨o, 1, none⟩ = some b) ∧ ∀ y, y < 18 → (∃ u, wr.cell? ⟨g, y, none⟩ = some u) ∧ wr.frozen? ⟨g, y, none⟩ = false :=
  ⟨⟨cell_blk h.hO 0, cell_blk h.hO 1⟩, fun y hy => ⟨⟨_, (h.t.cellAt y (by omega)).trans (List.getElem?_eq_getElem (by have := h.t.1; omega))⟩, h.t.frozenAt y⟩⟩
end

section
open Go.RowKit



set_option maxRecDepth 100000 in
set_option maxHeartbeats 1000000 in
theorem sNewDev (w : World) : Calls Tryz.prog 9 #[] w fun e w' => ∃ a b, e = .returned (.agg #[a, b]) ∧ DevRow w' w.heap.size a b newDv ∧ Below w.heap.size w w' := by
  obtain ⟨i0, hi, hz0, hz1, hz2⟩ := info_parts Tryz.infoTxt
  have HZ : Hid ((madeCells #[.string ⟨#[]⟩] (18 * 1)).toList = strsV (List.replicate 18 ⟨#[]⟩)) := made_strs 18
  have hR0 := heap_a1 w (.cells #[.slice none 0 0, .slice none 0 0] 28)
  have B0 := below_lit w (.cells #[.slice none 0 0, .slice none 0 0] 28)
  have S0 : (w.alloc (.cells #[.slice none 0 0, .slice none 0 0] 28)).heap.size = w.heap.size + 1 := by simp
  go_enter Tryz.func9, Tryz.ntmps9
  go_wp2_with (at_make; refine wpList_make_full _ rfl _ _ 25 rfl (w.heap.size + 1) 9 i0 (.string ⟨#[]⟩) 1 Tryz.underlying25 hi hz0 hz1 .i64 .i64 _ _ 18 rfl rfl rfl rfl (by rw [hz2]; omega) (by unfold maxLen; omega) (by simp) ?_; intro w1 hown1 hgrow1; have hb1 := hgrow1.block; have hR1 := (hb1 w.heap.size (by simp) (by simp)).trans hR0; have c0 := cell_blk hR1 0; have c1 := cell_blk hR1 1; have cf := fun i => unfrozen_blk hR1 i; (dsimp at c0 c1))
  have hown2 : w1.ownsRow (w.heap.size + 1) 9 1 (.slice (some ⟨w.heap.size + 1, 0, none⟩) 18 18) 18 (strsV (List.replicate 18 ⟨#[]⟩)) := by
    rw [← HZ.out]; simpa [Value.cells] using hown1
  have hbel1 : Below w.heap.size w w1 := B0.grown hgrow1 (by omega) (fun _ h => by cases h)
  have R : DevRow w1 (w.heap.size + 1) (.slice (some ⟨w.heap.size + 1, 0, none⟩) 18 18) (.slice none 0 0) newDv := ⟨hown2, ⟨rfl, .inl ⟨rfl, rfl⟩⟩, fun q _ hq => by cases hq⟩
  exact bodyPost_ret (results_dev Tryz.results9 _ _ w.heap.size _ rfl rfl (put2d _ _ hR1)) rfl ⟨_, _, rfl, ((R.low (by omega) _ _).low (by omega) _ _).mono (by omega), (hbel1.setCell (Nat.le_refl _) _).setCell (Nat.le_refl _) _⟩
end

end Go.Proofs.YtchcdgkpaipkgaaGreatDoor
