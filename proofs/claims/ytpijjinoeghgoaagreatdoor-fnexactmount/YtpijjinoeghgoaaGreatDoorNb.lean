/- Volumes, spec: l6At, l6Named. Volumes, spec: l6Below. Volumes, spec: l6InodeOk. Volumes, spec: VolOk. -/
import Derived.Test.YtpijjinoeghgoaaGreatDoorRows
import Derived.Test.YtpijjinoeghgoaaGreatDoorNa
import Derived.Test.YtpijjinoeghgoaaGreatDoorMz
import Derived.Test.YtpijjinoeghgoaaGreatDoorMr
import Derived.WalkKit
import Derived.WalkSpells
import Derived.WalkLawsBesides
import Derived.OwnWalk
import Derived.Deep.QuietTactic
import Derived.BigQuiet
import Derived.Deep.Onto
import Derived.Lib.QuietBelow
namespace Go.Proofs.YtpijjinoeghgoaaGreatDoor

section
open Go.RowKit

/-- a boxed pair and all that was there before it -/
theorem box_cells {w wr : World} {a u : Value} {T : TypeId} (hb : Below (w.heap.size + 1) (w.alloc (.cells #[a, u] T)) wr) : wr.cell? ⟨w.heap.size, 0, none⟩ = some a ∧ wr.cell? ⟨w.heap.size, 1, none⟩ = some u ∧ Below w.heap.size w wr := by
  refine ⟨?_, ?_, ((Below.refl w.heap.size w).alloc (Nat.le_refl _) _).trans (hb.mono (by omega))⟩
  · rw [hb.cell (p := ⟨w.heap.size, 0, none⟩) (by show w.heap.size < _; omega), World.cell?_alloc_mark]; rfl
  · rw [hb.cell (p := ⟨w.heap.size, 1, none⟩) (by show w.heap.size < _; omega), World.cell?_alloc_mark]; rfl

/-- the place of an inode -/
def plN (l : List Ino) (id : Int) : Option Nat := l.findIdx? fun x => decide (x.id = id)
def plZ (l : List Ino) (id : Int) : Int := match plN l id with | some i => (i : Int) | none => -1
theorem plN_some {l : List Ino} {id : Int} {i : Nat} (hi : i < l.length) (h : l[i]!.id = id) (hb : ∀ k, k < i → l[k]!.id ≠ id) : plN l id = some i := by
  unfold plN
  rw [List.findIdx?_eq_some_iff_getElem]
  refine ⟨hi, by rw [getElem!_pos l i hi] at h; simpa using h, fun k hk => ?_⟩
  have := hb k hk
  rw [getElem!_pos l k (by omega)] at this
  simpa using this
theorem plN_none {l : List Ino} {id : Int} (h : ∀ k, k < l.length → l[k]!.id ≠ id) : plN l id = none := by
  unfold plN
  rw [List.findIdx?_eq_none_iff]
  intro x hx
  obtain ⟨k, hk, rfl⟩ := mem_place hx
  simpa using h k hk
theorem plZ_some {l : List Ino} {id : Int} {i : Nat} (h : plN l id = some i) : plZ l id = i := by unfold plZ; rw [h]
theorem plZ_none {l : List Ino} {id : Int} (h : plN l id = none) : plZ l id = -1 := by unfold plZ; rw [h]
theorem plN_is {l : List Ino} {id : Int} {i : Nat} (h : plN l id = some i) : i < l.length ∧ l[i]!.id = id := by
  unfold plN at h
  rw [List.findIdx?_eq_some_iff_getElem] at h
  obtain ⟨hi, h1, _⟩ := h
  exact ⟨hi, by rw [getElem!_pos l i hi]; simpa using h1⟩
theorem plN_no {l : List Ino} {id : Int} (h : plN l id = none) : ∀ x ∈ l, x.id ≠ id := by
  unfold plN at h
  rw [List.findIdx?_eq_none_iff] at h
  intro x hx; simpa using h x hx
theorem plZ_cases (l : List Ino) (id : Int) : (∃ i, i < l.length ∧ l[i]!.id = id ∧ plN l id = some i ∧ plZ l id = (i : Int)) ∨ ((∀ x ∈ l, x.id ≠ id) ∧ plN l id = none ∧ plZ l id = -1) := by
  cases h : plN l id with
  | some i => exact .inl ⟨i, (plN_is h).1, (plN_is h).2, rfl, plZ_some h⟩
  | none => exact .inr ⟨plN_no h, rfl, plZ_none h⟩

set_option maxRecDepth 100000 in
set_option maxHeartbeats 1000000 in
theorem l6At_any (v : Value) (x : Vo) (id : Int) (w : World) (hl : x.ins.length ≤ 1048576) (hv : VolAt w v x) :
    Calls Tryz.prog 91 #[v, .int .i64 id] w fun e w' => e = .returned (.int .i64 (plZ x.ins id)) ∧ Below w.heap.size w w' := by
  obtain ⟨nx, l⟩ := x
  obtain ⟨u, rfl, a, ca, rfl, -, hva⟩ := hv
  dsimp only at hl hva ⊢
  have HY : Hid (∀ i, i < l.length → l[i]!.id = id → (∀ k, k < i → l[k]!.id ≠ id) → plZ l id = (i : Int)) := fun i hi h hb => plZ_some (plN_some hi h hb)
  have HN : Hid ((∀ k, k < l.length → l[k]!.id ≠ id) → plZ l id = -1) := fun h => plZ_none (plN_none h)
  generalize plZ l id = r at HY HN ⊢
  obtain ⟨n, HL⟩ : ∃ n, Hid (n = l.length) := ⟨_, rfl⟩
  rw [← HL.out] at hva hl HY HN ⊢
  go_enter Tryz.func91, Tryz.ntmps91
  go_wp2
  go_loopw [5] (fun i wr => ∃ k : Nat, k ≤ n ∧ i = .int .i64 k ∧ Hid (∀ t, t < k → l[t]!.id ≠ id) ∧ Below (w.heap.size + 1) (w.alloc (.cells #[.int .i64 nx, .slice a n ca] 26)) wr) (fun i _ => n - (intOf i).toNat)
  case atStart => exact ⟨0, Nat.zero_le _, rfl, fun t ht => by omega, Below.refl _ _⟩
  case round =>
    obtain ⟨k, hk, rfl, HNE, hbel⟩ := hrel
    obtain ⟨-, c1, HB⟩ := box_cells hbel
    by_cases hlt : k < n
    · obtain ⟨b1, o1, s1, rfl, hb1, hc1, -⟩ := hva k hlt
      have c2 := (HB.cell (p := ⟨b1, o1 + k * 5, none⟩) hb1).trans hc1.c0
      have HK : Hid (l[k]!.id = id → r = (k : Int)) := fun h => HY.out k hlt h HNE.out
      have HK2 : Hid (l[k]!.id ≠ id → ∀ t, t < k + 1 → l[t]!.id ≠ id) := fun h t ht => by
        by_cases e : t = k
        · rw [e]; exact h
        · exact HNE.out t (by omega)
      generalize l[k]!.id = q at c2 HK HK2
      clear hc1 hva
      by_cases hq : q = id
      · have f : (q == id) = true := by simp [hq]
        have hr : Hid _ := HK.out hq
        clear hq HK HK2
        go_wp2
        go_ret
        exact ⟨ret_int hr.out.symm, HB⟩
      · have f : (q == id) = false := by simp [hq]
        have HK3 : Hid (∀ t, t < k + 1 → l[t]!.id ≠ id) := HK2.out hq
        clear hq HK HK2
        go_wp2
        go_roundw
        case rel => exact ⟨k + 1, by omega, by go_num, HK3.out, hbel⟩
        case measure => simp [intOf]; omega
    · obtain rfl : k = n := by omega
      have hr : Hid _ := HN.out HNE.out
      clear HN HNE HY
      go_wp2
      go_ret
      exact ⟨ret_int hr.out.symm, HB⟩

/-- how many entries of the first k inodes have an Id -/
def namK (l : List Ino) (id : Int) (k : Nat) : Nat := ((l.take k).map fun x => cntN x.ents id).sum
theorem namK_succ (l : List Ino) (id : Int) (k : Nat) (h : k < l.length) : namK l id (k + 1) = namK l id k + cntN l[k]!.ents id := by
  unfold namK
  rw [List.take_succ_eq_append_getElem h, List.map_append, List.sum_append, getElem!_pos l k h]; simp
theorem namK_all (v : Vo) (id : Int) : namK v.ins id v.ins.length = namedV v id := by
  unfold namK namedV; rw [List.take_length]
def cntK (d : List En) (id : Int) (k : Nat) : Nat := cntN (d.take k) id
theorem cntK_succ (d : List En) (id : Int) (k : Nat) (h : k < d.length) : cntK d id (k + 1) = cntK d id k + if d[k]!.id = id then 1 else 0 := by
  unfold cntK
  rw [List.take_succ_eq_append_getElem h, cnt_append, getElem!_pos d k h]
  unfold cntN
  rw [List.countP_singleton]; simp
theorem cntK_all (d : List En) (id : Int) : cntK d id d.length = cntN d id := by unfold cntK; rw [List.take_length]
theorem cntK_le (d : List En) (id : Int) (k : Nat) : cntK d id k ≤ k := by
  unfold cntK cntN
  exact Nat.le_trans List.countP_le_length (List.length_take_le _ _)
theorem cntN_le (d : List En) (id : Int) : cntN d id ≤ d.length := List.countP_le_length
theorem namK_le (l : List Ino) (id : Int) (m : Nat) (hm : ∀ x ∈ l, x.ents.length ≤ m) (k : Nat) : namK l id k ≤ k * m := by
  induction k with
  | zero => simp [namK]
  | succ k ih =>
    by_cases h : k < l.length
    · rw [namK_succ l id k h]
      have h1 := cntN_le l[k]!.ents id
      have h2 := hm _ (place_mem h)
      have : (k + 1) * m = k * m + m := by rw [Nat.succ_mul]
      omega
    · have e : namK l id (k + 1) = namK l id k := by
        unfold namK; rw [List.take_of_length_le (by omega), List.take_of_length_le (by omega)]
      rw [e]
      exact Nat.le_trans ih (Nat.mul_le_mul_right _ (by omega))
/-- short rows of entries -/
def EntsShort (l : List Ino) : Prop := ∀ x ∈ l, x.ents.length ≤ 1048576

set_option maxRecDepth 100000 in
set_option maxHeartbeats 1000000 in
theorem l6Named_any (v : Value) (x : Vo) (id : Int) (w : World) (hl : x.ins.length ≤ 1048576) (hs : EntsShort x.ins) (hv : VolAt w v x) :
    Calls Tryz.prog 89 #[v, .int .i64 id] w fun e w' => e = .returned (.int .i64 (namedV x id : Nat)) ∧ Below w.heap.size w w' := by
  rw [← namK_all]
  obtain ⟨nx, l⟩ := x
  obtain ⟨u, rfl, a, ca, rfl, -, hva⟩ := hv
  dsimp only at hl hva hs ⊢
  have HS : Hid (∀ k, k < l.length → namK l id (k + 1) = namK l id k + cntN l[k]!.ents id) := fun k hk => namK_succ l id k hk
  have HM : Hid (∀ k, k ≤ l.length → namK l id k ≤ 1099511627776) := fun k hk => by
    have := namK_le l id 1048576 hs k
    omega
  have HE : Hid (∀ k, k < l.length → l[k]!.ents.length ≤ 1048576) := fun k hk => hs _ (place_mem hk)
  obtain ⟨n, HL⟩ : ∃ n, Hid (n = l.length) := ⟨_, rfl⟩
  rw [← HL.out] at hva hl HS HM HE ⊢
  clear hs
  go_enter Tryz.func89, Tryz.ntmps89
  go_wp2
  go_loopw [5, 6] (fun c i wr => ∃ k : Nat, k ≤ n ∧ i = .int .i64 k ∧ c = .int .i64 (namK l id k : Nat) ∧ Below (w.heap.size + 1) (w.alloc (.cells #[.int .i64 nx, .slice a n ca] 26)) wr) (fun _ i _ => n - (intOf i).toNat)
  case atStart => exact ⟨0, Nat.zero_le _, rfl, by simp [namK], Below.refl _ _⟩
  case round =>
    obtain ⟨k, hk, rfl, rfl, hbel⟩ := hrel
    obtain ⟨-, c1, HB⟩ := box_cells hbel
    by_cases hlt : k < n
    · obtain ⟨b1, o1, s1, rfl, hb1, hc1, hent⟩ := hva k hlt
      have c2 := (HB.cell (p := ⟨b1, o1 + k * 5 + 4, none⟩) hb1).trans hc1.c4
      obtain ⟨a2, ca2, rfl, -, hve⟩ := hent
      have HC4 : Hid _ := hc1.c4
      have HS1 : Hid _ := HS.out k hlt
      have HM1 := HM.out k hk
      have HM2 : Hid _ := HM.out (k + 1) (by omega)
      have he := HE.out k hlt
      have HC : Hid (∀ j, j < l[k]!.ents.length → cntK l[k]!.ents id (j + 1) = cntK l[k]!.ents id j + if l[k]!.ents[j]!.id = id then 1 else 0) := fun j hj => cntK_succ _ _ j hj
      have HC0 : Hid (cntK l[k]!.ents id l[k]!.ents.length = cntN l[k]!.ents id) := cntK_all _ _
      have HCL : Hid (∀ j, cntK l[k]!.ents id j ≤ j) := fun j => cntK_le _ _ j
      generalize l[k]!.ents = d at c2 hve HS1 he HC HC0 HCL HC4
      obtain ⟨m, HD⟩ : ∃ m, Hid (m = d.length) := ⟨_, rfl⟩
      rw [← HD.out] at c2 hve he HC HC0 HC4
      generalize namK l id k = q at HS1 HM1 ⊢
      clear hc1 hva
      go_wp2
      go_loopw [5, 7] (fun c j w2 => ∃ i : Nat, i ≤ m ∧ j = .int .i64 i ∧ c = .int .i64 (q + cntK d id i : Nat) ∧ Below (w.heap.size + 1) (w.alloc (.cells #[.int .i64 nx, .slice (some ⟨b1, o1, none⟩) n ca] 26)) w2) (fun _ j _ => m - (intOf j).toNat)
      case atStart => exact ⟨0, Nat.zero_le _, rfl, by simp [cntK, cntN], hbel⟩
      case round =>
        obtain ⟨i, hi, rfl, rfl, hbel2⟩ := hrel
        have hcl := HCL.out i
        obtain ⟨-, c1, HB2⟩ := box_cells hbel2
        have c2 := (HB2.cell (p := ⟨b1, o1 + k * 5 + 4, none⟩) hb1).trans HC4.out
        by_cases hlt2 : i < m
        · obtain ⟨b2, o2, rfl, hb2, he2⟩ := hve i hlt2
          have c3 := (HB2.cell (p := ⟨b2, o2 + i * 4 + 3, none⟩) hb2).trans he2.c3
          have HX : Hid _ := HC.out i hlt2
          generalize d[i]!.id = z at c3 HX
          clear he2 hve
          by_cases hz : z = id
          · have f : (z == id) = true := by simp [hz]
            have HX2 : Hid (cntK d id (i + 1) = cntK d id i + 1) := by show _ = _; rw [HX.out, if_pos hz]
            clear hz HX
            generalize cntK d id i = y at HX2 hcl ⊢
            go_wp2
            go_roundw
            case rel => exact ⟨i + 1, by omega, by go_num, by rw [HX2.out]; go_num, hbel2⟩
            case measure => simp [intOf]; omega
          · have f : (z == id) = false := by simp [hz]
            have HX2 : Hid (cntK d id (i + 1) = cntK d id i) := by show _ = _; rw [HX.out, if_neg hz]; rfl
            clear hz HX
            generalize cntK d id i = y at HX2 hcl ⊢
            go_wp2
            go_roundw
            case rel => exact ⟨i + 1, by omega, by go_num, by rw [HX2.out], hbel2⟩
            case measure => simp [intOf]; omega
        · obtain rfl : i = m := by omega
          have HX3 : Hid (namK l id (k + 1) = q + cntK d id i) := by show _ = _; rw [HS1.out, HC0.out]
          generalize cntK d id i = y at HX3 hcl ⊢
          go_wp2
          go_roundw
          case rel => exact ⟨k + 1, by omega, by go_num, by rw [HX3.out], hbel2⟩
          case measure => simp [intOf]; omega
    · obtain rfl : k = n := by omega
      go_wp2
      go_ret
      exact ⟨rfl, HB⟩
end

section
open Go.RowKit Go.Sort

theorem Tryz.infoFl : (Tryz.prog.info? 4).map (fun i => (i.zero, i.size, i.bytes)) = some (some (.bool false), 1, 1) := by kernel_rfl
/-- a row of flags of the call's own -/
def FlagRow (w : World) (base g n : Nat) (bs : List Bool) : Prop := w.ownsRow base 4 1 (.slice (some ⟨g, 0, none⟩) n n) n (bs.map Value.bool)
theorem FlagRow.len {w : World} {base g n : Nat} {bs : List Bool} (h : FlagRow w base g n bs) : bs.length = n := by
  have := h.1; simp at this; omega
theorem FlagRow.cell {w : World} {base g n : Nat} {bs : List Bool} (h : FlagRow w base g n bs) {j : Nat} (hj : j < n) : w.cell? ⟨g, j, none⟩ = some (.bool bs[j]!) := by
  have hl := h.len
  rw [World.ownsRow.cellAt h j (by omega), List.getElem?_map, List.getElem?_eq_getElem (by omega), getElem!_pos bs j (by omega)]; rfl
theorem FlagRow.frozen {w : World} {base g n : Nat} {bs : List Bool} (h : FlagRow w base g n bs) (j : Nat) : w.frozen? ⟨g, j, none⟩ = false := World.ownsRow.frozenAt h j
theorem FlagRow.put {w : World} {base g n : Nat} {bs : List Bool} (h : FlagRow w base g n bs) (j : Nat) (b : Bool) : FlagRow (w.setCell ⟨g, j, none⟩ (.bool b)) base g n (bs.set j b) := by
  have := (World.ownsRow.stored h j (.bool b)).1
  unfold FlagRow
  rw [List.map_set]; exact this
theorem FlagRow.below {w w' : World} {base g n : Nat} {bs : List Bool} (h : FlagRow w base g n bs) (b : Below w.heap.size w w') : FlagRow w' base g n bs := own_below h b
theorem FlagRow.mono {w : World} {base base' g n : Nat} {bs : List Bool} (h : FlagRow w base g n bs) (hb : base' ≤ base) : FlagRow w base' g n bs :=
  ⟨h.1, by
    rcases h.2 with h0 | ⟨g', cap, cur, e, hg, r⟩
    · exact .inl h0
    · exact .inr ⟨g', cap, cur, e, Nat.le_trans hb hg, r⟩⟩
theorem FlagRow.lt {w : World} {base g n : Nat} {bs : List Bool} (h : FlagRow w base g n bs) : base ≤ g ∧ g < w.heap.size := by
  rcases h.2 with ⟨h0, _⟩ | ⟨g', cap, cur, h0, hg, hh, _⟩
  · cases h0
  · cases h0; exact ⟨hg, lt_of_block hh⟩
/-- a row of flags stays where another block is written -/
theorem FlagRow.other {w : World} {base g n : Nat} {bs : List Bool} (h : FlagRow w base g n bs) {g2 : Nat} (hne : g2 ≠ g) (o : Nat) (y : Value) : FlagRow (w.setCell ⟨g2, o, none⟩ y) base g n bs := by
  refine ⟨h.1, ?_⟩
  rcases h.2 with h0 | ⟨g', cap, cur, h0, hg, hh, r⟩
  · exact .inl h0
  · cases h0
    exact .inr ⟨g, _, cur, rfl, hg, by rw [Below.heap_setCell w _ _ g (by simpa using Ne.symm hne)]; exact hh, r⟩

/-- the first i of those that were open: all that they name is marked -/
def PartC (x : Vo) (o0 inn : List Bool) (i : Nat) : Prop := ∀ j, j < i → o0[j]! = true → ∀ e ∈ (x.ins[j]!).ents, ∃ k, k < x.ins.length ∧ (x.ins[k]!).id = e.id ∧ inn[k]! = true
theorem set_at {l : List Bool} {z j : Nat} (hj : j < l.length) : (l.set z true)[j]! = (if j = z then true else l[j]!) := by
  rw [getElem!_pos _ j (by simpa using hj), List.getElem_set]
  by_cases h : j = z
  · rw [if_pos h.symm, if_pos h]
  · rw [if_neg (Ne.symm h), if_neg h, getElem!_pos l j hj]
theorem set_same {l : List Bool} {z : Nat} (h : z < l.length → l[z]! = true) : l.set z true = l := by
  apply List.ext_getElem (by simp)
  intro j h1 h2
  rw [List.getElem_set]
  split
  · rename_i e; subst e
    have := h h2
    rw [getElem!_pos l z h2] at this; exact this.symm
  · rfl
theorem set_keep {l : List Bool} {z j : Nat} (hj : j < l.length) (h : l[j]! = true) : (l.set z true)[j]! = true := by
  rw [set_at hj]; split
  · rfl
  · exact h
/-- how it stands on the way -/
structure BelSt (w wr : World) (x : Vo) (u : Value) (a0 n g1 g2 : Nat) (inn op : List Bool) : Prop where
  box : Below (w.heap.size + 1) (w.alloc (.cells #[.int .i64 x.next, u] 26)) wr
  r1 : FlagRow wr (w.heap.size + 1) g1 n inn
  r2 : FlagRow wr (w.heap.size + 1) g2 n op
  hop : ∀ j, j < n → (op[j]! = true ↔ inn[j]! = true ∨ j = a0)
  sound : ∀ j, j < n → inn[j]! = true → Reach x x.ins[a0]!.id x.ins[j]!.id
theorem BelSt.below {w wr w2 : World} {x : Vo} {u : Value} {a0 n g1 g2 : Nat} {inn op : List Bool} (h : BelSt w wr x u a0 n g1 g2 inn op) (b : Below wr.heap.size wr w2) : BelSt w w2 x u a0 n g1 g2 inn op :=
  ⟨h.box.trans (b.mono (by have := h.box.size; simpa using this)), h.r1.below b, h.r2.below b, h.hop, h.sound⟩
theorem BelSt.mark {w wr : World} {x : Vo} {u : Value} {a0 n g1 g2 : Nat} {inn op : List Bool} (h : BelSt w wr x u a0 n g1 g2 inn op) (hne : g1 ≠ g2) {z : Nat} (hR : Reach x x.ins[a0]!.id x.ins[z]!.id) :
    BelSt w ((wr.setCell ⟨g1, z, none⟩ (.bool true)).setCell ⟨g2, z, none⟩ (.bool true)) x u a0 n g1 g2 (inn.set z true) (op.set z true) := by
  have l1 := h.r1.len
  have l2 := h.r2.len
  refine ⟨(h.box.setCell h.r1.lt.1 _).setCell h.r2.lt.1 _, (h.r1.put z true).other (Ne.symm hne) _ _, (h.r2.other hne _ _).put z true, fun j hj => ?_, fun j hj hm => ?_⟩
  · rw [set_at (by omega), set_at (by omega)]
    by_cases e : j = z
    · simp [e]
    · rw [if_neg e, if_neg e]; exact h.hop j hj
  · rw [set_at (by omega)] at hm
    by_cases e : j = z
    · rw [e]; exact hR
    · rw [if_neg e] at hm; exact h.sound j hj hm

set_option maxRecDepth 100000 in
set_option maxHeartbeats 1000000 in
theorem l6Below_any (v : Value) (x : Vo) (a0 : Nat) (w : World) (hr : x.ins.Pairwise fun a b => a.id < b.id) (hl : x.ins.length ≤ 1048576) (hsh : EntsShort x.ins) (hall : ∀ y ∈ x.ins, ∀ e ∈ y.ents, ∃ z ∈ x.ins, z.id = e.id) (ha : a0 < x.ins.length) (hv : VolAt w v x) :
    Calls Tryz.prog 65 #[v, .int .i64 x.ins[a0]!.id] w fun e w' => ∃ g bs, e = .returned (.slice (some ⟨g, 0, none⟩) x.ins.length x.ins.length) ∧ FlagRow w' w.heap.size g x.ins.length bs ∧ (∀ j, j < x.ins.length → (bs[j]! = true ↔ Reach x x.ins[a0]!.id x.ins[j]!.id)) ∧ Below w.heap.size w w' := by
  have hAT : ∀ id w', Below w.heap.size w w' → Calls Tryz.prog 91 #[v, .int .i64 id] w' fun e w'' => e = .returned (.int .i64 (plZ x.ins id)) ∧ Below w'.heap.size w' w'' := fun id w' hb => l6At_any v x id w' hl (hv.below hb)
  have HP0 : Hid (plZ x.ins x.ins[a0]!.id = (a0 : Int)) := plZ_some (plN_some ha rfl fun k hk hc => by have := rise_at hr (by omega) ha hc; omega)
  have HEND : Hid (∀ inn op g wr, FlagRow wr (w.heap.size + 1) g x.ins.length inn → op.length = x.ins.length → (∀ j, j < x.ins.length → (op[j]! = true ↔ inn[j]! = true ∨ j = a0)) → (∀ j, j < x.ins.length → inn[j]! = true → Reach x x.ins[a0]!.id x.ins[j]!.id) → (ClosedB x op inn ∨ x.ins.length + 1 ≤ cntB op) → ∀ j, j < x.ins.length → (inn[j]! = true ↔ Reach x x.ins[a0]!.id x.ins[j]!.id)) :=
    fun inn op g wr _ h2 h3 h4 h5 j hj => sweep_is hr ha h3 h4 (sweep_end h2 h5) hj
  have HZ : Hid (∀ i k, i < x.ins.length → k < x.ins[i]!.ents.length → ∃ z, z < x.ins.length ∧ plZ x.ins x.ins[i]!.ents[k]!.id = (z : Int) ∧ x.ins[z]!.id = x.ins[i]!.ents[k]!.id ∧ ((Reach x x.ins[a0]!.id x.ins[i]!.id ∨ i = a0) → Reach x x.ins[a0]!.id x.ins[z]!.id)) := fun i k hi hk => by
    have hm : x.ins[i]!.ents[k]! ∈ x.ins[i]!.ents := by rw [getElem!_pos _ k hk]; exact List.getElem_mem hk
    obtain ⟨y, hy, he⟩ := hall _ (place_mem hi) _ hm
    rcases plZ_cases x.ins x.ins[i]!.ents[k]!.id with ⟨z, h1, h2, h3, h4⟩ | ⟨h1, _⟩
    · refine ⟨z, h1, h4, h2, fun hR => ?_⟩
      have hE : Edge x x.ins[i]!.id x.ins[z]!.id := ⟨_, place_mem hi, rfl, _, hm, h2.symm⟩
      rcases hR with hR | rfl
      · exact .more hR hE
      · exact .one hE
    · exact absurd he (h1 y hy)
  have HSAME : Hid (∀ (o0 i0 : List Bool) (i k z : Nat), o0.length = x.ins.length → i0.length = x.ins.length → ClosedB x o0 i0 → (∀ j, j < x.ins.length → (o0[j]! = true ↔ i0[j]! = true ∨ j = a0)) → i < x.ins.length → o0[i]! = true → k < x.ins[i]!.ents.length → z < x.ins.length → x.ins[z]!.id = x.ins[i]!.ents[k]!.id → o0.set z true = o0 ∧ i0.set z true = i0) := fun o0 i0 i k z l1 l2 hc hop hi ho hk hz he => by
    have hm : x.ins[i]!.ents[k]! ∈ x.ins[i]!.ents := by rw [getElem!_pos _ k hk]; exact List.getElem_mem hk
    obtain ⟨k', h1, h2, h3⟩ := hc i hi ho _ hm
    have e : k' = z := rise_at hr h1 hz (by rw [h2, he])
    subst e
    exact ⟨set_same fun _ => (hop k' h1).2 (.inl h3), set_same fun _ => h3⟩
  have HE : Hid (∀ i, i < x.ins.length → x.ins[i]!.ents.length ≤ 1048576) := fun i hi => hsh _ (place_mem hi)
  have HCL : Hid (∀ o0 inn, PartC x o0 inn x.ins.length → ClosedB x o0 inn) := fun o0 inn h j hj => h j hj
  have HPM : Hid (∀ o0 inn (i z : Nat), PartC x o0 inn i → inn.length = x.ins.length → PartC x o0 (inn.set z true) i) := fun o0 inn i z h hl j hj ho e he => by
    obtain ⟨k, h1, h2, h3⟩ := h j hj ho e he
    exact ⟨k, h1, h2, set_keep (by omega) h3⟩
  have HPS : Hid (∀ (o0 inn : List Bool) (i : Nat), PartC x o0 inn i → (o0[i]! = true → ∀ k, k < x.ins[i]!.ents.length → ∃ z, z < x.ins.length ∧ x.ins[z]!.id = x.ins[i]!.ents[k]!.id ∧ inn[z]! = true) → PartC x o0 inn (i + 1)) := fun o0 inn i h h1 j hj ho e he => by
    by_cases e1 : j = i
    · subst e1
      obtain ⟨k, hk, rfl⟩ := List.getElem_of_mem he
      have := h1 ho k hk
      rwa [getElem!_pos _ k hk] at this
    · exact h j (by omega) ho e he
  obtain ⟨nx, l⟩ := x
  obtain ⟨u, rfl, aa, ca, rfl, -, hva⟩ := hv
  dsimp only at hl ha hva hAT HP0 HEND HZ HE HCL HPM HPS HSAME ⊢
  obtain ⟨n, HL⟩ : ∃ n, Hid (n = l.length) := ⟨_, rfl⟩
  rw [← HL.out] at hl ha hva hAT HEND HZ HE HCL HPM HPS HSAME ⊢
  clear hsh hall hr
  obtain ⟨id0, HID⟩ : ∃ q, Hid (q = l[a0]!.id) := ⟨_, rfl⟩
  rw [← HID.out] at HP0 ⊢
  obtain ⟨i0, hi, hz0, hz1, hz2⟩ := info_parts Tryz.infoFl
  go_enter Tryz.func65, Tryz.ntmps65
  have HST : Hid (∀ w1 w2 w3 : World, w1.ownsRow (w.heap.size + 1) 4 1 (.slice (some ⟨(w.alloc (.cells #[.int .i64 nx, .slice aa n ca] 26)).heap.size, 0, none⟩) n n) n (madeCells (Value.bool false).cells (n * 1)).toList → w1.grownBy w2 none →
      w2.ownsRow (w.heap.size + 1) 4 1 (.slice (some ⟨w1.heap.size, 0, none⟩) n n) n (madeCells (Value.bool false).cells (n * 1)).toList → Below (w.heap.size + 1) (w.alloc (.cells #[.int .i64 nx, .slice aa n ca] 26)) w2 → Below w2.heap.size w2 w3 → 
      w.heap.size + 1 ≠ w1.heap.size ∧ w3.cell? ⟨w1.heap.size, a0, none⟩ = some (.bool false) ∧ w3.frozen? ⟨w1.heap.size, a0, none⟩ = false ∧ BelSt w (w3.setCell ⟨w1.heap.size, a0, none⟩ (.bool true)) ⟨nx, l⟩ (.slice aa n ca) a0 n (w.heap.size + 1) w1.heap.size (List.replicate n false) ((List.replicate n false).set a0 true)) := fun w1 w2 w3 h1 hg h2 hb b3 => by
    have e0 : (w.alloc (.cells #[.int .i64 nx, .slice aa n ca] 26)).heap.size = w.heap.size + 1 := by simp
    have hF1 : FlagRow w1 (w.heap.size + 1) (w.heap.size + 1) n (List.replicate n false) := by
      unfold FlagRow
      rw [List.map_replicate, ← toList_madeCells_one]
      rw [e0] at h1
      simpa [Value.cells] using h1
    have hF2 : FlagRow w2 (w.heap.size + 1) w1.heap.size n (List.replicate n false) := by
      unfold FlagRow
      rw [List.map_replicate, ← toList_madeCells_one]; simpa [Value.cells] using h2
    have hF1' : FlagRow w2 (w.heap.size + 1) (w.heap.size + 1) n (List.replicate n false) := hF1.below ⟨hg.os, hg.tape, hg.output, hg.size, fun k hk => hg.block k hk (by simp)⟩
    have hne : w.heap.size + 1 ≠ w1.heap.size := by have := hF1.lt.2; omega
    have k2 := hF2.below b3
    have k1 := hF1'.below b3
    have hrep : ∀ j, j < n → (List.replicate n false)[j]! = false := fun j hj => by rw [getElem!_pos _ j (by simpa using hj)]; simp
    have hlr : (List.replicate n false).length = n := by simp
    refine ⟨hne, by rw [k2.cell ha, hrep a0 ha], k2.frozen _, ⟨(hb.trans (b3.mono (by have := hb.size; rw [e0] at this; exact this))).setCell (by show w.heap.size + 1 ≤ w1.heap.size; exact hF2.lt.1) _, k1.other (Ne.symm hne) _ _, k2.put _ _, fun j hj => ?_, fun j hj h => ?_⟩⟩
    · rw [set_at (by rw [hlr]; exact hj), hrep j hj]
      by_cases e : j = a0 <;> simp [e]
    · rw [hrep j hj] at h; cases h
  go_wp2_with (first
    | (at_make; refine wpList_make_full _ rfl _ _ 90 rfl (w.heap.size + 1) 4 i0 _ 1 Tryz.underlying90 hi hz0 hz1 .i64 .i64 _ _ n rfl rfl rfl rfl (by rw [hz2]; omega) (by unfold maxLen; omega) (by simp) ?_; intro w1 hown1 hgrow1; have hb1 : Below (w.heap.size + 1) (w.alloc (.cells #[.int .i64 nx, .slice aa n ca] 26)) w1 := (Below.refl _ _).grown hgrow1 (by simp) (fun _ h => by cases h); obtain ⟨x0, x1, -⟩ := box_cells hb1; have hs1 := hb1.size; have hs1 : w.heap.size + 1 ≤ w1.heap.size := by simpa using hs1)
    | (at_make; refine wpList_make_full _ rfl _ _ 90 rfl (w.heap.size + 1) 4 i0 _ 1 Tryz.underlying90 hi hz0 hz1 .i64 .i64 _ _ n rfl rfl rfl rfl (by rw [hz2]; omega) (by unfold maxLen; omega) hs1 ?_; intro w2 hown2 hgrow2; have hb2 := hb1.grown hgrow2 hs1 (fun _ h => by cases h); obtain ⟨y0, y1, HB2⟩ := box_cells hb2)
    | (go_at_call 91; refine (hAT id0 _ HB2).mono ?_; rintro e w3 ⟨rfl, b3⟩; rw [HP0.out]; obtain ⟨hne, hc3, hf3, St⟩ := HST.out w1 w2 w3 hown1 hgrow2 hown2 hb2 b3; have St : Hid _ := St; clear hown1 hown2 hgrow1 hgrow2 x0 x1 y0 y1 hb1))
  generalize w1.heap.size = g2 at hne hc3 hf3 St hs1 ⊢
  have hinv0 : ClosedB ⟨nx, l⟩ ((List.replicate n false).set a0 true) (List.replicate n false) ∨ 0 + 1 ≤ cntB ((List.replicate n false).set a0 true) := by
    right
    unfold cntB
    rw [Nat.zero_add, Nat.one_le_iff_ne_zero, ← Nat.pos_iff_ne_zero, List.countP_pos_iff]
    exact ⟨true, List.mem_iff_getElem.2 ⟨a0, by simpa using ha, by simp⟩, rfl⟩
  have hinv0 : Hid _ := hinv0
  go_loopw [8] (fun r wr => ∃ (k : Nat) (inn op : List Bool), k ≤ n ∧ r = .int .i64 k ∧ Hid (BelSt w wr ⟨nx, l⟩ (.slice aa n ca) a0 n (w.heap.size + 1) g2 inn op) ∧ Hid (ClosedB ⟨nx, l⟩ op inn ∨ k + 1 ≤ cntB op)) (fun r _ => n - (intOf r).toNat)
  case atStart => exact ⟨0, _, _, Nat.zero_le _, rfl, St, hinv0⟩
  case round =>
    obtain ⟨r, inn0, op0, hr0, rfl, ST0, INV0⟩ := hrel
    obtain ⟨-, c1, HB⟩ := box_cells ST0.out.box
    by_cases hlt : r < n
    · have HCNT : Hid (∀ inn op : List Bool, op.length = n → (∀ j, j < n → op0[j]! = true → op[j]! = true) → PartC ⟨nx, l⟩ op0 inn n → (ClosedB ⟨nx, l⟩ op0 inn0 → op = op0 ∧ inn = inn0) → (ClosedB ⟨nx, l⟩ op inn ∨ (r + 1) + 1 ≤ cntB op)) := fun inn op h1 h2 h3 h6 => by
        have hl0 : op0.length = op.length := by rw [h1]; exact ST0.out.r2.len
        rcases sweep_round hl0 (fun j hj h => h2 j (by have := ST0.out.r2.len; omega) h) (HCL.out op0 inn h3) with h4 | h4
        · exact .inl h4
        · rcases INV0.out with h5 | h5
          · obtain ⟨e1, e2⟩ := h6 h5
            left; rw [e1, e2]; exact h5
          · exact .inr (by omega)
      have HOP0 : Hid (op0.length = n ∧ inn0.length = n ∧ ∀ j, j < n → (op0[j]! = true ↔ inn0[j]! = true ∨ j = a0)) := ⟨ST0.out.r2.len, ST0.out.r1.len, ST0.out.hop⟩
      go_wp2
      go_loopw [9] (fun s wq => ∃ (i : Nat) (inn op : List Bool), i ≤ n ∧ s = .int .i64 i ∧ Hid (BelSt w wq ⟨nx, l⟩ (.slice aa n ca) a0 n (w.heap.size + 1) g2 inn op) ∧ Hid (∀ j, j < n → op0[j]! = true → op[j]! = true) ∧ Hid (PartC ⟨nx, l⟩ op0 inn i) ∧ Hid (ClosedB ⟨nx, l⟩ op0 inn0 → op = op0 ∧ inn = inn0)) (fun s _ => n - (intOf s).toNat)
      case atStart => exact ⟨0, inn0, op0, Nat.zero_le _, rfl, ST0, fun _ _ h => h, fun j hj => by omega, fun _ => ⟨rfl, rfl⟩⟩
      case round =>
        obtain ⟨i, inn1, op1, hi1, rfl, ST1, MON1, PC1, SM1⟩ := hrel
        obtain ⟨-, c1, HB1⟩ := box_cells ST1.out.box
        by_cases hlt1 : i < n
        · obtain ⟨b1, o1, s1, rfl, hb1, hc1, hent⟩ := hva i hlt1
          obtain ⟨a2, ca2, rfl, -, hve⟩ := hent
          have HC4 : Hid _ := hc1.c4
          have he := HE.out i hlt1
          have HZI := fun k => HZ.out i k hlt1
          have HPSI := fun inn => HPS.out op0 inn i
          have HSAMEI := fun k z => HSAME.out op0 inn0 i k z HOP0.out.1 HOP0.out.2.1
          generalize l[i]!.ents = d at HC4 he hve HZI HPSI HSAMEI
          obtain ⟨m, HD⟩ : ∃ m, Hid (m = d.length) := ⟨_, rfl⟩
          rw [← HD.out] at HC4 he hve HZI HPSI HSAMEI
          have HZI : Hid _ := HZI
          have HPSI : Hid _ := HPSI
          have HSAMEI : Hid _ := HSAMEI
          clear hc1
          go_wp2
          go_loopw [10] (fun s wq => ∃ (k : Nat) (inn op : List Bool), k ≤ m ∧ s = .int .i64 k ∧ Hid (BelSt w wq ⟨nx, l⟩ (.slice (some ⟨b1, o1, none⟩) n ca) a0 n (w.heap.size + 1) g2 inn op) ∧ Hid (∀ j, j < n → op0[j]! = true → op[j]! = true) ∧ Hid (PartC ⟨nx, l⟩ op0 inn i) ∧ Hid (ClosedB ⟨nx, l⟩ op0 inn0 → op = op0 ∧ inn = inn0) ∧ Hid (∀ j, j < k → ∃ z, z < n ∧ l[z]!.id = d[j]!.id ∧ inn[z]! = true)) (fun s _ => m - (intOf s).toNat)
          case atStart => exact ⟨0, inn1, op1, Nat.zero_le _, rfl, ST1, MON1, PC1, SM1, fun j hj => by omega⟩
          case round =>
            obtain ⟨k, inn, op, hk, rfl, ST, MON, PC, SM, MK⟩ := hrel
            obtain ⟨y0, c1, HBq⟩ := box_cells ST.out.box
            have c2 := (HBq.cell (p := ⟨b1, o1 + i * 5 + 4, none⟩) hb1).trans HC4.out
            have f1 := ST.out.r2.cell hlt1
            cases hop : op[i]!
            · rw [hop] at f1
              have HN : Hid (PartC ⟨nx, l⟩ op0 inn (i + 1)) := HPSI.out inn PC.out (fun h => by rw [MON.out i hlt1 h] at hop; cases hop)
              clear hop
              go_wp2
              go_roundw
              case rel => exact ⟨i + 1, inn, op, by omega, by go_num, ST, MON, HN, SM⟩
              case measure => simp [intOf]; omega
            · rw [hop] at f1
              by_cases hkm : k < m
              · obtain ⟨z, hz, hpz, hidz, hreach⟩ := HZI.out k hkm
                obtain ⟨b2, o2, rfl, hb2, he2⟩ := hve k hkm
                have c3 := (HBq.cell (p := ⟨b2, o2 + k * 4 + 3, none⟩) hb2).trans he2.c3
                have HRZ : Hid (Reach ⟨nx, l⟩ l[a0]!.id l[z]!.id) := hreach (((ST.out.hop i hlt1).1 hop).elim (fun h => .inl (ST.out.sound i hlt1 h)) .inr)
                have HN : Hid (∀ w5, Below wr.heap.size wr w5 → (w5.cell? ⟨w.heap.size + 1, z, none⟩ = some (.bool inn[z]!) ∧ w5.frozen? ⟨w.heap.size + 1, z, none⟩ = false ∧ w5.cell? ⟨g2, z, none⟩ = some (.bool op[z]!) ∧ w5.frozen? ⟨g2, z, none⟩ = false) ∧ BelSt w ((w5.setCell ⟨w.heap.size + 1, z, none⟩ (.bool true)).setCell ⟨g2, z, none⟩ (.bool true)) ⟨nx, l⟩ (.slice (some ⟨b1, o1, none⟩) n ca) a0 n (w.heap.size + 1) g2 (inn.set z true) (op.set z true)) := fun w5 b5 =>
                  ⟨⟨(ST.out.r1.below b5).cell hz, (ST.out.r1.below b5).frozen z, (ST.out.r2.below b5).cell hz, (ST.out.r2.below b5).frozen z⟩, (ST.out.below b5).mark hne HRZ.out⟩
                have hli := ST.out.r1.len
                have hlo := ST.out.r2.len
                have MON' : Hid (∀ j, j < n → op0[j]! = true → (op.set z true)[j]! = true) := fun j hj h => set_keep (by omega) (MON.out j hj h)
                have PC' : Hid (PartC ⟨nx, l⟩ op0 (inn.set z true) i) := HPM.out op0 inn i z PC.out hli
                have SM' : Hid (ClosedB ⟨nx, l⟩ op0 inn0 → op.set z true = op0 ∧ inn.set z true = inn0) := fun hc => by
                  obtain ⟨e1, e2⟩ := SM.out hc
                  have := HSAMEI.out k z hc HOP0.out.2.2 hlt1 (by rw [← e1]; exact hop) hkm hz hidz
                  rw [e1, e2]; exact this
                have MK' : Hid (∀ j, j < k + 1 → ∃ z', z' < n ∧ l[z']!.id = d[j]!.id ∧ (inn.set z true)[z']! = true) := fun j hj => by
                  by_cases e : j = k
                  · subst e
                    exact ⟨z, hz, hidz, by rw [set_at (by omega), if_pos rfl]⟩
                  · obtain ⟨z', h1, h2, h3⟩ := MK.out j (by omega)
                    exact ⟨z', h1, h2, set_keep (by omega) h3⟩
                have hA5 : ∀ dd os, Calls Tryz.prog 91 #[.agg #[.int .i64 nx, .slice (some ⟨b1, o1, none⟩) n ca], .int .i64 d[k]!.id] (grow (redrawn wr dd) os) fun e w'' => e = .returned (.int .i64 (z : Int)) ∧ ∃ p : Regrown, w'' = grow (redrawn wr p.d) p.os := fun dd os =>
                  Calls.regrown_of (by have := hAT d[k]!.id _ (HBq.trans ((below_regrown wr dd os).mono HBq.size)); rwa [hpz] at this)
                have y0 : wr.cell? ⟨w.heap.size, 0, none⟩ = some (.int .i64 nx) := y0
                generalize d[k]!.id = zid at c3 hA5
                have HNE : Hid (w.heap.size + 1 ≠ g2) := hne
                have q0 := cell_regrown y0
                have q1 := cell_regrown c1
                have q2 := cell_regrown c2
                have q3 := cell_regrown c3
                have hi0 : (0 : Int) ≤ (i : Int) := by omega
                have hin : (i : Int) < (n : Int) := by omega
                have hk0 : (0 : Int) ≤ (k : Int) := by omega
                have hkm' : (k : Int) < (m : Int) := by omega
                clear hop he2 hreach hidz hpz hve hva hne MK SM PC MON hli hlo
                go_wp2
                refine wp_region_quiet_below (by kernel_rfl) (by kernel_rfl) ?_
                repeat (go_big_quiet_step (exact hA5 _ _))
                refine wpQuiet_nil ?_
                rintro w' ⟨⟨dq, osq⟩, rfl⟩
                have hbq := below_regrown wr dq osq
                obtain ⟨⟨k1, k2, k3, k4⟩, hS5⟩ := HN.out _ hbq
                have hS5 : Hid _ := hS5
                generalize grow (redrawn wr dq) osq = w5 at hbq k1 k2 k3 k4 hS5 ⊢
                have hne := HNE.out
                go_wp2
                go_roundw
                case rel => exact ⟨k + 1, _, _, by omega, by go_num, hS5, MON', PC', SM', MK'⟩
                case measure => simp [intOf]; omega
              · obtain rfl : k = m := by omega
                have HN : Hid (PartC ⟨nx, l⟩ op0 inn (i + 1)) := HPSI.out inn PC.out (fun _ => MK.out)
                clear hop
                go_wp2
                go_roundw
                case rel => exact ⟨i + 1, inn, op, by omega, by go_num, ST, MON, HN, SM⟩
                case measure => simp [intOf]; omega
        · obtain rfl : i = n := by omega
          have HN : Hid _ := HCNT.out inn1 op1 ST1.out.r2.len MON1.out PC1.out SM1.out
          go_wp2
          go_roundw
          case rel => exact ⟨r + 1, inn1, op1, by omega, by go_num, ST1, HN⟩
          case measure => simp [intOf]; omega
    · obtain rfl : r = n := by omega
      have hend := HEND.out inn0 op0 _ _ ST0.out.r1 ST0.out.r2.len ST0.out.hop ST0.out.sound INV0.out
      have hR := ST0.out.r1
      go_wp2
      go_ret
      exact ⟨w.heap.size + 1, inn0, rfl, hR.mono (by omega), by rw [HID.out]; exact hend, HB⟩
end

section
open Go.RowKit Go.Sort

open Classical in
/-- is an inode right -/
noncomputable def inoB (v : Vo) (x : Ino) : Bool := decide (InoR v x)
open Classical in
/-- is a volume right -/
noncomputable def rightB (v : Vo) : Bool := decide (RightV v)
open Classical in
theorem inoB_iff {v : Vo} {x : Ino} : inoB v x = true ↔ InoR v x := by unfold inoB; rw [decide_eq_true_eq]
open Classical in
theorem rightB_iff {v : Vo} : rightB v = true ↔ RightV v := by unfold rightB; rw [decide_eq_true_eq]
theorem bool_of {b : Bool} {p : Prop} (h : b = true ↔ p) {c : Bool} (hc : c = true ↔ p) : b = c := by
  rw [Bool.eq_iff_iff, h, hc]
/-- two boxes -/
theorem box_ino (w : World) (a u c0 c1 c2 c3 c4 : Value) (T1 T2 : TypeId) :
    (((w.alloc (.cells #[a, u] T1)).alloc (.cells #[c0, c1, c2, c3, c4] T2)).cell? ⟨w.heap.size, 0, none⟩ = some a ∧ ((w.alloc (.cells #[a, u] T1)).alloc (.cells #[c0, c1, c2, c3, c4] T2)).cell? ⟨w.heap.size, 1, none⟩ = some u) ∧
    ((w.alloc (.cells #[a, u] T1)).alloc (.cells #[c0, c1, c2, c3, c4] T2)).cell? ⟨w.heap.size + 1, 0, none⟩ = some c0 ∧ ((w.alloc (.cells #[a, u] T1)).alloc (.cells #[c0, c1, c2, c3, c4] T2)).cell? ⟨w.heap.size + 1, 1, none⟩ = some c1 ∧ ((w.alloc (.cells #[a, u] T1)).alloc (.cells #[c0, c1, c2, c3, c4] T2)).cell? ⟨w.heap.size + 1, 2, none⟩ = some c2 ∧
    ((w.alloc (.cells #[a, u] T1)).alloc (.cells #[c0, c1, c2, c3, c4] T2)).cell? ⟨w.heap.size + 1, 3, none⟩ = some c3 ∧ ((w.alloc (.cells #[a, u] T1)).alloc (.cells #[c0, c1, c2, c3, c4] T2)).cell? ⟨w.heap.size + 1, 4, none⟩ = some c4 := by
  have h1 : ∀ j, ((w.alloc (.cells #[a, u] T1)).alloc (.cells #[c0, c1, c2, c3, c4] T2)).cell? ⟨w.heap.size, j, none⟩ = (w.alloc (.cells #[a, u] T1)).cell? ⟨w.heap.size, j, none⟩ := fun j =>
    (below_lit (w.alloc (.cells #[a, u] T1)) _).cell (p := ⟨w.heap.size, j, none⟩) (by simp)
  have h2 : ∀ j, ((w.alloc (.cells #[a, u] T1)).alloc (.cells #[c0, c1, c2, c3, c4] T2)).cell? ⟨w.heap.size + 1, j, none⟩ = #[c0, c1, c2, c3, c4][j]? := fun j => by
    have e : (w.alloc (.cells #[a, u] T1)).heap.size = w.heap.size + 1 := by simp
    rw [← e, World.cell?_alloc_mark]
  refine ⟨⟨?_, ?_⟩, ?_, ?_, ?_, ?_, ?_⟩
  · rw [h1, World.cell?_alloc_mark]; rfl
  · rw [h1, World.cell?_alloc_mark]; rfl
  all_goals (rw [h2]; rfl)

/-- two boxes, and what came behind them -/
theorem box_ino' {w wr : World} {a u c0 c1 c2 c3 c4 : Value} {T1 T2 : TypeId} (hb : Below (w.heap.size + 2) ((w.alloc (.cells #[a, u] T1)).alloc (.cells #[c0, c1, c2, c3, c4] T2)) wr) :
    (wr.cell? ⟨w.heap.size, 0, none⟩ = some a ∧ wr.cell? ⟨w.heap.size, 1, none⟩ = some u) ∧ wr.cell? ⟨w.heap.size + 1, 0, none⟩ = some c0 ∧ wr.cell? ⟨w.heap.size + 1, 1, none⟩ = some c1 ∧ wr.cell? ⟨w.heap.size + 1, 2, none⟩ = some c2 ∧ wr.cell? ⟨w.heap.size + 1, 3, none⟩ = some c3 ∧ wr.cell? ⟨w.heap.size + 1, 4, none⟩ = some c4 := by
  obtain ⟨⟨h0, h1⟩, h2, h3, h4, h5, h6⟩ := box_ino w a u c0 c1 c2 c3 c4 T1 T2
  have k1 : ∀ j, wr.cell? ⟨w.heap.size, j, none⟩ = _ := fun j => hb.cell (p := ⟨w.heap.size, j, none⟩) (by show w.heap.size < _; omega)
  have k2 : ∀ j, wr.cell? ⟨w.heap.size + 1, j, none⟩ = _ := fun j => hb.cell (p := ⟨w.heap.size + 1, j, none⟩) (by show w.heap.size + 1 < _; omega)
  exact ⟨⟨(k1 0).trans h0, (k1 1).trans h1⟩, (k2 0).trans h2, (k2 1).trans h3, (k2 2).trans h4, (k2 3).trans h5, (k2 4).trans h6⟩
theorem isNil_iff (x : ByteArray) : x.toList = [] ↔ x.size = 0 := by
  rw [← List.length_eq_zero_iff, ByteArray.toList_eq, Array.length_toList]; rfl
theorem inoV_some_iff {v : Vo} {id : Int} : (inoV v id).isSome = true ↔ ∃ i : Nat, plZ v.ins id = (i : Int) := by
  rcases plZ_cases v.ins id with ⟨i, h1, h2, _, h4⟩ | ⟨h1, _, h3⟩
  · refine ⟨fun _ => ⟨i, h4⟩, fun _ => ?_⟩
    unfold inoV
    rw [List.find?_isSome]
    exact ⟨v.ins[i]!, place_mem h1, by simpa using h2⟩
  · constructor
    · intro h
      unfold inoV at h
      rw [List.find?_isSome] at h
      obtain ⟨y, hy, he⟩ := h
      exact absurd (by simpa using he) (h1 y hy)
    · rintro ⟨i, hi⟩; omega

set_option maxRecDepth 100000 in
set_option maxHeartbeats 1000000 in
theorem l6InodeOk_file (v : Value) (x : Vo) (y : Ino) (s : Value) (w : World) (hk : y.kind = 1) (hl : x.ins.length ≤ 1048576) (hsh : EntsShort x.ins) (hv : VolAt w v x) (hs : EntsAt w s y.ents) (he : y.ents.length ≤ 1048576) (hd : y.data.size ≤ 1048576) :
    Calls Tryz.prog 64 #[v, valI y s] w fun e w' => e = .returned (.bool (inoB x y)) ∧ Below w.heap.size w w' := by
  have HR : Hid (∀ b : Bool, (b = true ↔ y.ents.length = 0 ∧ y.data.size ≤ 20 ∧ y.links = namedV x y.id) → inoB x y = b) := fun b hb => bool_of inoB_iff (hb.trans (inoR_file hk).symm)
  have hNM := fun w' (b : Below w.heap.size w w') => l6Named_any v x y.id w' hl hsh (hv.below b)
  generalize inoB x y = r at HR ⊢
  generalize namedV x y.id = nm at HR hNM
  obtain ⟨nx, l⟩ := x
  obtain ⟨u, rfl, aa, ca, rfl, -, -⟩ := hv
  obtain ⟨a2, ca2, rfl, -, -⟩ := hs
  obtain ⟨yi, yk, yl, yd, ye⟩ := y
  unfold valI
  dsimp only at *
  subst hk
  generalize l.length = n at *
  generalize ye.length = m at *
  have B0 : Below w.heap.size w ((w.alloc (.cells #[.int .i64 nx, .slice aa n ca] 26)).alloc (.cells #[.int .i64 yi, .int .i64 1, .int .i64 yl, .string yd, .slice a2 m ca2] 59)) := (below_lit w _).alloc (by simp) _
  obtain ⟨⟨p0, p1⟩, q0, q1, q2, q3, q4⟩ := box_ino w (.int .i64 nx) (.slice aa n ca) (.int .i64 yi) (.int .i64 1) (.int .i64 yl) (.string yd) (.slice a2 m ca2) 26 59
  have hQ : ∀ d os, Calls Tryz.prog 89 #[.agg #[.int .i64 nx, .slice aa n ca], .int .i64 yi] (grow (redrawn ((w.alloc (.cells #[.int .i64 nx, .slice aa n ca] 26)).alloc (.cells #[.int .i64 yi, .int .i64 1, .int .i64 yl, .string yd, .slice a2 m ca2] 59)) d) os) fun e w'' => e = .returned (.int .i64 (nm : Int)) ∧ ∃ p : Regrown, w'' = grow (redrawn ((w.alloc (.cells #[.int .i64 nx, .slice aa n ca] 26)).alloc (.cells #[.int .i64 yi, .int .i64 1, .int .i64 yl, .string yd, .slice a2 m ca2] 59)) p.d) p.os := fun d os =>
    Calls.regrown_of (hNM _ (B0.trans ((below_regrown _ d os).mono B0.size)))
  go_enter Tryz.func64, Tryz.ntmps64
  go_wp2
  generalize ((w.alloc (.cells #[.int .i64 nx, .slice aa n ca] 26)).alloc (.cells #[.int .i64 yi, .int .i64 1, .int .i64 yl, .string yd, .slice a2 m ca2] 59)) = W at B0 p0 p1 q0 q1 q2 q3 q4 hQ ⊢
  have p0 := cell_regrown p0
  have p1 := cell_regrown p1
  have q0 := cell_regrown q0
  have q2 := cell_regrown q2
  have q3 := cell_regrown q3
  have q4 := cell_regrown q4
  clear hNM
  by_cases h1 : m = 0
  · by_cases h2 : yd.size ≤ 20
    · have f1 : ((m : Int) == 0) = true := by simp [h1]
      have f2 : decide ((yd.size : Int) ≤ 20) = true := by simp; omega
      by_cases h3 : yl = nm
      · have f3 : (yl == (nm : Int)) = true := by simp [h3]
        have hr := HR.out true (by simp [h1, h2, h3])
        clear h1 h2 h3
        refine wp_region_quiet_below (by kernel_rfl) (by kernel_rfl) ?_
        repeat (go_big_quiet_step (exact hQ _ _))
        refine wpQuiet_nil ?_
        rintro w' ⟨⟨dq, osq⟩, rfl⟩
        have hbq := below_regrown W dq osq
        generalize grow (redrawn W dq) osq = w4 at hbq ⊢
        go_wp2
        go_ret
        exact ⟨ret_bool hr.symm, B0.trans (hbq.mono B0.size)⟩
      · have f3 : (yl == (nm : Int)) = false := by simp [h3]
        have hr := HR.out false (by simp [h3])
        clear h1 h2 h3
        refine wp_region_quiet_below (by kernel_rfl) (by kernel_rfl) ?_
        repeat (go_big_quiet_step (exact hQ _ _))
        refine wpQuiet_nil ?_
        rintro w' ⟨⟨dq, osq⟩, rfl⟩
        have hbq := below_regrown W dq osq
        generalize grow (redrawn W dq) osq = w4 at hbq ⊢
        go_wp2
        go_ret
        exact ⟨ret_bool hr.symm, B0.trans (hbq.mono B0.size)⟩
    · have f1 : ((m : Int) == 0) = true := by simp [h1]
      have f2 : decide ((yd.size : Int) ≤ 20) = false := by simp; omega
      have hr := HR.out false (by simp; omega)
      clear h1 h2
      refine wp_region_quiet_below (by kernel_rfl) (by kernel_rfl) ?_
      repeat (go_big_quiet_step (exact hQ _ _))
      refine wpQuiet_nil ?_
      rintro w' ⟨⟨dq, osq⟩, rfl⟩
      have hbq := below_regrown W dq osq
      generalize grow (redrawn W dq) osq = w4 at hbq ⊢
      go_wp2
      go_ret
      exact ⟨ret_bool hr.symm, B0.trans (hbq.mono B0.size)⟩
  · have f1 : ((m : Int) == 0) = false := by simp [h1]
    have hr := HR.out false (by simp [h1])
    clear h1
    refine wp_region_quiet_below (by kernel_rfl) (by kernel_rfl) ?_
    repeat (go_big_quiet_step (exact hQ _ _))
    refine wpQuiet_nil ?_
    rintro w' ⟨⟨dq, osq⟩, rfl⟩
    have hbq := below_regrown W dq osq
    generalize grow (redrawn W dq) osq = w4 at hbq ⊢
    go_wp2
    go_ret
    exact ⟨ret_bool hr.symm, B0.trans (hbq.mono B0.size)⟩

set_option maxRecDepth 100000 in
set_option maxHeartbeats 1000000 in
theorem l6InodeOk_none (v : Value) (x : Vo) (y : Ino) (s : Value) (w : World) (hk : y.kind ≠ 1) (hk2 : y.kind ≠ 2) (hv : VolAt w v x) (hs : EntsAt w s y.ents) :
    Calls Tryz.prog 64 #[v, valI y s] w fun e w' => e = .returned (.bool (inoB x y)) ∧ Below w.heap.size w w' := by
  have HR : Hid (inoB x y = false) := bool_of inoB_iff (c := false) (by simp; exact inoR_none hk hk2)
  obtain ⟨u, rfl, aa, ca, rfl, -, -⟩ := hv
  obtain ⟨a2, ca2, rfl, -, -⟩ := hs
  generalize inoB x y = r at HR ⊢
  obtain ⟨yi, yk, yl, yd, ye⟩ := y
  unfold valI
  dsimp only at *
  have f1 : (yk == 1) = false := by simp [hk]
  have f2 : (yk == 2) = false := by simp [hk2]
  clear hk hk2
  go_enter Tryz.func64, Tryz.ntmps64
  go_wp2
  go_ret
  exact ⟨ret_bool HR.out.symm, (below_lit w _).alloc (by simp) _⟩

set_option maxRecDepth 100000 in
set_option maxHeartbeats 1000000 in
theorem l6InodeOk_dir (v : Value) (x : Vo) (y : Ino) (s : Value) (w : World) (hk : y.kind = 2) (hl : x.ins.length ≤ 1048576) (hsh : EntsShort x.ins) (hv : VolAt w v x) (hs : EntsAt w s y.ents) (he : y.ents.length ≤ 1048576) (hd : y.data.size ≤ 1048576) (hnm : Shorts y.ents) :
    Calls Tryz.prog 64 #[v, valI y s] w fun e w' => e = .returned (.bool (inoB x y)) ∧ Below w.heap.size w w' := by
  have HR : Hid (∀ b : Bool, (b = true ↔ y.data.size = 0 ∧ y.links = 1 ∧ dirB y.ents = true ∧ (y.id = 1 ∨ namedV x y.id = 1) ∧ ∀ e ∈ y.ents, e.id ≠ 1 ∧ (inoV x e.id).isSome = true) → inoB x y = b) := fun b hb => bool_of inoB_iff (hb.trans (inoR_dir hk).symm)
  have hNM := fun w' (b : Below w.heap.size w w') => l6Named_any v x y.id w' hl hsh (hv.below b)
  have hDO := fun w' (b : Below w.heap.size w w') => sDirOk s y.ents w' (hs.below b) hnm he
  have hAT := fun id w' (b : Below w.heap.size w w') => l6At_any v x id w' hl (hv.below b)
  generalize inoB x y = r at HR ⊢
  generalize namedV x y.id = nm at HR hNM
  generalize dirB y.ents = db at HR hDO
  obtain ⟨nx, l⟩ := x
  obtain ⟨u, rfl, aa, ca, rfl, -, -⟩ := hv
  obtain ⟨a2, ca2, rfl, -, hve⟩ := hs
  obtain ⟨yi, yk, yl, yd, ye⟩ := y
  unfold valI
  dsimp only at *
  subst hk
  have HF : Hid (yd.toList ≠ [] ∨ yl ≠ 1 ∨ db = false ∨ (yi ≠ 1 ∧ nm ≠ 1) → r = false) := fun h => HR.out false (by
    simp only [Bool.false_eq_true, false_iff]
    rintro ⟨h1, h2, h3, h4, _⟩
    rw [Ne, isNil_iff] at h
    rcases h with h | h | h | ⟨h, h'⟩
    · exact h h1
    · exact h h2
    · rw [h3] at h; cases h
    · rcases h4 with h4 | h4
      · exact h h4
      · exact h' h4)
  have HEND : Hid (∀ b : Bool, yd.toList = [] → yl = 1 → db = true → (yi = 1 ∨ nm = 1) → (b = true ↔ ∀ t, t < ye.length → ye[t]!.id ≠ 1 ∧ ∃ i : Nat, plZ l ye[t]!.id = (i : Int)) → r = b) := fun b h1 h2 h3 h4 h5 => HR.out b (by
    rw [h5]
    rw [isNil_iff] at h1
    have e : (∀ e ∈ ye, e.id ≠ 1 ∧ (inoV ⟨nx, l⟩ e.id).isSome = true) ↔ ∀ t, t < ye.length → ye[t]!.id ≠ 1 ∧ ∃ i : Nat, plZ l ye[t]!.id = (i : Int) := by
      constructor
      · intro h t ht
        have := h ye[t]! (by rw [getElem!_pos ye t ht]; exact List.getElem_mem ht)
        exact ⟨this.1, inoV_some_iff.1 this.2⟩
      · intro h e he
        obtain ⟨t, ht, rfl⟩ := List.getElem_of_mem he
        have := h t ht
        rw [getElem!_pos ye t ht] at this
        exact ⟨this.1, inoV_some_iff.2 this.2⟩
    rw [e]
    exact ⟨fun h => ⟨h1, h2, h3, h4, h⟩, fun h => h.2.2.2.2⟩)
  clear HR
  have HPZ : Hid (∀ id, (∃ i : Nat, plZ l id = (i : Int)) ∨ plZ l id = -1) := fun id => by
    rcases plZ_cases l id with ⟨i, _, _, _, h⟩ | ⟨_, _, h⟩
    · exact .inl ⟨i, h⟩
    · exact .inr h
  obtain ⟨m, HM⟩ : ∃ m, Hid (m = ye.length) := ⟨_, rfl⟩
  rw [← HM.out] at he hDO hve HEND ⊢
  generalize l.length = n at *
  have S0 : ((w.alloc (.cells #[.int .i64 nx, .slice aa n ca] 26)).alloc (.cells #[.int .i64 yi, .int .i64 2, .int .i64 yl, .string yd, .slice a2 m ca2] 59)).heap.size = w.heap.size + 2 := by simp
  have B0 : Below w.heap.size w ((w.alloc (.cells #[.int .i64 nx, .slice aa n ca] 26)).alloc (.cells #[.int .i64 yi, .int .i64 2, .int .i64 yl, .string yd, .slice a2 m ca2] 59)) := (below_lit w _).alloc (by simp) _
  have hDO : ∀ w', Below (w.heap.size + 2) ((w.alloc (.cells #[.int .i64 nx, .slice aa n ca] 26)).alloc (.cells #[.int .i64 yi, .int .i64 2, .int .i64 yl, .string yd, .slice a2 m ca2] 59)) w' → _ := fun w' b => hDO w' (B0.trans (b.mono (by omega)))
  have hNM : ∀ w', Below (w.heap.size + 2) ((w.alloc (.cells #[.int .i64 nx, .slice aa n ca] 26)).alloc (.cells #[.int .i64 yi, .int .i64 2, .int .i64 yl, .string yd, .slice a2 m ca2] 59)) w' → _ := fun w' b => hNM w' (B0.trans (b.mono (by omega)))
  have R0 := Below.refl (w.heap.size + 2) ((w.alloc (.cells #[.int .i64 nx, .slice aa n ca] 26)).alloc (.cells #[.int .i64 yi, .int .i64 2, .int .i64 yl, .string yd, .slice a2 m ca2] 59))
  by_cases hz : yd.toList = []
  · by_cases h1 : yl = 1
    · subst h1
      cases db
      · have hr : Hid _ := HF.out (.inr (.inr (.inl rfl)))
        clear HF HEND
        go_enter Tryz.func64, Tryz.ntmps64
        go_wp2_with (go_at_call 90; refine (hDO _ R0).mono ?_; rintro e w1 ⟨rfl, b1⟩)
        go_ret
        exact ⟨ret_bool hr.out.symm, B0.trans (b1.mono (by omega))⟩
      · by_cases h45 : yi = 1 ∨ nm = 1
        · have HEND' : Hid (∀ b : Bool, (b = true ↔ ∀ t, t < m → ye[t]!.id ≠ 1 ∧ ∃ i : Nat, plZ l ye[t]!.id = (i : Int)) → r = b) := fun b hb => HEND.out b hz rfl rfl h45 hb
          clear HF HEND
          have h4 : yi = 1 ∨ (yi ≠ 1 ∧ nm = 1) := by omega
          clear h45
          rcases h4 with h4 | ⟨h4, h5⟩
          · subst h4
            go_enter Tryz.func64, Tryz.ntmps64
            go_wp2_with (go_at_call 90; refine (hDO _ R0).mono ?_; rintro e w1 ⟨rfl, b1⟩; have RZ := R0.trans (b1.mono (Nat.le_of_eq S0.symm)); obtain ⟨⟨p0, p1⟩, q0, q1, q2, q3, q4⟩ := box_ino' RZ)
            go_loopw [5] (fun i wr => ∃ k : Nat, k ≤ m ∧ i = .int .i64 k ∧ Hid (∀ t, t < k → ye[t]!.id ≠ 1 ∧ ∃ i : Nat, plZ l ye[t]!.id = (i : Int)) ∧ Below (w.heap.size + 2) ((w.alloc (.cells #[.int .i64 nx, .slice aa n ca] 26)).alloc (.cells #[.int .i64 1, .int .i64 2, .int .i64 1, .string yd, .slice a2 m ca2] 59)) wr) (fun i _ => m - (intOf i).toNat)
            case atStart => exact ⟨0, Nat.zero_le _, rfl, fun t ht => by omega, RZ⟩
            case round =>
              obtain ⟨k, hk, rfl, HK, hbel⟩ := hrel
              obtain ⟨⟨p0, p1⟩, q0, q1, q2, q3, q4⟩ := box_ino' hbel
              have HB := B0.trans (hbel.mono (by omega))
              by_cases hlt : k < m
              · obtain ⟨eb1, o1, rfl, hb1, hc1⟩ := hve k hlt
                have c3 := (HB.cell (p := ⟨eb1, o1 + k * 4 + 3, none⟩) hb1).trans hc1.c3
                have HK1 : Hid (ye[k]!.id = 1 → r = false) := fun h => HEND'.out false (by simp only [Bool.false_eq_true, false_iff]; exact fun h2 => (h2 k hlt).1 h)
                have HK2 : Hid (plZ l ye[k]!.id = -1 → r = false) := fun h => HEND'.out false (by simp only [Bool.false_eq_true, false_iff]; exact fun h2 => by obtain ⟨i, hi⟩ := (h2 k hlt).2; omega)
                have HK3 : Hid (ye[k]!.id ≠ 1 → ∀ z : Nat, plZ l ye[k]!.id = (z : Int) → ∀ t, t < k + 1 → ye[t]!.id ≠ 1 ∧ ∃ i : Nat, plZ l ye[t]!.id = (i : Int)) := fun h z hz t ht => by
                  by_cases e : t = k
                  · rw [e]; exact ⟨h, z, hz⟩
                  · exact HK.out t (by omega)
                have hA5 : ∀ dd os, Calls Tryz.prog 91 #[.agg #[.int .i64 nx, .slice aa n ca], .int .i64 ye[k]!.id] (grow (redrawn wr dd) os) fun e w'' => e = .returned (.int .i64 (plZ l ye[k]!.id)) ∧ ∃ p : Regrown, w'' = grow (redrawn wr p.d) p.os := fun dd os =>
                  Calls.regrown_of (hAT ye[k]!.id _ (HB.trans ((below_regrown wr dd os).mono HB.size)))
                have HPK := HPZ.out ye[k]!.id
                generalize plZ l ye[k]!.id = pz at HK2 HK3 hA5 HPK
                generalize ye[k]!.id = eid at c3 HK1 HK3 hA5
                have g0 := cell_regrown p0
                have g1 := cell_regrown p1
                have g4 := cell_regrown q4
                have g5 := cell_regrown c3
                have hk0 : (0 : Int) ≤ (k : Int) := by omega
                have hkm' : (k : Int) < (m : Int) := by omega
                clear hc1 hve
                by_cases h6 : eid = 1
                · have f : (eid == 1) = true := by simp [h6]
                  have hr : Hid _ := HK1.out h6
                  clear h6 HPK
                  go_wp2
                  refine wp_region_quiet_below (by kernel_rfl) (by kernel_rfl) ?_
                  repeat (go_big_quiet_step (exact hA5 _ _))
                  refine wpQuiet_nil ?_
                  rintro w' ⟨⟨dq, osq⟩, rfl⟩
                  have hbq := below_regrown wr dq osq
                  generalize grow (redrawn wr dq) osq = w5 at hbq ⊢
                  go_wp2
                  go_ret
                  exact ⟨ret_bool hr.out.symm, HB.trans (hbq.mono HB.size)⟩
                · have f : (eid == 1) = false := by simp [h6]
                  rcases HPK with ⟨z, hz'⟩ | hz'
                  · subst hz'
                    have f2 : decide ((z : Int) < 0) = false := by simp
                    have HX : Hid _ := HK3.out h6 z rfl
                    clear h6
                    go_wp2
                    refine wp_region_quiet_below (by kernel_rfl) (by kernel_rfl) ?_
                    repeat (go_big_quiet_step (exact hA5 _ _))
                    refine wpQuiet_nil ?_
                    rintro w' ⟨⟨dq, osq⟩, rfl⟩
                    have hbq := below_regrown wr dq osq
                    generalize grow (redrawn wr dq) osq = w5 at hbq ⊢
                    go_wp2
                    go_roundw
                    case rel => exact ⟨k + 1, by omega, by go_num, HX, hbel.trans (hbq.mono (by have := hbel.size; rw [S0] at this; exact this))⟩
                    case measure => simp [intOf]; omega
                  · subst hz'
                    have hr : Hid _ := HK2.out rfl
                    clear h6
                    go_wp2
                    refine wp_region_quiet_below (by kernel_rfl) (by kernel_rfl) ?_
                    repeat (go_big_quiet_step (exact hA5 _ _))
                    refine wpQuiet_nil ?_
                    rintro w' ⟨⟨dq, osq⟩, rfl⟩
                    have hbq := below_regrown wr dq osq
                    generalize grow (redrawn wr dq) osq = w5 at hbq ⊢
                    go_wp2
                    go_ret
                    exact ⟨ret_bool hr.out.symm, HB.trans (hbq.mono HB.size)⟩
              · obtain rfl : k = m := by omega
                have hr : Hid (r = true) := HEND'.out true (by simp only [true_iff]; exact HK.out)
                go_wp2
                go_ret
                exact ⟨ret_bool hr.out.symm, HB⟩
          · subst h5
            have f0 : (yi != 1) = true := by simp [h4]
            clear h4
            go_enter Tryz.func64, Tryz.ntmps64
            go_wp2_with (first | (go_at_call 90; refine (hDO _ R0).mono ?_; rintro e w1 ⟨rfl, b1⟩; have R1 := R0.trans (b1.mono (Nat.le_of_eq S0.symm)); obtain ⟨⟨p0, p1⟩, q0, q1, q2, q3, q4⟩ := box_ino' R1) | (go_at_call 89; refine (hNM _ R1).mono ?_; rintro e w2 ⟨rfl, b2⟩; have RZ := R1.trans (b2.mono (by have := R1.size; rw [S0] at this; exact this)); obtain ⟨⟨p0, p1⟩, q0, q1, q2, q3, q4⟩ := box_ino' RZ))
            go_loopw [5] (fun i wr => ∃ k : Nat, k ≤ m ∧ i = .int .i64 k ∧ Hid (∀ t, t < k → ye[t]!.id ≠ 1 ∧ ∃ i : Nat, plZ l ye[t]!.id = (i : Int)) ∧ Below (w.heap.size + 2) ((w.alloc (.cells #[.int .i64 nx, .slice aa n ca] 26)).alloc (.cells #[.int .i64 yi, .int .i64 2, .int .i64 1, .string yd, .slice a2 m ca2] 59)) wr) (fun i _ => m - (intOf i).toNat)
            case atStart => exact ⟨0, Nat.zero_le _, rfl, fun t ht => by omega, RZ⟩
            case round =>
              obtain ⟨k, hk, rfl, HK, hbel⟩ := hrel
              obtain ⟨⟨p0, p1⟩, q0, q1, q2, q3, q4⟩ := box_ino' hbel
              have HB := B0.trans (hbel.mono (by omega))
              by_cases hlt : k < m
              · obtain ⟨eb1, o1, rfl, hb1, hc1⟩ := hve k hlt
                have c3 := (HB.cell (p := ⟨eb1, o1 + k * 4 + 3, none⟩) hb1).trans hc1.c3
                have HK1 : Hid (ye[k]!.id = 1 → r = false) := fun h => HEND'.out false (by simp only [Bool.false_eq_true, false_iff]; exact fun h2 => (h2 k hlt).1 h)
                have HK2 : Hid (plZ l ye[k]!.id = -1 → r = false) := fun h => HEND'.out false (by simp only [Bool.false_eq_true, false_iff]; exact fun h2 => by obtain ⟨i, hi⟩ := (h2 k hlt).2; omega)
                have HK3 : Hid (ye[k]!.id ≠ 1 → ∀ z : Nat, plZ l ye[k]!.id = (z : Int) → ∀ t, t < k + 1 → ye[t]!.id ≠ 1 ∧ ∃ i : Nat, plZ l ye[t]!.id = (i : Int)) := fun h z hz t ht => by
                  by_cases e : t = k
                  · rw [e]; exact ⟨h, z, hz⟩
                  · exact HK.out t (by omega)
                have hA5 : ∀ dd os, Calls Tryz.prog 91 #[.agg #[.int .i64 nx, .slice aa n ca], .int .i64 ye[k]!.id] (grow (redrawn wr dd) os) fun e w'' => e = .returned (.int .i64 (plZ l ye[k]!.id)) ∧ ∃ p : Regrown, w'' = grow (redrawn wr p.d) p.os := fun dd os =>
                  Calls.regrown_of (hAT ye[k]!.id _ (HB.trans ((below_regrown wr dd os).mono HB.size)))
                have HPK := HPZ.out ye[k]!.id
                generalize plZ l ye[k]!.id = pz at HK2 HK3 hA5 HPK
                generalize ye[k]!.id = eid at c3 HK1 HK3 hA5
                have g0 := cell_regrown p0
                have g1 := cell_regrown p1
                have g4 := cell_regrown q4
                have g5 := cell_regrown c3
                have hk0 : (0 : Int) ≤ (k : Int) := by omega
                have hkm' : (k : Int) < (m : Int) := by omega
                clear hc1 hve
                by_cases h6 : eid = 1
                · have f : (eid == 1) = true := by simp [h6]
                  have hr : Hid _ := HK1.out h6
                  clear h6 HPK
                  go_wp2
                  refine wp_region_quiet_below (by kernel_rfl) (by kernel_rfl) ?_
                  repeat (go_big_quiet_step (exact hA5 _ _))
                  refine wpQuiet_nil ?_
                  rintro w' ⟨⟨dq, osq⟩, rfl⟩
                  have hbq := below_regrown wr dq osq
                  generalize grow (redrawn wr dq) osq = w5 at hbq ⊢
                  go_wp2
                  go_ret
                  exact ⟨ret_bool hr.out.symm, HB.trans (hbq.mono HB.size)⟩
                · have f : (eid == 1) = false := by simp [h6]
                  rcases HPK with ⟨z, hz'⟩ | hz'
                  · subst hz'
                    have f2 : decide ((z : Int) < 0) = false := by simp
                    have HX : Hid _ := HK3.out h6 z rfl
                    clear h6
                    go_wp2
                    refine wp_region_quiet_below (by kernel_rfl) (by kernel_rfl) ?_
                    repeat (go_big_quiet_step (exact hA5 _ _))
                    refine wpQuiet_nil ?_
                    rintro w' ⟨⟨dq, osq⟩, rfl⟩
                    have hbq := below_regrown wr dq osq
                    generalize grow (redrawn wr dq) osq = w5 at hbq ⊢
                    go_wp2
                    go_roundw
                    case rel => exact ⟨k + 1, by omega, by go_num, HX, hbel.trans (hbq.mono (by have := hbel.size; rw [S0] at this; exact this))⟩
                    case measure => simp [intOf]; omega
                  · subst hz'
                    have hr : Hid _ := HK2.out rfl
                    clear h6
                    go_wp2
                    refine wp_region_quiet_below (by kernel_rfl) (by kernel_rfl) ?_
                    repeat (go_big_quiet_step (exact hA5 _ _))
                    refine wpQuiet_nil ?_
                    rintro w' ⟨⟨dq, osq⟩, rfl⟩
                    have hbq := below_regrown wr dq osq
                    generalize grow (redrawn wr dq) osq = w5 at hbq ⊢
                    go_wp2
                    go_ret
                    exact ⟨ret_bool hr.out.symm, HB.trans (hbq.mono HB.size)⟩
              · obtain rfl : k = m := by omega
                have hr : Hid (r = true) := HEND'.out true (by simp only [true_iff]; exact HK.out)
                go_wp2
                go_ret
                exact ⟨ret_bool hr.out.symm, HB⟩
        · have hr : Hid _ := HF.out (.inr (.inr (.inr (by omega))))
          have h4 : (yi != 1) = true := by simp; omega
          have h5 : ((nm : Int) != 1) = true := by simp; omega
          clear HF HEND h45
          go_enter Tryz.func64, Tryz.ntmps64
          go_wp2_with (first | (go_at_call 90; refine (hDO _ R0).mono ?_; rintro e w1 ⟨rfl, b1⟩; have R1 := R0.trans (b1.mono (Nat.le_of_eq S0.symm)); obtain ⟨⟨p0, p1⟩, q0, q1, q2, q3, q4⟩ := box_ino' R1) | (go_at_call 89; refine (hNM _ R1).mono ?_; rintro e w2 ⟨rfl, b2⟩))
          go_ret
          exact ⟨ret_bool hr.out.symm, (B0.trans (R1.mono (by omega))).trans (b2.mono (by have := R1.size; rw [S0] at this; omega))⟩
    · have hr : Hid _ := HF.out (.inr (.inl h1))
      clear HF HEND
      go_enter Tryz.func64, Tryz.ntmps64
      go_wp2
      go_ret
      exact ⟨ret_bool hr.out.symm, B0⟩
  · have hr : Hid _ := HF.out (.inl hz)
    clear HF HEND
    go_enter Tryz.func64, Tryz.ntmps64
    go_wp2
    go_ret
    exact ⟨ret_bool hr.out.symm, B0⟩
end

section
open Go.RowKit Go.Sort

/-- a volume whose rows and texts are short -/
structure VolShort (x : Vo) : Prop where
  len : x.ins.length ≤ 1048576
  ents : EntsShort x.ins
  names : ∀ y ∈ x.ins, Shorts y.ents
  data : ∀ y ∈ x.ins, y.data.size ≤ 1048576
theorem l6InodeOk_any (v : Value) (x : Vo) (y : Ino) (s : Value) (w : World) (hx : VolShort x) (hy : y ∈ x.ins) (hv : VolAt w v x) (hs : EntsAt w s y.ents) :
    Calls Tryz.prog 64 #[v, valI y s] w fun e w' => e = .returned (.bool (inoB x y)) ∧ Below w.heap.size w w' := by
  by_cases h1 : y.kind = 1
  · exact l6InodeOk_file v x y s w h1 hx.len hx.ents hv hs (hx.ents y hy) (hx.data y hy)
  · by_cases h2 : y.kind = 2
    · exact l6InodeOk_dir v x y s w h2 hx.len hx.ents hv hs (hx.ents y hy) (hx.data y hy) (hx.names y hy)
    · exact l6InodeOk_none v x y s w h1 h2 hv hs
/-- place j is right -/
def AtOk (x : Vo) (j : Nat) : Prop := (1 ≤ x.ins[j]!.id ∧ x.ins[j]!.id ≤ x.next - 1) ∧ (0 < j → x.ins[j - 1]!.id < x.ins[j]!.id) ∧ InoR x x.ins[j]!
theorem in_below (x l h : Int) (w : World) (dd : Nat) (os : Array Obj) : Calls Tryz.prog 62 #[.int .i64 x, .int .i64 l, .int .i64 h] (grow (redrawn w dd) os) fun e w'' => e = .returned (.bool (inB x l h)) ∧ ∃ p : Regrown, w'' = grow (redrawn w p.d) p.os :=
  Calls.regrown_of ((in_any x l h _).mono fun e w' h => ⟨h.1, by rw [← h.2]; exact Below.refl _ _⟩)

set_option maxRecDepth 100000 in
set_option maxHeartbeats 1000000 in
theorem sVolOk (v : Value) (x : Vo) (w : World) (hx : VolShort x) (hv : VolAt w v x) :
    Calls Tryz.prog 49 #[v] w fun e w' => e = .returned (.bool (rightB x)) ∧ Below w.heap.size w w' := by
  have hl := hx.len
  have HR : Hid (∀ b : Bool, (b = true ↔ (2 ≤ x.next ∧ x.next ≤ 100000) ∧ (1 ≤ x.ins.length ∧ x.ins.length ≤ 16) ∧ x.ins[0]!.id = 1 ∧ x.ins[0]!.kind = 2 ∧ (∀ j, j < x.ins.length → AtOk x j) ∧ (∀ j, 0 < j → j < x.ins.length → Reach x 1 x.ins[j]!.id)) → rightB x = b) := fun b hb => bool_of rightB_iff (hb.trans rightV_iff.symm)
  have hIO : ∀ j w' s, j < x.ins.length → Below w.heap.size w w' → EntsAt w' s x.ins[j]!.ents → Calls Tryz.prog 64 #[v, valI x.ins[j]! s] w' fun e w'' => e = .returned (.bool (inoB x x.ins[j]!)) ∧ Below w'.heap.size w' w'' := fun j w' s hj b he =>
    l6InodeOk_any v x _ s w' hx (place_mem hj) (hv.below b) he
  have hBL : 0 < x.ins.length → x.ins[0]!.id = 1 → (∀ j, j < x.ins.length → AtOk x j) → ∀ w', Below w.heap.size w w' → Calls Tryz.prog 65 #[v, .int .i64 1] w' fun e w'' => ∃ g bs, e = .returned (.slice (some ⟨g, 0, none⟩) x.ins.length x.ins.length) ∧ FlagRow w'' w'.heap.size g x.ins.length bs ∧ (∀ j, j < x.ins.length → (bs[j]! = true ↔ Reach x 1 x.ins[j]!.id)) ∧ Below w'.heap.size w' w'' := fun h0 h1 h2 w' b => by
    have := l6Below_any v x 0 w' (rise_steps fun j hj0 hj => (h2 j hj).2.1 hj0) hl hx.ents (fun y hy e he => by
      obtain ⟨j, hj, rfl⟩ := mem_place hy
      rcases (h2 j hj).2.2 with ⟨_, h3, _⟩ | ⟨_, _, _, _, _, h3⟩
      · rw [h3] at he; simp at he
      · exact (h3 e he).2) h0 (hv.below b)
    rwa [h1] at this
  generalize rightB x = r at HR ⊢
  obtain ⟨nx, l⟩ := x
  obtain ⟨u, rfl, aa, ca, rfl, -, hva⟩ := hv
  dsimp only at *
  have HL0 : Hid (∀ j, j < l.length → l[j]!.ents.length ≤ 1048576) := fun j hj => hx.ents _ (place_mem hj)
  obtain ⟨n, HN⟩ : ∃ n, Hid (n = l.length) := ⟨_, rfl⟩
  rw [← HN.out] at hl HR hIO hBL hva HL0 ⊢
  clear hx
  have S0 : (w.alloc (.cells #[.int .i64 nx, .slice aa n ca] 26)).heap.size = w.heap.size + 1 := by simp
  have B0 := below_lit w (.cells #[.int .i64 nx, .slice aa n ca] 26)
  by_cases h1 : inB nx 2 100000 = true
  · by_cases h2 : inB (n : Int) 1 16 = true
    · have hn := inB_le h2
      obtain ⟨b0, o0, s0, rfl, hb0, hc0, -⟩ := hva 0 (by omega)
      have c0 := hc0.c0
      have c1 := hc0.c1
      rw [Nat.zero_mul, Nat.add_zero] at c0 c1
      by_cases h3 : l[0]!.id = 1
      · by_cases h4 : l[0]!.kind = 2
        · rw [h3] at c0
          rw [h4] at c1
          have hnx2 := inB_le h1
          have HFA : Hid (∀ j, j < n → ¬ AtOk ⟨nx, l⟩ j → r = false) := fun j hj h => HR.out false (by simp only [Bool.false_eq_true, false_iff]; rintro ⟨_, _, _, _, h5, _⟩; exact h (h5 j hj))
          have HTR : Hid (∀ b : Bool, (∀ j, j < n → AtOk ⟨nx, l⟩ j) → (b = true ↔ ∀ j, 0 < j → j < n → Reach ⟨nx, l⟩ 1 l[j]!.id) → r = b) := fun b h5 h6 => HR.out b (by
            rw [h6]
            exact ⟨fun h => ⟨by omega, by omega, h3, h4, h5, h⟩, fun h => h.2.2.2.2.2⟩)
          have hBL := hBL (by omega) h3
          clear HR
          go_enter Tryz.func49, Tryz.ntmps49
          have x0 := (B0.cell (p := ⟨b0, o0, none⟩) hb0).trans c0
          have x1 := (B0.cell (p := ⟨b0, o0 + 1, none⟩) hb0).trans c1
          go_wp2_with (go_at_call 62; refine (in_any _ _ _ _).mono ?_; rintro e w' ⟨rfl, rfl⟩)
          go_loopw [3] (fun i wr => ∃ k : Nat, k ≤ n ∧ i = .int .i64 k ∧ Hid (∀ j, j < k → AtOk ⟨nx, l⟩ j) ∧ Below (w.heap.size + 1) (w.alloc (.cells #[.int .i64 nx, .slice (some ⟨b0, o0, none⟩) n ca] 26)) wr) (fun i _ => n - (intOf i).toNat)
          case atStart => exact ⟨0, Nat.zero_le _, rfl, fun t ht => by omega, Below.refl _ _⟩
          case round =>
            obtain ⟨k, hk, rfl, HK, hbel⟩ := hrel
            obtain ⟨p0, p1, HB⟩ := box_cells hbel
            by_cases hlt : k < n
            · obtain ⟨eb, eo, es, e, hb1, hc1, hen⟩ := hva k hlt
              simp only [Option.some.injEq, Addr.mk.injEq, and_true] at e
              obtain ⟨rfl, rfl⟩ := e
              have hc1 := hc1.below hb1 HB
              have hQ : ∀ dd os, Calls Tryz.prog 64 #[.agg #[.int .i64 nx, .slice (some ⟨b0, o0, none⟩) n ca], valI l[k]! es] (grow (redrawn wr dd) os) fun e w'' => e = .returned (.bool (inoB ⟨nx, l⟩ l[k]!)) ∧ ∃ p : Regrown, w'' = grow (redrawn wr p.d) p.os := fun dd os =>
                Calls.regrown_of (hIO k _ es hlt (HB.trans ((below_regrown wr dd os).mono HB.size)) ((hen.below HB).below (below_regrown wr dd os)))
              have hIN := fun dd os => in_below l[k]!.id 1 (nx - 1) wr dd os
              have HA1 : Hid (inB l[k]!.id 1 (nx - 1) = false → r = false) := fun h => HFA.out k hlt fun h2 => by rw [inB_mk h2.1.1 h2.1.2] at h; cases h
              have HA2 : Hid (0 < k → ¬ l[k - 1]!.id < l[k]!.id → r = false) := fun h0 h => HFA.out k hlt fun h2 => h (h2.2.1 h0)
              have HA3 : Hid (inoB ⟨nx, l⟩ l[k]! = false → r = false) := fun h => HFA.out k hlt fun h2 => by rw [inoB_iff.2 h2.2.2] at h; cases h
              have HA4 : Hid (inB l[k]!.id 1 (nx - 1) = true → (0 < k → l[k - 1]!.id < l[k]!.id) → inoB ⟨nx, l⟩ l[k]! = true → ∀ j, j < k + 1 → AtOk ⟨nx, l⟩ j) := fun h5 h6 h7 j hj => by
                by_cases e : j = k
                · rw [e]; exact ⟨inB_le h5, h6, inoB_iff.1 h7⟩
                · exact HK.out j (by omega)
              have HPV : Hid (0 < k → wr.cell? ⟨b0, o0 + (k - 1) * 5, none⟩ = some (.int .i64 l[k - 1]!.id)) := fun h0 => by
                obtain ⟨eb', eo', es', e', hb1', hc1', -⟩ := hva (k - 1) (by omega)
                simp only [Option.some.injEq, Addr.mk.injEq, and_true] at e'
                obtain ⟨rfl, rfl⟩ := e'
                exact (hc1'.below hb1' HB).c0
              obtain ⟨ea, ec, rfl, -, -⟩ := hen
              generalize inoB ⟨nx, l⟩ l[k]! = q3 at hQ HA3 HA4
              generalize hq2 : l[k - 1]!.id = pid at HA2 HA4 HPV
              generalize l[k]! = y at hc1 hQ hIN HA1 HA2 HA3 HA4
              obtain ⟨yi, yk, yl, yd, ye⟩ := y
              unfold valI at hQ
              dsimp only at hc1 hQ hIN HA1 HA2 HA3 HA4
              generalize inB yi 1 (nx - 1) = q1 at hIN HA1 HA4
              have g0 := cell_regrown p0
              have g1 := cell_regrown p1
              have k0 := cell_regrown hc1.c0
              have k1 := cell_regrown hc1.c1
              have k2 := cell_regrown hc1.c2
              have k3 := cell_regrown hc1.c3
              have k4 := cell_regrown hc1.c4
              generalize ye.length = em at hQ k4
              have hk0 : (0 : Int) ≤ (k : Int) := by omega
              have hkm' : (k : Int) < (n : Int) := by omega
              clear hc1 hva
              cases q1
              · have hr : Hid _ := HA1.out rfl
                go_wp2
                refine wp_region_quiet_below (by kernel_rfl) (by kernel_rfl) ?_
                repeat (go_big_quiet_step (first | with_reducible exact hIN _ _ | with_reducible exact hQ _ _))
                refine wpQuiet_nil ?_
                rintro w' ⟨⟨dq, osq⟩, rfl⟩
                have hbq := below_regrown wr dq osq
                generalize grow (redrawn wr dq) osq = w5 at hbq ⊢
                go_wp2
                go_ret
                exact ⟨ret_bool hr.out.symm, HB.trans (hbq.mono HB.size)⟩
              · by_cases hk1 : 0 < k
                · obtain ⟨j, HJ⟩ : ∃ j, Hid (k = j + 1) := ⟨k - 1, by show k = _; omega⟩
                  have HPV1 := HPV.out hk1
                  rw [show k - 1 = j by have := HJ.out; omega] at HPV1
                  have g5 := cell_regrown HPV1
                  have hsub : (k : Int) - 1 = (j : Int) := by have := HJ.out; omega
                  have hj0 : (0 : Int) ≤ (j : Int) := by omega
                  have hjn : (j : Int) < (n : Int) := by have := HJ.out; omega
                  have hkd : decide ((0 : Int) < (k : Int)) = true := by simp; omega
                  by_cases hlt2 : pid < yi
                  · have hd : decide (yi ≤ pid) = false := by simp; omega
                    cases q3
                    · have hr : Hid _ := HA3.out rfl
                      clear hlt2
                      go_wp2
                      refine wp_region_quiet_below (by kernel_rfl) (by kernel_rfl) ?_
                      repeat (go_big_quiet_step (first | with_reducible exact hIN _ _ | with_reducible exact hQ _ _))
                      refine wpQuiet_nil ?_
                      rintro w' ⟨⟨dq, osq⟩, rfl⟩
                      have hbq := below_regrown wr dq osq
                      generalize grow (redrawn wr dq) osq = w5 at hbq ⊢
                      go_wp2
                      go_ret
                      exact ⟨ret_bool hr.out.symm, HB.trans (hbq.mono HB.size)⟩
                    · have HX : Hid _ := HA4.out rfl (fun _ => hlt2) rfl
                      clear hlt2
                      go_wp2
                      refine wp_region_quiet_below (by kernel_rfl) (by kernel_rfl) ?_
                      repeat (go_big_quiet_step (first | with_reducible exact hIN _ _ | with_reducible exact hQ _ _))
                      refine wpQuiet_nil ?_
                      rintro w' ⟨⟨dq, osq⟩, rfl⟩
                      have hbq := below_regrown wr dq osq
                      generalize grow (redrawn wr dq) osq = w5 at hbq ⊢
                      go_wp2
                      go_roundw
                      case rel => exact ⟨k + 1, by omega, by go_num, HX, hbel.trans (hbq.mono (by have := hbel.size; rw [S0] at this; exact this))⟩
                      case measure => simp [intOf]; omega
                  · have hd : decide (yi ≤ pid) = true := by simp; omega
                    have hr : Hid _ := HA2.out hk1 hlt2
                    clear hlt2
                    go_wp2
                    refine wp_region_quiet_below (by kernel_rfl) (by kernel_rfl) ?_
                    repeat (go_big_quiet_step (first | with_reducible exact hIN _ _ | with_reducible exact hQ _ _))
                    refine wpQuiet_nil ?_
                    rintro w' ⟨⟨dq, osq⟩, rfl⟩
                    have hbq := below_regrown wr dq osq
                    generalize grow (redrawn wr dq) osq = w5 at hbq ⊢
                    go_wp2
                    go_ret
                    exact ⟨ret_bool hr.out.symm, HB.trans (hbq.mono HB.size)⟩
                · have hkd : decide ((0 : Int) < (k : Int)) = false := by simp; omega
                  cases q3
                  · have hr : Hid _ := HA3.out rfl
                    go_wp2
                    refine wp_region_quiet_below (by kernel_rfl) (by kernel_rfl) ?_
                    repeat (go_big_quiet_step (first | with_reducible exact hIN _ _ | with_reducible exact hQ _ _))
                    refine wpQuiet_nil ?_
                    rintro w' ⟨⟨dq, osq⟩, rfl⟩
                    have hbq := below_regrown wr dq osq
                    generalize grow (redrawn wr dq) osq = w5 at hbq ⊢
                    go_wp2
                    go_ret
                    exact ⟨ret_bool hr.out.symm, HB.trans (hbq.mono HB.size)⟩
                  · have HX : Hid _ := HA4.out rfl (fun h => absurd h hk1) rfl
                    go_wp2
                    refine wp_region_quiet_below (by kernel_rfl) (by kernel_rfl) ?_
                    repeat (go_big_quiet_step (first | with_reducible exact hIN _ _ | with_reducible exact hQ _ _))
                    refine wpQuiet_nil ?_
                    rintro w' ⟨⟨dq, osq⟩, rfl⟩
                    have hbq := below_regrown wr dq osq
                    generalize grow (redrawn wr dq) osq = w5 at hbq ⊢
                    go_wp2
                    go_roundw
                    case rel => exact ⟨k + 1, by omega, by go_num, HX, hbel.trans (hbq.mono (by have := hbel.size; rw [S0] at this; exact this))⟩
                    case measure => simp [intOf]; omega
            · obtain rfl : k = n := by omega
              have hB1 := hBL HK.out wr HB
              have HT1 : Hid (∀ b : Bool, (b = true ↔ ∀ j, 0 < j → j < k → Reach ⟨nx, l⟩ 1 l[j]!.id) → r = b) := fun b hb => HTR.out b HK.out hb
              clear HFA HTR hBL
              go_wp2_with (go_at_call 65; refine hB1.mono ?_; rintro e w2 ⟨g, bs, rfl, hF, hbs, b2⟩)
              have HB2 := HB.trans (b2.mono HB.size)
              have HBS : Hid _ := hbs
              clear hbs hB1
              go_loopw [5] (fun i wr => ∃ j : Nat, 1 ≤ j ∧ j ≤ k ∧ i = .int .i64 j ∧ Hid (∀ t, 0 < t → t < j → Reach ⟨nx, l⟩ 1 l[t]!.id) ∧ Below w2.heap.size w2 wr) (fun i _ => k - (intOf i).toNat)
              case atStart => exact ⟨1, by omega, by omega, rfl, fun t h1 h2 => by omega, Below.refl _ _⟩
              case round =>
                obtain ⟨j, hj1, hj, rfl, HJ, hbel2⟩ := hrel
                by_cases hlt2 : j < k
                · have hf := (hF.below hbel2).cell hlt2
                  have HX := HBS.out j hlt2
                  have HJ1 : Hid (bs[j]! = true → ∀ t, 0 < t → t < j + 1 → Reach ⟨nx, l⟩ 1 l[t]!.id) := fun h t h1 h2 => by
                    by_cases e : t = j
                    · rw [e]; exact HX.1 h
                    · exact HJ.out t h1 (by omega)
                  have HJ2 : Hid (bs[j]! = false → r = false) := fun h => HT1.out false (by simp only [Bool.false_eq_true, false_iff]; intro h2; rw [HX.2 (h2 j (by omega) hlt2)] at h; cases h)
                  clear HX
                  generalize bs[j]! = q at hf HJ1 HJ2
                  cases q
                  · have hr : Hid _ := HJ2.out rfl
                    go_wp2
                    go_ret
                    exact ⟨ret_bool hr.out.symm, HB2.trans (hbel2.mono HB2.size)⟩
                  · have HX : Hid _ := HJ1.out rfl
                    go_wp2
                    go_roundw
                    case rel => exact ⟨j + 1, by omega, by omega, by go_num, HX, hbel2⟩
                    case measure => simp [intOf]; omega
                · obtain rfl : j = k := by omega
                  have hr : Hid (r = true) := HT1.out true (by simp only [true_iff]; exact HJ.out)
                  go_wp2
                  go_ret
                  exact ⟨ret_bool hr.out.symm, HB2.trans (hbel2.mono HB2.size)⟩
        · have hr : Hid (r = false) := HR.out false (by simp only [Bool.false_eq_true, false_iff]; rintro ⟨_, _, _, h5, _⟩; exact h4 h5)
          clear HR
          rw [h3] at c0
          generalize l[0]!.kind = k0 at c1 h4
          have x0 := (B0.cell (p := ⟨b0, o0, none⟩) hb0).trans c0
          have x1 := (B0.cell (p := ⟨b0, o0 + 1, none⟩) hb0).trans c1
          go_enter Tryz.func49, Tryz.ntmps49
          go_wp2_with (go_at_call 62; refine (in_any _ _ _ _).mono ?_; rintro e w' ⟨rfl, rfl⟩)
          go_ret
          exact ⟨ret_bool hr.out.symm, B0⟩
      · have hr : Hid (r = false) := HR.out false (by simp only [Bool.false_eq_true, false_iff]; rintro ⟨_, _, h5, _⟩; exact h3 h5)
        clear HR
        generalize l[0]!.kind = k0 at c1
        generalize l[0]!.id = k1 at c0 h3
        have x0 := (B0.cell (p := ⟨b0, o0, none⟩) hb0).trans c0
        have x1 := (B0.cell (p := ⟨b0, o0 + 1, none⟩) hb0).trans c1
        have h3 : (k1 != 1) = true := by simp [h3]
        go_enter Tryz.func49, Tryz.ntmps49
        go_wp2_with (go_at_call 62; refine (in_any _ _ _ _).mono ?_; rintro e w' ⟨rfl, rfl⟩)
        go_ret
        exact ⟨ret_bool hr.out.symm, B0⟩
    · have hr : Hid (r = false) := HR.out false (by simp only [Bool.false_eq_true, false_iff]; rintro ⟨_, h5, _⟩; exact h2 (inB_mk (by omega) (by omega)))
      have h2 : inB (n : Int) 1 16 = false := by simpa using h2
      clear HR
      go_enter Tryz.func49, Tryz.ntmps49
      go_wp2_with (go_at_call 62; refine (in_any _ _ _ _).mono ?_; rintro e w' ⟨rfl, rfl⟩)
      go_ret
      exact ⟨ret_bool hr.out.symm, B0⟩
  · have hr : Hid (r = false) := HR.out false (by simp only [Bool.false_eq_true, false_iff]; rintro ⟨h5, _⟩; exact h1 (inB_mk h5.1 h5.2))
    have h1 : inB nx 2 100000 = false := by simpa using h1
    clear HR
    go_enter Tryz.func49, Tryz.ntmps49
    go_wp2_with (go_at_call 62; refine (in_any _ _ _ _).mono ?_; rintro e w' ⟨rfl, rfl⟩)
    go_ret
    exact ⟨ret_bool hr.out.symm, B0⟩
end

end Go.Proofs.YtpijjinoeghgoaaGreatDoor
