/- Volumes, impl: below: what is below a directory is gathered. -/
import Derived.Test.YtchcdgkpaipkgaaGreatDoorRows
import Derived.Test.YtchcdgkpaipkgaaGreatDoorNd
import Derived.Test.YtchcdgkpaipkgaaGreatDoorNg
import Derived.Deep.RegionWith
import Derived.Laws.EntriesVeiled
namespace Go.Proofs.YtchcdgkpaipkgaaGreatDoor

section
open Go.RowKit Go.Maps Go.Sort

def putS (S : Int → Bool) (i : Int) : Int → Bool := fun j => if j = i then true else S j
theorem putS_same (S : Int → Bool) (i : Int) : putS S i i = true := by simp [putS]
theorem putS_keep {S : Int → Bool} {i j : Int} (h : S j = true) : putS S i j = true := by unfold putS; split; rfl; exact h
theorem putS_inv {S : Int → Bool} {i j : Int} (h : putS S i j = true) : S j = true ∨ j = i := by
  unfold putS at h
  split at h
  · rename_i e; exact .inr e
  · exact .inl h
/-- the map of what is found -/
def stF (l : List Ino) (ps : List (Nat × Value)) (S : Int → Bool) (i : Int) : Option Nat := if S i then fofP l ps i else none
def cntS (l : List Ino) (S : Int → Bool) : Nat := (l.filter fun y => S y.id).length
theorem cntS_le (l : List Ino) (S : Int → Bool) : cntS l S ≤ l.length := List.length_filter_le _ _
theorem cntS_mono (l : List Ino) {S T : Int → Bool} (h : ∀ i, S i = true → T i = true) : cntS l S ≤ cntS l T := by
  unfold cntS
  rw [← List.countP_eq_length_filter, ← List.countP_eq_length_filter]
  exact List.countP_mono_left fun y _ hy => h _ hy
theorem cntS_put {l : List Ino} (hr : l.Pairwise fun a b => a.id < b.id) {S : Int → Bool} {y : Ino} (hy : y ∈ l) (h : S y.id = false) : cntS l (putS S y.id) = cntS l S + 1 := by
  unfold cntS
  induction l with
  | nil => simp at hy
  | cons z l ih =>
    rw [List.pairwise_cons] at hr
    rw [List.filter_cons, List.filter_cons]
    rcases List.mem_cons.1 hy with rfl | hy
    · rw [if_pos (putS_same S y.id), if_neg (by rw [h]; simp)]
      have e : (l.filter fun a => putS S y.id a.id) = l.filter fun a => S a.id := by
        apply List.filter_congr
        intro a ha
        have := hr.1 a ha
        unfold putS; rw [if_neg (by omega)]
      rw [e]; simp
    · have h1 := hr.1 y hy
      have e : putS S y.id z.id = S z.id := by unfold putS; rw [if_neg (by omega)]
      rw [e]
      have := ih hr.2 hy
      split
      · simp only [List.length_cons]; omega
      · exact this
/-- what gather works on: h the tree's box, h + 1 the map of what is found, h + 2 its box, h + 3 itself -/
structure GatSt (h base p m : Nat) (x : Vo) (ps : List (Nat × Value)) (S : Int → Bool) (w : World) : Prop where
  tb : w.heap[h]? = some (.cells #[.pointer (some ⟨p, 0, none⟩)] 68)
  fb : w.heap[h + 2]? = some (.cells #[.map (some (h + 1))] 70)
  gb : w.heap[h + 3]? = some (.cells #[.func (.func 57) #[] #[.pointer (some ⟨h + 2, 0, none⟩), .pointer (some ⟨h, 0, none⟩), .pointer (some ⟨h + 3, 0, none⟩)]] 83)
  fm : MapP w (h + 1) (stF x.ins ps S) (cntS x.ins S)
  tree : TreeAt w base p m x ps
  lo : p < h ∧ m < h ∧ ∀ t, t < ps.length → ps[t]!.1 < h
theorem GatSt.lt {h base p m : Nat} {x : Vo} {ps : List (Nat × Value)} {S : Int → Bool} {w : World} (s : GatSt h base p m x ps S w) : h + 3 < w.heap.size := lt_of_block s.gb
theorem GatSt.below {h base p m : Nat} {x : Vo} {ps : List (Nat × Value)} {S : Int → Bool} {w w' : World} (s : GatSt h base p m x ps S w) (b : Below w.heap.size w w') : GatSt h base p m x ps S w' :=
  ⟨(b.block _ (lt_of_block s.tb)).trans s.tb, (b.block _ (lt_of_block s.fb)).trans s.fb, (b.block _ (lt_of_block s.gb)).trans s.gb, s.fm.below b, s.tree.below b, s.lo⟩
/-- one more is found -/
theorem GatSt.put {h base p m : Nat} {x : Vo} {ps : List (Nat × Value)} {S : Int → Bool} {w : World} (s : GatSt h base p m x ps S w) (hx : TreeFit x) {t : Nat} (ht : t < x.ins.length) (hS : S x.ins[t]!.id = false) (hE : ∀ t, t < ps.length → ∀ q, ps[t]!.2.ownBlock = some q → q < h) :
    ∃ w', (Instr.mapUpdate 70 (.map (some (h + 1))) (.int .i64 x.ins[t]!.id) (.pointer (some ⟨ps[t]!.1, 0, none⟩))).run Tryz.prog w = .ok () w' ∧ GatSt h base p m x ps (putS S x.ins[t]!.id) w' ∧ w.grownBy w' (some (h + 1)) := by
  have hI := hx.ids _ (place_mem ht)
  obtain ⟨w', hrun, hm, hg⟩ := s.fm.store (by have := cntS_le x.ins S; have := hx.len; omega) hI ps[t]!.1
  have hfo : fofP x.ins ps x.ins[t]!.id = some ps[t]!.1 := by
    unfold fofP
    rw [plN_some ht rfl fun k hk hc => by have := rise_at hx.rise (by omega) ht hc; omega]; rfl
  refine ⟨w', hrun, ⟨?_, ?_, ?_, ?_, ?_, s.lo⟩, hg⟩
  · rw [hg.block h (lt_of_block s.tb) (by simp)]; exact s.tb
  · rw [hg.block (h + 2) (lt_of_block s.fb) (by simp)]; exact s.fb
  · rw [hg.block (h + 3) (lt_of_block s.gb) (by simp)]; exact s.gb
  · have e : stF x.ins ps (putS S x.ins[t]!.id) = fun j => if j = x.ins[t]!.id then some ps[t]!.1 else stF x.ins ps S j := by
      funext j
      unfold stF
      by_cases ej : j = x.ins[t]!.id
      · rw [if_pos ej, ej, putS_same, if_pos rfl, hfo]
      · rw [if_neg ej]
        have : putS S x.ins[t]!.id j = S j := by unfold putS; rw [if_neg ej]
        rw [this]
    have e2 : (stF x.ins ps S x.ins[t]!.id).isSome = false := by unfold stF; rw [hS]; rfl
    rw [e, cntS_put hx.rise (place_mem ht) hS]
    rw [e2] at hm
    exact hm
  · have hT := s.tree
    have hlo := s.lo
    have hb : ∀ k, k < h → w'.heap[k]? = w.heap[k]? := fun k hk => hg.block k (by have := s.lt; omega) (by simp; omega)
    refine ⟨hT.len, (hb p hlo.1).trans hT.tree, ?_, fun t ht => (hb _ (hlo.2.2 t ht)).trans (hT.ino t ht), fun t ht => ?_, hT.lo, hT.sep⟩
    · exact hT.map.kept hg (by simp; omega)
    · refine (hT.ents t ht).kept hg ?_
      cases hq : ps[t]!.2.ownBlock with
      | none => exact .inl rfl
      | some q => right; have := hE t ht q hq; simp; omega
/-- what was found behind going into inode a -/
structure GPost (x : Vo) (S S' : Int → Bool) (a : Nat) (j : Nat) : Prop where
  mono : ∀ i, S i = true → S' i = true
  sound : ∀ i, S' i = true → S i = true ∨ Reach x x.ins[a]!.id i
  ents : ∀ t, t < j → S' x.ins[a]!.ents[t]!.id = true
  closed : ∀ i, S' i = true → S i = false → ∀ y ∈ x.ins, y.id = i → ∀ e ∈ y.ents, S' e.id = true
def GatC (h base p m : Nat) (x : Vo) (ps : List (Nat × Value)) (n : Nat) : Prop := ∀ (S : Int → Bool) (w : World) (a : Nat), a < x.ins.length → x.ins.length - cntS x.ins S ≤ n → GatSt h base p m x ps S w →
  Calls Tryz.prog 57 #[.pointer (some ⟨ps[a]!.1, 0, none⟩), .pointer (some ⟨h + 2, 0, none⟩), .pointer (some ⟨h, 0, none⟩), .pointer (some ⟨h + 3, 0, none⟩)] w fun e w' => e = .returned (.tuple #[]) ∧ (∃ S', GatSt h base p m x ps S' w' ∧ GPost x S S' a x.ins[a]!.ents.length) ∧ w.grownBy w' (some (h + 1))

theorem gb_drew0 (w : World) (r : Option Nat) : w.grownBy w.drew r := ⟨rfl, rfl, rfl, Nat.le_refl _, fun _ _ _ => rfl⟩
theorem fof_at {x : Vo} (hx : TreeFit x) (ps : List (Nat × Value)) {t : Nat} (ht : t < x.ins.length) : fofP x.ins ps x.ins[t]!.id = some ps[t]!.1 := by
  unfold fofP
  rw [plN_some ht rfl fun k hk hc => by have := rise_at hx.rise (by omega) ht hc; omega]; rfl
theorem gpost_skip {x : Vo} {S S2 : Int → Bool} {a j : Nat} (h : GPost x S S2 a j) (hj : S2 x.ins[a]!.ents[j]!.id = true) : GPost x S S2 a (j + 1) :=
  ⟨h.mono, h.sound, fun t ht => by
    by_cases e : t = j
    · rw [e]; exact hj
    · exact h.ents t (by omega), h.closed⟩
theorem gpost_deep {x : Vo} (hx : TreeFit x) {S S2 S3 : Int → Bool} {a j t2 : Nat} (ha : a < x.ins.length) (hj : j < x.ins[a]!.ents.length) (ht2 : t2 < x.ins.length) (he : x.ins[t2]!.id = x.ins[a]!.ents[j]!.id) (h : GPost x S S2 a j) (h3 : GPost x (putS S2 x.ins[t2]!.id) S3 t2 x.ins[t2]!.ents.length) : GPost x S S3 a (j + 1) := by
  have hedge : Edge x x.ins[a]!.id x.ins[t2]!.id := ⟨_, place_mem ha, rfl, x.ins[a]!.ents[j]!, by rw [getElem!_pos _ j hj]; exact List.getElem_mem hj, he.symm⟩
  refine ⟨fun i hi => h3.mono i (putS_keep (h.mono i hi)), fun i hi => ?_, fun t ht => ?_, fun i hi hn y hy hyi e hen => ?_⟩
  · rcases h3.sound i hi with h4 | h4
    · rcases putS_inv h4 with h5 | h5
      · exact h.sound i h5
      · right; rw [h5]; exact .one hedge
    · right
      have : ∀ z, Reach x x.ins[t2]!.id z → Reach x x.ins[a]!.id z := fun z hz => by
        induction hz with
        | one h5 => exact .more (.one hedge) h5
        | more _ h5 ih => exact .more ih h5
      exact this i h4
  · by_cases e : t = j
    · rw [e, ← he]; exact h3.mono _ (putS_same _ _)
    · exact h3.mono _ (putS_keep (h.ents t (by omega)))
  · by_cases hp : putS S2 x.ins[t2]!.id i = true
    · rcases putS_inv hp with h5 | h5
      · exact h3.mono _ (putS_keep (h.closed i h5 hn y hy hyi e hen))
      · have := rise_eq hx.rise hy (place_mem ht2) (by rw [hyi, h5])
        subst this
        obtain ⟨k, hk, rfl⟩ := List.getElem_of_mem hen
        have := h3.ents k hk
        rwa [getElem!_pos _ k hk] at this
    · exact h3.closed i hi (by simpa using hp) y hy hyi e hen

set_option maxRecDepth 100000 in
set_option maxHeartbeats 1000000 in
theorem gat_step (h base p m : Nat) (x : Vo) (ps : List (Nat × Value)) (hx : TreeFit x) (hall : ∀ y ∈ x.ins, ∀ e ∈ y.ents, ∃ z ∈ x.ins, z.id = e.id) (hE : ∀ t, t < ps.length → ∀ q, ps[t]!.2.ownBlock = some q → q < h) (n : Nat) (IH : ∀ k, k < n → GatC h base p m x ps k) : GatC h base p m x ps n := by
  intro S w a ha hn st
  have hlen := st.tree.len
  have hI1 := st.tree.ino a (by omega)
  have hE1 := (st.tree.ents a (by omega)).at
  have cq : w.cell? ⟨ps[a]!.1, 4, none⟩ = some ps[a]!.2 := Joins.cell_of_block hI1 4
  have hel := hx.ents _ (place_mem ha)
  have hpb := st.lo.2.2 a (by omega)
  have HEE : Hid (∀ wq S2, GatSt h base p m x ps S2 wq → EntsAt wq ps[a]!.2 x.ins[a]!.ents) := fun wq S2 s => (s.tree.ents a (by omega)).at
  have HG0 : Hid (GPost x S S a 0) := ⟨fun _ h => h, fun _ h => .inl h, fun t ht => by omega, fun i h1 h2 => by rw [h1] at h2; cases h2⟩
  have HJ : Hid (∀ j, j < x.ins[a]!.ents.length → ∃ t2, t2 < x.ins.length ∧ x.ins[t2]!.id = x.ins[a]!.ents[j]!.id) := fun j hj => by
    obtain ⟨z, hz, he⟩ := hall _ (place_mem ha) x.ins[a]!.ents[j]! (by rw [getElem!_pos _ j hj]; exact List.getElem_mem hj)
    obtain ⟨t2, h1, rfl⟩ := mem_place hz
    exact ⟨t2, h1, he⟩
  obtain ⟨ea, ec, hes, -, -⟩ := hE1
  rw [hes] at cq HEE
  obtain ⟨em, HEM⟩ : ∃ em, Hid (em = x.ins[a]!.ents.length) := ⟨_, rfl⟩
  rw [← HEM.out] at cq HEE HJ hel ⊢
  generalize hq : ps[a]!.1 = q at cq hpb ⊢
  clear hI1 hes
  go_enter Tryz.func57, Tryz.ntmps57
  go_wp2
  go_loopw [12] (fun s wr => ∃ (j : Nat) (S2 : Int → Bool), j ≤ em ∧ s = .int .i64 j ∧ Hid (GatSt h base p m x ps S2 wr) ∧ Hid (GPost x S S2 a j) ∧ Hid (w.grownBy wr (some (h + 1)))) (fun s _ => em - (intOf s).toNat)
  case atStart => exact ⟨0, S, Nat.zero_le _, rfl, st, HG0, ⟨rfl, rfl, rfl, Nat.le_refl _, fun _ _ _ => rfl⟩⟩
  case round =>
    obtain ⟨j, S2, hj, rfl, HST, HGP, HGR⟩ := hrel
    by_cases hlt : j < em
    · obtain ⟨ea2, ec2, e2, -, hce⟩ := HEE.out wr S2 HST.out
      simp only [Value.slice.injEq] at e2
      obtain ⟨rfl, -, rfl⟩ := e2
      obtain ⟨eb, eo, rfl, heb, hc⟩ := hce j (by rw [← HEM.out]; exact hlt)
      obtain ⟨t2, ht2, hid2⟩ := HJ.out j hlt
      have hIe : InI x.ins[t2]!.id := hx.ids _ (place_mem ht2)
      have k0 := hc.c0
      have k1 := hc.c1
      have k2 := hc.c2
      have k3 := hc.c3
      rw [← hid2] at k3
      have HSK : Hid (S2 x.ins[t2]!.id = true → GPost x S S2 a (j + 1)) := fun h => gpost_skip HGP.out (by rw [← hid2]; exact h)
      have HDP : Hid (∀ S3, GPost x (putS S2 x.ins[t2]!.id) S3 t2 x.ins[t2]!.ents.length → GPost x S S3 a (j + 1)) := fun S3 h3 => gpost_deep hx ha (by rw [← HEM.out]; exact hlt) ht2 hid2 HGP.out h3
      generalize x.ins[a]!.ents[j]!.hash = h0 at k0
      generalize x.ins[a]!.ents[j]!.index = h1 at k1
      generalize x.ins[a]!.ents[j]!.name = h2 at k2
      clear hc hce
      have bA := below_lit wr (.cells #[.int .i64 h0, .int .i64 h1, .string h2, .int .i64 x.ins[t2]!.id] 66)
      have sA : (wr.alloc (.cells #[.int .i64 h0, .int .i64 h1, .string h2, .int .i64 x.ins[t2]!.id] 66)).heap.size = wr.heap.size + 1 := by simp
      have stA := HST.out.below bA
      have hlk := stA.fm.look hIe
      have cfb : (wr.alloc (.cells #[.int .i64 h0, .int .i64 h1, .string h2, .int .i64 x.ins[t2]!.id] 66)).cell? ⟨h + 2, 0, none⟩ = some (.map (some (h + 1))) := Joins.cell_of_block stA.fb 0
      have hfo := fof_at hx ps ht2
      have bAg : wr.grownBy (wr.alloc (.cells #[.int .i64 h0, .int .i64 h1, .string h2, .int .i64 x.ins[t2]!.id] 66)) (some (h + 1)) := World.grownBy_alloc wr _ _
      have hlo := st.lo
      have hh3 := HST.out.lt
      cases hS2 : S2 x.ins[t2]!.id
      · have e1 : stF x.ins ps S2 x.ins[t2]!.id = none := by unfold stF; rw [hS2]; rfl
        rw [e1] at hlk
        unfold ptrV at hlk
        have stD := stA.below (Below.refl _ _).drew
        obtain ⟨w4, hrun4, st4, hg4⟩ := stD.put hx ht2 hS2 hE
        have hlk4 := stD.tree.map.look hIe
        rw [hfo] at hlk4
        unfold ptrV at hlk4
        have ctb : (wr.alloc (.cells #[.int .i64 h0, .int .i64 h1, .string h2, .int .i64 x.ins[t2]!.id] 66)).cell? ⟨h, 0, none⟩ = some (.pointer (some ⟨p, 0, none⟩)) := Joins.cell_of_block stA.tb 0
        have ctp : (wr.alloc (.cells #[.int .i64 h0, .int .i64 h1, .string h2, .int .i64 x.ins[t2]!.id] 66)).cell? ⟨p, 1, none⟩ = some (.map (some m)) := Joins.cell_of_block stA.tree.tree 1
        have c43 : w4.cell? ⟨wr.heap.size, 3, none⟩ = some (.int .i64 x.ins[t2]!.id) := by
          rw [World.cell?_of_block (hg4.block wr.heap.size (by show wr.heap.size < _; simp [World.drew]) (by simp; omega))]
          show (wr.alloc (.cells #[.int .i64 h0, .int .i64 h1, .string h2, .int .i64 x.ins[t2]!.id] 66)).cell? ⟨wr.heap.size, 3, none⟩ = _
          rw [World.cell?_alloc_mark]; rfl
        have c4g : w4.cell? ⟨h + 3, 0, none⟩ = some (.func (.func 57) #[] #[.pointer (some ⟨h + 2, 0, none⟩), .pointer (some ⟨h, 0, none⟩), .pointer (some ⟨h + 3, 0, none⟩)]) := Joins.cell_of_block st4.gb 0
        have c4t : w4.cell? ⟨h, 0, none⟩ = some (.pointer (some ⟨p, 0, none⟩)) := Joins.cell_of_block st4.tb 0
        have c4p : w4.cell? ⟨p, 1, none⟩ = some (.map (some m)) := Joins.cell_of_block st4.tree.tree 1
        have st4D := st4.below (Below.refl _ _).drew
        have hlk5 := st4D.tree.map.look hIe
        rw [hfo] at hlk5
        unfold ptrV at hlk5
        have hcnt := cntS_put hx.rise (place_mem ht2) hS2
        have hcle := cntS_le x.ins (putS S2 x.ins[t2]!.id)
        have hcm := cntS_mono x.ins HGP.out.mono
        have hIH := IH (n - 1) (by omega) (putS S2 x.ins[t2]!.id) _ t2 ht2 (by omega) st4D
        have HGA : Hid (∀ w5, w4.drew.grownBy w5 (some (h + 1)) → w.grownBy w5 (some (h + 1))) := fun w5 g5 => gbs_trans (gbs_trans (gbs_trans HGR.out bAg) (gbs_trans (gb_drew0 _ _) hg4)) (gbs_trans (gb_drew0 _ _) g5)
        have HS2 : Hid (S2 x.ins[t2]!.id = false) := hS2
        have HST4 : Hid True := trivial
        clear hS2 e1 hcnt hcle hcm st4 st4D stD stA HST HSK hg4
        generalize x.ins[t2]!.id = eid at k3 hlk hrun4 hlk4 c43 hlk5 hIH HDP HS2 hfo ctb ctp cfb bA sA bAg ⊢
        generalize ps[t2]!.1 = q2 at hrun4 hlk4 hlk5 hIH hfo
        clear bA bAg hfo
        go_wp2
        go_region
        go_wp2
        go_region_with (go_at_call 57; refine hIH.mono ?_; rintro e w5 ⟨rfl, ⟨S3, st5, gp5⟩, g5⟩)
        all_goals
          try go_wp2
          go_roundw
          case rel => exact ⟨j + 1, S3, by omega, by go_num, st5, HDP.out S3 gp5, HGA.out w5 g5⟩
          case measure => simp [intOf]; omega
      · have e1 : stF x.ins ps S2 x.ins[t2]!.id = some ps[t2]!.1 := by unfold stF; rw [hS2]; exact hfo
        rw [e1] at hlk
        unfold ptrV at hlk
        have HN : Hid (GPost x S S2 a (j + 1)) := HSK.out hS2
        have HSTA : Hid (GatSt h base p m x ps S2 (wr.alloc (.cells #[.int .i64 h0, .int .i64 h1, .string h2, .int .i64 x.ins[t2]!.id] 66))) := stA
        have HGA : Hid (w.grownBy (wr.alloc (.cells #[.int .i64 h0, .int .i64 h1, .string h2, .int .i64 x.ins[t2]!.id] 66)) (some (h + 1))) := gbs_trans HGR.out bAg
        clear hS2 e1 stA bAg bA HSK HDP hfo
        generalize x.ins[t2]!.id = eid at k3 hlk cfb sA HSTA HGA ⊢
        generalize ps[t2]!.1 = q2 at hlk
        go_wp2
        go_roundw
        case rel => exact ⟨j + 1, S2, by omega, by go_num, HSTA, HN, HGA⟩
        case measure => simp [intOf]; omega
    · obtain rfl : j = em := by omega
      have hst := HST.out
      have hgp := HGP.out
      have hgr := HGR.out
      go_wp2
      go_end0
      exact ⟨rfl, ⟨S2, hst, hgp⟩, hgr⟩
end

end Go.Proofs.YtchcdgkpaipkgaaGreatDoor
