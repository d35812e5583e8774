/- Volumes, impl: linksOk. -/
import Derived.Test.YtjggkhcomaiplaaDoorRows
import Derived.Test.YtjggkhcomaiplaaDoorIVd
import Derived.Test.YtjggkhcomaiplaaDoorNc
namespace Go.Proofs.YtjggkhcomaiplaaDoor
open Go.RowKit Go.Maps Go.Sort

/-- those that are no more to come -/
def visL (l : List Ino) (left : Lit → Bool) : List Ino := l.filter fun y => !left (.int .i64 y.id)
def visC (l : List Ino) (left : Lit → Bool) (i : Int) : Nat := ((visL l left).map fun y => cntN y.ents i).sum
def visE (l : List Ino) (left : Lit → Bool) : Nat := ((visL l left).map fun y => y.ents.length).sum
theorem same_int (a b : Int) : (Lit.int .i64 a).sameKey (.int .i64 b) = decide (a = b) := by simp [Lit.sameKey]
/-- the keys still to come behind one more -/
def lessL (left : Lit → Bool) (i : Int) : Lit → Bool := fun z => left z && !z.sameKey (.int .i64 i)
theorem lessL_at (left : Lit → Bool) (i j : Int) : lessL left i (.int .i64 j) = (left (.int .i64 j) && !decide (j = i)) := by unfold lessL; rw [same_int]
theorem vis_step (f : Ino → Nat) (left : Lit → Bool) : ∀ (l : List Ino), (l.Pairwise fun a b => a.id < b.id) → ∀ y ∈ l, left (.int .i64 y.id) = true → ((visL l (lessL left y.id)).map f).sum = ((visL l left).map f).sum + f y
  | [], _, y, hy, _ => by simp at hy
  | z :: l, hr, y, hy, hl => by
    rw [List.pairwise_cons] at hr
    have ih := vis_step f left l hr.2 y
    unfold visL at ih ⊢
    rw [List.filter_cons, List.filter_cons]
    rcases List.mem_cons.1 hy with rfl | hy
    · have e1 : (!lessL left y.id (.int .i64 y.id)) = true := by rw [lessL_at]; simp
      have e2 : (!left (.int .i64 y.id)) = false := by rw [hl]; rfl
      rw [if_pos e1, if_neg (by rw [e2]; simp)]
      have e3 : (l.filter fun a => !lessL left y.id (.int .i64 a.id)) = l.filter fun a => !left (.int .i64 a.id) := by
        apply List.filter_congr
        intro a ha
        have := hr.1 a ha
        rw [lessL_at, decide_eq_false (by omega)]; simp
      rw [e3, List.map_cons, List.sum_cons]; omega
    · have h1 := hr.1 y hy
      have e1 : (!lessL left y.id (.int .i64 z.id)) = !left (.int .i64 z.id) := by rw [lessL_at, decide_eq_false (by omega)]; simp
      rw [e1]
      have := ih hy hl
      cases left (.int .i64 z.id)
      · simp only [Bool.not_false, if_true, List.map_cons, List.sum_cons]; omega
      · simp only [Bool.not_true, Bool.false_eq_true, if_false]; exact this
theorem vis_none (l : List Ino) (left : Lit → Bool) (h : ∀ y ∈ l, left (.int .i64 y.id) = true) : visL l left = [] := by
  unfold visL
  rw [List.filter_eq_nil_iff]
  intro y hy; simp [h y hy]
theorem vis_all (l : List Ino) (left : Lit → Bool) (h : ∀ z, left z = false) : visL l left = l := by
  unfold visL
  rw [List.filter_eq_self]
  intro y _; simp [h]
theorem vis_le (l : List Ino) (left : Lit → Bool) (f : Ino → Nat) : ((visL l left).map f).sum ≤ (l.map f).sum := by
  unfold visL
  induction l with
  | nil => simp
  | cons z l ih =>
    rw [List.filter_cons]
    split
    · simp only [List.map_cons, List.sum_cons]; omega
    · simp only [List.map_cons, List.sum_cons]; omega
theorem sum_bd (l : List Ino) (f : Ino → Nat) (c : Nat) (h : ∀ y ∈ l, f y ≤ c) : (l.map f).sum ≤ l.length * c := by
  induction l with
  | nil => simp
  | cons z l ih =>
    have h1 := h z (by simp)
    have h2 := ih fun y hy => h y (by simp [hy])
    simp only [List.map_cons, List.sum_cons, List.length_cons]
    have : (l.length + 1) * c = l.length * c + c := Nat.succ_mul _ _
    omega
theorem inI_of_wf {i : Int} (h : (Lit.int .i64 i).wf = true) : InI i := bounds_i64 h
/-- the key that has come is an inode's Id, the pointer that inode's -/
theorem come_is {l : List Ino} {ps : List (Nat × Value)} {D : DataW Unit} (hF : ∀ i, InI i → Maps.has D (.int .i64 i) = (fofP l ps i).isSome ∧ ∀ z : DataW Unit, D.atKey (.int .i64 i) z = (match fofP l ps i with | some q => .lit (.int .i64 (q : Int)) | none => z))
    {i : Int} {o : Option Nat} {kl : Lit} {y : DataW Unit × List MemPlace} (hk : keyOf Tryd.prog 3 (.int .i64 i) = some kl) (hh : Maps.has D kl = true) (hR : ptrR (ptrV o) = some y) (hat : ∀ zd, D.atKey kl zd = y.1) :
    kl = .int .i64 i ∧ InI i ∧ ∃ t, t < l.length ∧ l[t]!.id = i ∧ o = some ps[t]!.1 := by
  obtain ⟨i', e, rfl, hw⟩ := Maps.keyOf_int_inv Tryd.underlying3 hk
  cases e
  have hI := inI_of_wf hw
  refine ⟨rfl, hI, ?_⟩
  rw [(hF i hI).1] at hh
  unfold fofP at hh hF
  cases hp : plN l i with
  | none => rw [hp] at hh; simp at hh
  | some t =>
    obtain ⟨h1, h2⟩ := plN_is hp
    refine ⟨t, h1, h2, ?_⟩
    have := hat (.lit (.int .i64 0))
    rw [(hF i hI).2, hp] at this
    rw [ptrR_V] at hR
    simp only [Option.map_some] at this
    simp only [Option.some.injEq] at hR
    rw [← hR] at this
    simp only [DataW.lit.injEq, Lit.int.injEq, true_and] at this
    exact ptrN_inj (by rw [← this]; rfl)

/-- what a volume must be for linksOk and below to be asked -/
structure TreeFit (x : Vo) : Prop where
  rise : x.ins.Pairwise fun a b => a.id < b.id
  len : x.ins.length ≤ 100
  ids : ∀ y ∈ x.ins, InI y.id
  ents : ∀ y ∈ x.ins, y.ents.length ≤ 100
  eids : ∀ y ∈ x.ins, ∀ e ∈ y.ents, InI e.id

set_option maxRecDepth 100000 in
set_option maxHeartbeats 1000000 in
theorem linksOk_any (base p m : Nat) (x : Vo) (ps : List (Nat × Value)) (w : World) (hx : TreeFit x) (hT : TreeAt w base p m x ps) :
    Calls Tryd.prog 17 #[.pointer (some ⟨p, 0, none⟩)] w fun e w' => e = .returned (.bool (linksB x)) ∧ Below w.heap.size w w' := by
  have HR : Hid (∀ b : Bool, (b = true ↔ LinksR x) → linksB x = b) := fun b hb => bool_of linksB_iff hb
  generalize linksB x = r at HR ⊢
  obtain ⟨D, hown, hsz, hF⟩ := hT.map
  have hlen := hT.len
  have cp : w.cell? ⟨p, 1, none⟩ = some (.map (some m)) := Joins.cell_of_block hT.tree 1
  have HTB : Hid (∀ wr, Below w.heap.size w wr → TreeAt wr base p m x ps) := fun wr b => hT.below b
  have hpl : p < w.heap.size := lt_of_block hT.tree
  obtain ⟨nx, l⟩ := x
  dsimp only at *
  have cb0 := MapC.made w
  have ho1 := (hown.alloc (.map #[] 0))
  have hMM := fun W => run_makeMap (P := Tryd.prog) 62 W
  go_enter Tryd.func17, Tryd.ntmps17
  have cp1 : (w.alloc (.map #[] 0)).cell? ⟨p, 1, none⟩ = some (.map (some m)) := ((below_lit w _).cell (p := ⟨p, 1, none⟩) hpl).trans cp
  go_wp2_with (at_range; refine wpList_range_own _ rfl _ 46 rfl 3 48 keyI Tryd.underlying46 ptrR m l.length D rfl ho1 ?_; intro w0 hrg0 hg0 hs0)
  have hsA : (w.alloc (.map #[] 0)).heap.size = w.heap.size + 1 := by simp
  rw [hsA] at hrg0 hs0 ⊢
  have bw0 : Below w.heap.size w w0 := (below_lit w _).grown hg0 (by simp) (fun _ h => by cases h)
  have cb1 := cb0.kept hg0 (by simp)
  have hz0 : w.heap.size + 1 < w0.heap.size := by omega
  have HALL : Hid (∀ y ∈ l, has D (.int .i64 y.id) = true) := fun y hy => by
    rw [(hF y.id (hx.ids y hy)).1]
    unfold fofP
    rcases plZ_cases l y.id with ⟨k, h1, h2, h3, -⟩ | ⟨h1, -⟩
    · rw [h3]; rfl
    · exact absurd rfl (h1 y hy)
  have HV0 : Hid (visL l (has D) = []) := vis_none l _ HALL.out
  have HNO : Hid (∀ y ∈ l, ∀ e ∈ y.ents, (e.id = 1 ∨ ∀ z ∈ l, z.id ≠ e.id) → r = false) := fun y hy e he h => HR.out false (by
    simp only [Bool.false_eq_true, false_iff]
    rintro ⟨h1, _⟩
    have := h1 y hy e he
    rcases h with h | h
    · exact this.1 h
    · obtain ⟨z, hz, hzz⟩ := this.2; exact h z hz hzz)
  have HLK : Hid (∀ y ∈ l, y.id ≠ 1 → y.links ≠ (namedV ⟨nx, l⟩ y.id : Nat) → r = false) := fun y hy h1 h2 => HR.out false (by
    simp only [Bool.false_eq_true, false_iff]
    rintro ⟨_, h3⟩; exact h2 (h3 y hy h1))
  have HYES : Hid ((∀ y ∈ l, ∀ e ∈ y.ents, e.id ≠ 1 ∧ ∃ z ∈ l, z.id = e.id) → (∀ y ∈ l, y.id ≠ 1 → y.links = (namedV ⟨nx, l⟩ y.id : Nat)) → r = true) := fun h1 h2 => HR.out true (by simp only [true_iff]; exact ⟨h1, h2⟩)
  clear HR
  have HBC : Hid (∀ left i, visC l left i ≤ 10000) := fun left i => by
    have h1 := vis_le l left (fun y => cntN y.ents i)
    have h2 := sum_bd l (fun y => cntN y.ents i) 100 (fun y hy => Nat.le_trans (cntN_le _ _) (hx.ents y hy))
    have h3 := hx.len
    unfold visC
    dsimp only at h3
    omega
  have HBE : Hid (∀ left, visE l left ≤ 10000) := fun left => by
    have h1 := vis_le l left (fun y => y.ents.length)
    have h2 := sum_bd l (fun y => y.ents.length) 100 (fun y hy => hx.ents y hy)
    have h3 := hx.len
    unfold visE
    dsimp only at h3
    omega
  try go_frame
  go_loopw [5] (fun _ wr => ∃ (left : Lit → Bool) (cnt : Nat) (G : Int → Nat), Hid (wr.ranges Tryd.prog 3 ptrR m (w.heap.size + 1) l.length D left cnt) ∧ Hid (∀ z, left z = true → has D z = true) ∧ Hid (MapC wr w.heap.size G (visE l left)) ∧ Hid (∀ i, InI i → G i = visC l left i) ∧ Hid (∀ y ∈ l, left (.int .i64 y.id) = false → ∀ e ∈ y.ents, e.id ≠ 1 ∧ ∃ z ∈ l, z.id = e.id) ∧ Below w.heap.size w wr ∧ w.heap.size + 1 < wr.heap.size) (fun _ wr => wr.rangeLeft m (w.heap.size + 1))
  case atStart =>
    refine ⟨has D, size D, fun _ => 0, hrg0, fun z h => h, ?_, fun i _ => ?_, fun y hy h => ?_, bw0, hz0⟩
    · show MapC _ _ _ _
      unfold visE; rw [HV0.out]; exact cb1
    · unfold visC; rw [HV0.out]; rfl
    · rw [HALL.out y hy] at h; cases h
  case round =>
    obtain ⟨left, cnt, G, HRG, HLH, HMC, HG, HOK, hbel, hsz1⟩ := hrel
    have hrg := HRG.out
    go_wp2_with (first
      | (at_next; refine wpList_next_ranges _ rfl _ rfl 3 keyI ptrR (Value.int .i64) ptrV (fun key kl hk => by obtain ⟨x, rfl, _⟩ := Maps.keyOf_int_inv Tryd.underlying3 hk; exact ⟨x, rfl⟩) (fun v y hv => ptrR_inv hv) m (w.heap.size + 1) l.length D left cnt rfl hrg ?_ ?_)
      | go_in)
    · intro hc0 hl0
      have HVA : Hid (visL l left = l) := vis_all l left hl0
      have HGN : Hid (∀ i, InI i → G i = namedV ⟨nx, l⟩ i) := fun i hi => by
        rw [HG.out i hi]; unfold visC namedV; rw [HVA.out]
      have HOK2 : Hid (∀ y ∈ l, ∀ e ∈ y.ents, e.id ≠ 1 ∧ ∃ z ∈ l, z.id = e.id) := fun y hy => HOK.out y hy (hl0 _)
      have xp : wr.cell? ⟨p, 1, none⟩ = some (.map (some m)) := Joins.cell_of_block (HTB.out _ hbel).tree 1
      have ho2 := hrg.owns
      have hmc := HMC.out
      generalize visE l left = ve at hmc
      go_wp2_with (at_range; refine wpList_range_own _ rfl _ 46 rfl 3 48 keyI Tryd.underlying46 ptrR m l.length D rfl ho2 ?_; intro w2 hrg2 hg2 hs2)
      have bw2 : Below w.heap.size w w2 := hbel.grown hg2 hbel.size (fun _ h => by cases h)
      have hm2 := hmc.kept hg2 (by simp)
      obtain ⟨rr, hrr⟩ : ∃ rr, Hid (rr = wr.heap.size) := ⟨_, rfl⟩
      have hrs : w.heap.size < rr := by rw [hrr.out]; omega
      have hrs2 : rr < w2.heap.size := by rw [hrr.out]; omega
      rw [← hrr.out] at hrg2 ⊢
      have hm2 : Hid (MapC w2 w.heap.size G ve) := hm2
      have hrg2 : Hid (w2.ranges Tryd.prog 3 ptrR m rr l.length D (has D) (size D)) := hrg2
      try go_frame
      go_loopw [8] (fun _ wq => ∃ (left2 : Lit → Bool) (cnt2 : Nat), Hid (wq.ranges Tryd.prog 3 ptrR m rr l.length D left2 cnt2) ∧ Hid (∀ z, left2 z = true → has D z = true) ∧ Hid (MapC wq w.heap.size G ve) ∧ Hid (∀ y ∈ l, left2 (.int .i64 y.id) = false → y.id ≠ 1 → y.links = (namedV ⟨nx, l⟩ y.id : Nat)) ∧ Below w.heap.size w wq ∧ rr < wq.heap.size) (fun _ wq => wq.rangeLeft m rr)
      case atStart =>
        have HS0 : Hid (∀ y ∈ l, has D (.int .i64 y.id) = false → y.id ≠ 1 → y.links = (namedV ⟨nx, l⟩ y.id : Nat)) := fun y hy h _ => by rw [HALL.out y hy] at h; cases h
        exact ⟨has D, size D, hrg2, fun z h => h, hm2, HS0, bw2, hrs2⟩
      case round =>
        obtain ⟨left2, cnt2, HRG2, HLH2, HMC2, HOK3, hbel2, hsz2⟩ := hrel
        have hrgq := HRG2.out
        go_wp2_with (first
          | (at_next; refine wpList_next_ranges _ rfl _ rfl 3 keyI ptrR (Value.int .i64) ptrV (fun key kl hk => by obtain ⟨x, rfl, _⟩ := Maps.keyOf_int_inv Tryd.underlying3 hk; exact ⟨x, rfl⟩) (fun v y hv => ptrR_inv hv) m rr l.length D left2 cnt2 rfl hrgq ?_ ?_)
          | go_in)
        · intro hc1 hl1
          have hr : Hid (r = true) := HYES.out HOK2.out (fun y hy h1 => HOK3.out y hy (hl1 _) h1)
          go_wp2
          go_ret
          exact ⟨ret_bool hr.out.symm, hbel2⟩
        · intro xi o kl yd yl w1 cnt1 hk hlk hR hat hrg1 hltc hg1 hs1 hen
          obtain ⟨rfl, hI, t, ht, hid, rfl⟩ := come_is (y := (yd, yl)) hF hk (HLH2.out _ hlk) hR hat
          have hty : l[t]! ∈ l := place_mem ht
          have bw1 : Below w.heap.size w w1 := hbel2.grown hg1 hbel2.size (fun q hq => by cases hq; omega)
          have hmc1 := HMC2.out.kept hg1 (by simp; omega)
          have hI1 := (HTB.out w1 bw1).ino t (by omega)
          have cq : w1.cell? ⟨ps[t]!.1, 2, none⟩ = some (.int .i64 l[t]!.links) := Joins.cell_of_block hI1 2
          have hen2 : (Instr.entry (.pointer (some ⟨rr, 0, none⟩))).run Tryd.prog w1 = .ok (.tuple #[.int .i64 xi, .pointer (some ⟨ps[t]!.1, 0, none⟩)]) w1 := hen
          clear hen
          have hGN := HGN.out xi hI
          have HL1 : Hid (xi ≠ 1 → l[t]!.links ≠ (namedV ⟨nx, l⟩ xi : Nat) → r = false) := fun h1 h2 => HLK.out _ hty (by rw [hid]; exact h1) (by rw [hid]; exact h2)
          have HL2 : Hid ((xi = 1 ∨ l[t]!.links = (namedV ⟨nx, l⟩ xi : Nat)) → ∀ y ∈ l, lessL left2 xi (.int .i64 y.id) = false → y.id ≠ 1 → y.links = (namedV ⟨nx, l⟩ y.id : Nat)) := fun h y hy hl h1 => by
            rw [lessL_at] at hl
            by_cases e1 : y.id = xi
            · have := rise_eq hx.rise hy hty (by rw [e1, hid])
              subst this
              rcases h with h | h
              · exact absurd (by rw [e1]; exact h) h1
              · rw [e1]; exact h
            · rw [decide_eq_false e1] at hl
              exact HOK3.out y hy (by simpa using hl) h1
          have HLH1 : Hid (∀ z, lessL left2 xi z = true → has D z = true) := fun z h => HLH2.out z (by unfold lessL at h; simp at h; exact h.1)
          have HLL : Hid ((fun z => left2 z && !z.sameKey (.int .i64 xi)) = lessL left2 xi) := rfl
          rw [HLL.out] at hrg1
          have hRG1 : Hid (w1.ranges Tryd.prog 3 ptrR m rr l.length D (lessL left2 xi) cnt1) := hrg1
          have hsz3 : rr < w1.heap.size := by rw [hs1]; exact hsz2
          have hlook : ∀ dd os, (Instr.lookup 62 (.map (some w.heap.size)) (.int .i64 xi) false).run Tryd.prog (grow (redrawn w1 dd) os) = .ok (.int .i64 (G xi : Int)) (grow (redrawn w1 dd) os) := fun dd os => (hmc1.below (below_regrown _ dd os)).look hI
          rw [hGN] at hlook
          generalize namedV ⟨nx, l⟩ xi = nm at hlook HL1 HL2
          generalize l[t]!.links = lk at cq HL1 HL2
          generalize ps[t]!.1 = q at cq hen2 ⊢
          have gq := cell_regrown cq
          have hRGB : Hid (∀ dd os, (grow (redrawn w1 dd) os).ranges Tryd.prog 3 ptrR m rr l.length D (lessL left2 xi) cnt1) := fun dd os => by
            have hb := below_regrown w1 dd os
            exact hRG1.out.kept (row := none) ⟨hb.os, hb.tape, hb.output, hb.size, fun k hk _ => hb.block k hk⟩ (by simp) (by simp)
          by_cases h1 : xi = 1
          · have f1 : (xi != 1) = false := by simp [h1]
            have HX : Hid _ := HL2.out (.inl h1)
            clear h1
            go_wp2
            refine wp_region_quiet_below (by kernel_rfl) (by kernel_rfl) ?_
            repeat (go_big_quiet_step (fail))
            refine wpQuiet_nil ?_
            rintro w' ⟨⟨dq, osq⟩, rfl⟩
            have hb5 := below_regrown w1 dq osq
            have hr5 : Hid ((grow (redrawn w1 dq) osq).ranges Tryd.prog 3 ptrR m rr l.length D (lessL left2 xi) cnt1) := hRGB.out dq osq
            have hm5 : Hid (MapC (grow (redrawn w1 dq) osq) w.heap.size G ve) := hmc1.below hb5
            generalize grow (redrawn w1 dq) osq = w5 at hb5 hr5 hm5 ⊢
            have hmeas : w5.rangeLeft m rr = cnt1 := hr5.out.left_eq
            go_wp2
            go_roundw
            case rel => exact ⟨lessL left2 xi, cnt1, hr5, HLH1, hm5, HX, bw1.trans (hb5.mono bw1.size), Nat.lt_of_lt_of_le hsz3 hb5.size⟩
            case measure => rw [hmeas, hrgq.left_eq]; exact hltc
          · have f1 : (xi != 1) = true := by simp [h1]
            by_cases h2 : lk = (nm : Int)
            · have f2 : (lk != (nm : Int)) = false := by simp [h2]
              have HX : Hid _ := HL2.out (.inr h2)
              clear h1 h2
              go_wp2
              refine wp_region_quiet_below (by kernel_rfl) (by kernel_rfl) ?_
              repeat (go_big_quiet_step (fail))
              refine wpQuiet_nil ?_
              rintro w' ⟨⟨dq, osq⟩, rfl⟩
              have hb5 := below_regrown w1 dq osq
              have hr5 : Hid ((grow (redrawn w1 dq) osq).ranges Tryd.prog 3 ptrR m rr l.length D (lessL left2 xi) cnt1) := hRGB.out dq osq
              have hm5 : Hid (MapC (grow (redrawn w1 dq) osq) w.heap.size G ve) := hmc1.below hb5
              generalize grow (redrawn w1 dq) osq = w5 at hb5 hr5 hm5 ⊢
              have hmeas : w5.rangeLeft m rr = cnt1 := hr5.out.left_eq
              go_wp2
              go_roundw
              case rel => exact ⟨lessL left2 xi, cnt1, hr5, HLH1, hm5, HX, bw1.trans (hb5.mono bw1.size), Nat.lt_of_lt_of_le hsz3 hb5.size⟩
              case measure => rw [hmeas, hrgq.left_eq]; exact hltc
            · have f2 : (lk != (nm : Int)) = true := by simp [h2]
              have hr : Hid _ := HL1.out h1 h2
              clear h1 h2
              go_wp2
              refine wp_region_quiet_below (by kernel_rfl) (by kernel_rfl) ?_
              repeat (go_big_quiet_step (fail))
              refine wpQuiet_nil ?_
              rintro w' ⟨⟨dq, osq⟩, rfl⟩
              have hb5 := below_regrown w1 dq osq
              generalize grow (redrawn w1 dq) osq = w5 at hb5 ⊢
              go_wp2
              go_ret
              exact ⟨ret_bool hr.out.symm, bw1.trans (hb5.mono bw1.size)⟩
    · intro xi o kl yd yl w1 cnt1 hk hlk hR hat hrg1 hltc hg1 hs1 hen
      obtain ⟨rfl, hI, t, ht, hid, rfl⟩ := come_is (y := (yd, yl)) hF hk (HLH.out _ hlk) hR hat
      have hty : l[t]! ∈ l := place_mem ht
      have bw1 : Below w.heap.size w w1 := hbel.grown hg1 hbel.size (fun q hq => by cases hq; omega)
      have hT1 := HTB.out w1 bw1
      have hmc1 := HMC.out.kept hg1 (by simp)
      have hsz2 : w.heap.size + 1 < w1.heap.size := by rw [hs1]; exact hsz1
      have hI1 := hT1.ino t (by omega)
      have hE1 := hT1.ents t (by omega)
      have cq : w1.cell? ⟨ps[t]!.1, 4, none⟩ = some ps[t]!.2 := Joins.cell_of_block hI1 4
      have hEA := hE1.at
      have hen2 : (Instr.entry (.pointer (some ⟨w.heap.size + 1, 0, none⟩))).run Tryd.prog w1 = .ok (.tuple #[.int .i64 xi, .pointer (some ⟨ps[t]!.1, 0, none⟩)]) w1 := hen
      clear hen
      have HEE : Hid (∀ wq, Below w.heap.size w wq → EntsAt wq ps[t]!.2 l[t]!.ents) := fun wq b => ((HTB.out wq b).ents t (by omega)).at
      have hel : l[t]!.ents.length ≤ 100 := hx.ents _ hty
      have HEI : Hid (∀ j, j < l[t]!.ents.length → InI l[t]!.ents[j]!.id) := fun j hj => hx.eids _ hty _ (by rw [getElem!_pos _ j hj]; exact List.getElem_mem hj)
      have HNOT : Hid (∀ j, j < l[t]!.ents.length → (l[t]!.ents[j]!.id = 1 ∨ ∀ z ∈ l, z.id ≠ l[t]!.ents[j]!.id) → r = false) := fun j hj h => HNO.out _ hty _ (by rw [getElem!_pos _ j hj]; exact List.getElem_mem hj) h
      have HFIN : Hid (∀ (G2 : Int → Nat) wq, MapC wq w.heap.size G2 (visE l left + l[t]!.ents.length) → (∀ i, InI i → G2 i = visC l left i + cntK l[t]!.ents i l[t]!.ents.length) → (∀ j, j < l[t]!.ents.length → l[t]!.ents[j]!.id ≠ 1 ∧ ∃ z ∈ l, z.id = l[t]!.ents[j]!.id) →
          MapC wq w.heap.size G2 (visE l (lessL left xi)) ∧ (∀ i, InI i → G2 i = visC l (lessL left xi) i) ∧ (∀ y ∈ l, lessL left xi (.int .i64 y.id) = false → ∀ e ∈ y.ents, e.id ≠ 1 ∧ ∃ z ∈ l, z.id = e.id)) := fun G2 wq h1 h2 h3 => by
        rw [← hid] at hlk ⊢
        refine ⟨?_, fun i hi => ?_, fun y hy hl e he => ?_⟩
        · have := vis_step (fun y => y.ents.length) left l hx.rise _ hty hlk
          unfold visE at h1 ⊢
          rw [this]; exact h1
        · have := vis_step (fun y => cntN y.ents i) left l hx.rise _ hty hlk
          rw [h2 i hi, cntK_all]
          unfold visC
          rw [this]
        · rw [lessL_at] at hl
          by_cases e1 : y.id = l[t]!.id
          · have := rise_eq hx.rise hy hty e1
            subst this
            obtain ⟨j, hj, rfl⟩ := List.getElem_of_mem he
            have := h3 j hj
            rwa [getElem!_pos _ j hj] at this
          · rw [decide_eq_false e1] at hl
            exact HOK.out y hy (by simpa using hl) e he
      have HLL : Hid ((fun z => left z && !z.sameKey (.int .i64 xi)) = lessL left xi) := rfl
      rw [HLL.out] at hrg1
      have hRG1 : Hid (w1.ranges Tryd.prog 3 ptrR m (w.heap.size + 1) l.length D (lessL left xi) cnt1) := hrg1
      have HLH1 : Hid (∀ z, lessL left xi z = true → has D z = true) := fun z h => HLH.out z (by unfold lessL at h; simp at h; exact h.1)
      have HG1 := HG.out
      have HVB := HBE.out left
      have HCB := fun i => HBC.out left i
      generalize visE l left = ve at hmc1 HFIN HVB
      have HCB : Hid _ := HCB
      obtain ⟨ea, ec, hes, -, -⟩ := hEA
      rw [hes] at cq HEE
      generalize ps[t]!.1 = q at cq hen2 ⊢
      generalize l[t]!.ents = d at hel HEI HNOT HFIN HEE cq
      obtain ⟨em, HEM⟩ : ∃ em, Hid (em = d.length) := ⟨_, rfl⟩
      rw [← HEM.out] at hel HEI HNOT HFIN HEE cq
      clear hI1 hE1 hT1 hes
      go_wp2
      go_loopw [25] (fun s wq => ∃ (j : Nat) (G2 : Int → Nat), j ≤ em ∧ s = .int .i64 j ∧ Hid (wq.ranges Tryd.prog 3 ptrR m (w.heap.size + 1) l.length D (lessL left xi) cnt1) ∧ Hid (MapC wq w.heap.size G2 (ve + j)) ∧ Hid (∀ i, InI i → G2 i = visC l left i + cntK d i j) ∧ Hid (∀ i, i < j → d[i]!.id ≠ 1 ∧ ∃ z ∈ l, z.id = d[i]!.id) ∧ Below w.heap.size w wq ∧ w.heap.size + 1 < wq.heap.size) (fun s _ => em - (intOf s).toNat)
      case atStart => exact ⟨0, G, Nat.zero_le _, rfl, hRG1, hmc1, fun i hi => by rw [HG1 i hi]; simp [cntK, cntN], fun i hi => by omega, bw1, hsz2⟩
      case round =>
        obtain ⟨j, G2, hj, rfl, HR2, HM2, HG2, HK2, hbq, hsq⟩ := hrel
        by_cases hlt : j < em
        · obtain ⟨ea2, ec2, e2, -, hce⟩ := HEE.out wr hbq
          simp only [Value.slice.injEq] at e2
          obtain ⟨rfl, -, rfl⟩ := e2
          obtain ⟨eb, eo, rfl, heb, hc⟩ := hce j (by rw [← HEM.out]; exact hlt)
          have hIe := HEI.out j hlt
          have HNj := HNOT.out j hlt
          have HCK : Hid (∀ i, cntK d i (j + 1) = cntK d i j + if d[j]!.id = i then 1 else 0) := fun i => cntK_succ d i j (by rw [← HEM.out]; exact hlt)
          have HCL : Hid (∀ i, cntK d i j ≤ j) := fun i => cntK_le d i j
          have HK3 : Hid (d[j]!.id ≠ 1 → (∃ z ∈ l, z.id = d[j]!.id) → ∀ i, i < j + 1 → d[i]!.id ≠ 1 ∧ ∃ z ∈ l, z.id = d[i]!.id) := fun h1 h2 i hi => by
            by_cases e : i = j
            · rw [e]; exact ⟨h1, h2⟩
            · exact HK2.out i (by omega)
          have k0 := hc.c0
          have k1 := hc.c1
          have k2 := hc.c2
          have k3 := hc.c3
          generalize d[j]!.hash = h0 at k0
          generalize d[j]!.index = h1 at k1
          generalize d[j]!.name = h2 at k2
          generalize d[j]!.id = eid at k3 hIe HNj HCK HK3
          clear hc hce HEE HEI HNOT
          have HNj : Hid _ := HNj
          have bA := below_lit wr (.cells #[.int .i64 h0, .int .i64 h1, .string h2, .int .i64 eid] 59)
          have sA : (wr.alloc (.cells #[.int .i64 h0, .int .i64 h1, .string h2, .int .i64 eid] 59)).heap.size = wr.heap.size + 1 := by simp
          have x3 : (wr.alloc (.cells #[.int .i64 h0, .int .i64 h1, .string h2, .int .i64 eid] 59)).cell? ⟨wr.heap.size, 3, none⟩ = some (.int .i64 eid) := by rw [World.cell?_alloc_mark]; rfl
          have bwA := hbq.trans (bA.mono hbq.size)
          have hmp := (HTB.out _ bwA).map
          have xp : (wr.alloc (.cells #[.int .i64 h0, .int .i64 h1, .string h2, .int .i64 eid] 59)).cell? ⟨p, 1, none⟩ = some (.map (some m)) := Joins.cell_of_block (HTB.out _ bwA).tree 1
          have hlook : ∀ dd os, (Instr.lookup 46 (.map (some m)) (.int .i64 eid) false).run Tryd.prog (grow (redrawn (wr.alloc (.cells #[.int .i64 h0, .int .i64 h1, .string h2, .int .i64 eid] 59)) dd) os) = .ok (ptrV (fofP l ps eid)) (grow (redrawn (wr.alloc (.cells #[.int .i64 h0, .int .i64 h1, .string h2, .int .i64 eid] 59)) dd) os) := fun dd os => (hmp.below (below_regrown _ dd os)).look hIe
          have hfo : fofP l ps eid = none ∧ (∀ z ∈ l, z.id ≠ eid) ∨ ∃ q2, fofP l ps eid = some q2 ∧ ∃ z ∈ l, z.id = eid := by
            unfold fofP
            rcases plZ_cases l eid with ⟨k, h1, h2, h3, -⟩ | ⟨h1, h3, -⟩
            · exact .inr ⟨ps[k]!.1, by rw [h3]; rfl, _, place_mem h1, h2⟩
            · exact .inl ⟨by rw [h3]; rfl, h1⟩
          have hHM2 := (HM2.out.below bA)
          have hml : m < w.heap.size := hown.lt
          have HR3 : Hid ((wr.alloc (.cells #[.int .i64 h0, .int .i64 h1, .string h2, .int .i64 eid] 59)).ranges Tryd.prog 3 ptrR m (w.heap.size + 1) l.length D (lessL left xi) cnt1) := HR2.out.alloc (.cells #[.int .i64 h0, .int .i64 h1, .string h2, .int .i64 eid] 59)
          go_wp2
          generalize (wr.alloc (.cells #[.int .i64 h0, .int .i64 h1, .string h2, .int .i64 eid] 59)) = W at bA sA x3 bwA hmp xp hlook hHM2 HR3 ⊢
          have g3 := cell_regrown x3
          have gp := cell_regrown xp
          by_cases he1 : eid = 1
          · have f : (eid == 1) = true := by simp [he1]
            have hr : Hid _ := HNj.out (.inl he1)
            clear he1 hfo hlook
            refine wp_region_quiet_below (by kernel_rfl) (by kernel_rfl) ?_
            repeat (go_big_quiet_step (fail))
            refine wpQuiet_nil ?_
            rintro w' ⟨⟨dq, osq⟩, rfl⟩
            have hb5 := below_regrown W dq osq
            generalize grow (redrawn W dq) osq = w5 at hb5 ⊢
            go_wp2
            go_ret
            exact ⟨ret_bool hr.out.symm, bwA.trans (hb5.mono bwA.size)⟩
          · have f : (eid == 1) = false := by simp [he1]
            rcases hfo with ⟨hf0, hno⟩ | ⟨q2, hf0, hyes⟩
            · have hr : Hid _ := HNj.out (.inr hno)
              rw [hf0] at hlook
              unfold ptrV at hlook
              clear he1 hno hf0
              refine wp_region_quiet_below (by kernel_rfl) (by kernel_rfl) ?_
              repeat (go_big_quiet_step (fail))
              refine wpQuiet_nil ?_
              rintro w' ⟨⟨dq, osq⟩, rfl⟩
              have hb5 := below_regrown W dq osq
              generalize grow (redrawn W dq) osq = w5 at hb5 ⊢
              go_wp2
              go_ret
              exact ⟨ret_bool hr.out.symm, bwA.trans (hb5.mono bwA.size)⟩
            · have HK4 : Hid _ := HK3.out he1 hyes
              rw [hf0] at hlook
              unfold ptrV at hlook
              clear he1 hyes hf0
              have HGE := HG2.out eid hIe
              have hcb := HCB.out eid
              have hcl := HCL.out eid
              have HG3 : Hid (∀ i, InI i → (fun i => if i = eid then G2 eid + 1 else G2 i) i = visC l left i + cntK d i (j + 1)) := fun i hi => by
                dsimp only
                rw [HCK.out i]
                by_cases e : i = eid
                · subst e; rw [if_pos rfl, if_pos rfl, HGE]; omega
                · rw [if_neg e, if_neg (Ne.symm e), HG2.out i hi]; rfl
              refine wp_region_quiet_below (by kernel_rfl) (by kernel_rfl) ?_
              repeat (go_big_quiet_step (fail))
              refine wpQuiet_nil ?_
              rintro w' ⟨⟨dq, osq⟩, rfl⟩
              have hb5 := below_regrown W dq osq
              have c5 := g3 dq osq
              have hm5 := hHM2.below hb5
              have hr5 : Hid ((grow (redrawn W dq) osq).ranges Tryd.prog 3 ptrR m (w.heap.size + 1) l.length D (lessL left xi) cnt1) := HR3.out.kept (row := none) ⟨hb5.os, hb5.tape, hb5.output, hb5.size, fun k hk _ => hb5.block k hk⟩ (by simp) (by simp)
              generalize grow (redrawn W dq) osq = w5 at hb5 c5 hm5 hr5 ⊢
              have hlk5 := hm5.look hIe
              obtain ⟨w6, hrun, hm6, hg6⟩ := hm5.store (by omega) hIe (G2 eid + 1) (by omega)
              have e1 : ((G2 eid + 1 : Nat) : Int) = (G2 eid : Int) + 1 := by omega
              rw [e1] at hrun
              have hm6 : Hid (MapC w6 w.heap.size (fun i => if i = eid then G2 eid + 1 else G2 i) (ve + (j + 1))) := hm6
              have bw5 := bwA.trans (hb5.mono bwA.size)
              have bw6 := bw5.grown hg6 bw5.size (fun q hq => by cases hq; exact Nat.le_refl _)
              have hr6 : Hid (w6.ranges Tryd.prog 3 ptrR m (w.heap.size + 1) l.length D (lessL left xi) cnt1) := hr5.out.kept hg6 (by simp; omega) (by simp)
              have hs6 : w.heap.size + 1 < w6.heap.size := by have := hg6.size; have := hb5.size; omega
              have hgb : (G2 eid : Int) ≤ 100000 := by omega
              have hgb0 : (0 : Int) ≤ (G2 eid : Int) := by omega
              clear HGE
              generalize G2 eid = gq at hlk5 hrun hm6 HG3 hgb hgb0
              go_wp2
              go_roundw
              case rel => exact ⟨j + 1, _, by omega, by go_num, hr6, hm6, HG3, HK4, bw6, hs6⟩
              case measure => simp [intOf]; omega
        · obtain rfl : j = em := by omega
          obtain ⟨f1, f2, f3⟩ := HFIN.out G2 wr HM2.out HG2.out HK2.out
          have f1 : Hid _ := f1
          have f2 : Hid _ := f2
          have f3 : Hid _ := f3
          have hmeas : wr.rangeLeft m (w.heap.size + 1) = cnt1 := HR2.out.left_eq
          go_wp2
          go_roundw
          case rel => exact ⟨lessL left xi, cnt1, G2, HR2, HLH1, f1, f2, f3, hbq, hsq⟩
          case measure => rw [hmeas, hrg.left_eq]; exact hltc

end Go.Proofs.YtjggkhcomaiplaaDoor
