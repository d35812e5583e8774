/- Volumes, impl: idsOk, inodeOk. -/
import Derived.Test.YtchcdgkpaipkgaaGreatDoorRows
import Derived.Test.YtchcdgkpaipkgaaGreatDoorNb
import Derived.Test.YtchcdgkpaipkgaaGreatDoorMbt
import Derived.Test.YtchcdgkpaipkgaaGreatDoorMw
namespace Go.Proofs.YtchcdgkpaipkgaaGreatDoor

section
open Go.RowKit Go.Sort

/-- the numbers of a volume are right -/
def IdsR (x : Vo) : Prop := (2 ≤ x.next ∧ x.next ≤ 100000) ∧ (1 ≤ x.ins.length ∧ x.ins.length ≤ 16) ∧ (∀ j, j < x.ins.length → (1 ≤ x.ins[j]!.id ∧ x.ins[j]!.id ≤ x.next - 1) ∧ (0 < j → x.ins[j - 1]!.id < x.ins[j]!.id)) ∧ x.ins[0]!.id = 1 ∧ x.ins[0]!.kind = 2
/-- an inode is right by itself -/
def OneR (y : Ino) : Prop := (y.kind = 1 ∧ y.ents.length = 0 ∧ y.data.size ≤ 20) ∨ (y.kind = 2 ∧ y.data.size = 0 ∧ y.links = 1 ∧ dirB y.ents = true)
open Classical in
noncomputable def idsB (x : Vo) : Bool := decide (IdsR x)
open Classical in
noncomputable def oneB (y : Ino) : Bool := decide (OneR y)
open Classical in
theorem idsB_iff {x : Vo} : idsB x = true ↔ IdsR x := by unfold idsB; rw [decide_eq_true_eq]
open Classical in
theorem oneB_iff {y : Ino} : oneB y = true ↔ OneR y := by unfold oneB; rw [decide_eq_true_eq]
/-- the entries and links of a volume are right -/
def LinksR (x : Vo) : Prop := (∀ y ∈ x.ins, ∀ e ∈ y.ents, e.id ≠ 1 ∧ ∃ z ∈ x.ins, z.id = e.id) ∧ ∀ y ∈ x.ins, y.id ≠ 1 → y.links = namedV x y.id
open Classical in
noncomputable def linksB (x : Vo) : Bool := decide (LinksR x)
open Classical in
theorem linksB_iff {x : Vo} : linksB x = true ↔ LinksR x := by unfold linksB; rw [decide_eq_true_eq]
theorem right_parts {x : Vo} : RightV x ↔ IdsR x ∧ (∀ y ∈ x.ins, OneR y) ∧ LinksR x ∧ ∀ j, 0 < j → j < x.ins.length → Reach x 1 x.ins[j]!.id := by
  rw [rightV_iff]
  constructor
  · rintro ⟨h1, h2, h3, h4, h5, h6⟩
    refine ⟨⟨h1, h2, fun j hj => ⟨(h5 j hj).1, (h5 j hj).2.1⟩, h3, h4⟩, fun y hy => ?_, ⟨fun y hy e he => ?_, fun y hy hne => ?_⟩, h6⟩
    · obtain ⟨j, hj, rfl⟩ := mem_place hy
      rcases (h5 j hj).2.2 with ⟨k1, k2, k3, _⟩ | ⟨k1, k2, k3, k4, _⟩
      · exact .inl ⟨k1, by rw [k2]; rfl, k3⟩
      · exact .inr ⟨k1, k2, k3, dirB_iff.2 k4⟩
    · obtain ⟨j, hj, rfl⟩ := mem_place hy
      rcases (h5 j hj).2.2 with ⟨_, k2, _⟩ | ⟨_, _, _, _, _, k6⟩
      · rw [k2] at he; simp at he
      · exact k6 e he
    · obtain ⟨j, hj, rfl⟩ := mem_place hy
      rcases (h5 j hj).2.2 with ⟨_, _, _, k4⟩ | ⟨_, _, k3, _, k5, _⟩
      · exact k4
      · rcases k5 with k5 | k5
        · exact absurd k5 hne
        · rw [k3, k5]; rfl
  · rintro ⟨⟨h1, h2, h5, h3, h4⟩, ho, ⟨hl1, hl2⟩, h6⟩
    refine ⟨h1, h2, h3, h4, fun j hj => ⟨(h5 j hj).1, (h5 j hj).2, ?_⟩, h6⟩
    rcases ho _ (place_mem hj) with ⟨k1, k2, k3⟩ | ⟨k1, k2, k3, k4⟩
    · refine .inl ⟨k1, List.length_eq_zero_iff.1 k2, k3, ?_⟩
      refine hl2 _ (place_mem hj) fun hc => ?_
      have rise := rise_steps (l := x.ins) fun j h0 hj => (h5 j hj).2 h0
      have e0 := rise_at rise hj (k := 0) (by omega) (hc.trans h3.symm)
      rw [e0, h4] at k1; omega
    · refine .inr ⟨k1, k2, k3, dirB_iff.1 k4, ?_, fun e he => hl1 _ (place_mem hj) e he⟩
      by_cases hc : x.ins[j]!.id = 1
      · exact .inl hc
      · right
        have := hl2 _ (place_mem hj) hc
        rw [k3] at this; omega

set_option maxRecDepth 100000 in
set_option maxHeartbeats 1000000 in
theorem inodeOk_any (y : Ino) (s : Value) (w : World) (hT : Tabs w) (hC : CrcTab w) (hs : EntsAt w s y.ents) (he : y.ents.length ≤ 1048576) (hd : y.data.size ≤ 1048576) (hn : Shorts y.ents) :
    Calls Tryz.prog 44 #[valI y s] w fun e w' => e = .returned (.bool (oneB y)) ∧ Below w.heap.size w w' := by
  have HR : Hid (∀ b : Bool, (b = true ↔ OneR y) → oneB y = b) := fun b hb => bool_of oneB_iff hb
  have hDO := fun w' (b : Below w.heap.size w w') => iDirOk s y.ents w' (hT.below b) (hC.below b) (hs.below b) hn
  generalize oneB y = r at HR ⊢
  unfold OneR at HR
  generalize dirB y.ents = db at HR hDO
  obtain ⟨a2, ca2, rfl, -, -⟩ := hs
  obtain ⟨yi, yk, yl, yd, ye⟩ := y
  unfold valI
  dsimp only at *
  generalize ye.length = m at *
  clear hn
  by_cases h1 : yk = 1
  · subst h1
    have B0 := below_lit w (.cells #[.int .i64 yi, .int .i64 1, .int .i64 yl, .string yd, .slice a2 m ca2] 50)
    by_cases h2 : m = 0
    · have f2 : ((m : Int) == 0) = true := by simp [h2]
      by_cases h3 : yd.size ≤ 20
      · have f3 : decide ((yd.size : Int) ≤ 20) = true := by simp; omega
        have hr : Hid (r = true) := HR.out true (by simp [h2, h3])
        clear h2 h3
        go_enter Tryz.func44, Tryz.ntmps44
        go_wp2
        go_ret
        exact ⟨ret_bool hr.out.symm, B0⟩
      · have f3 : decide ((yd.size : Int) ≤ 20) = false := by simp; omega
        have hr : Hid (r = false) := HR.out false (by simp [h3])
        clear h2 h3
        go_enter Tryz.func44, Tryz.ntmps44
        go_wp2
        go_ret
        exact ⟨ret_bool hr.out.symm, B0⟩
    · have f2 : ((m : Int) == 0) = false := by simp [h2]
      have hr : Hid (r = false) := HR.out false (by simp [h2])
      clear h2
      go_enter Tryz.func44, Tryz.ntmps44
      go_wp2
      go_ret
      exact ⟨ret_bool hr.out.symm, B0⟩
  · by_cases h2 : yk = 2
    · subst h2
      have B0 := below_lit w (.cells #[.int .i64 yi, .int .i64 2, .int .i64 yl, .string yd, .slice a2 m ca2] 50)
      by_cases h3 : yd.size = 0
      · have f3 : ((yd.size : Int) == 0) = true := by simp [h3]
        by_cases h4 : yl = 1
        · subst h4
          have hDO := hDO _ B0
          have hr : Hid (r = db) := HR.out db (by simp [h3])
          clear h3
          go_enter Tryz.func44, Tryz.ntmps44
          go_wp2_with (go_at_call 55; refine hDO.mono ?_; rintro e w1 ⟨rfl, b1⟩)
          go_ret
          exact ⟨ret_bool hr.out.symm, B0.trans (b1.mono B0.size)⟩
        · have f4 : (yl == 1) = false := by simp [h4]
          have hr : Hid (r = false) := HR.out false (by simp [h4])
          clear h3 h4
          go_enter Tryz.func44, Tryz.ntmps44
          go_wp2
          go_ret
          exact ⟨ret_bool hr.out.symm, B0⟩
      · have f3 : ((yd.size : Int) == 0) = false := by simp [h3]
        have hr : Hid (r = false) := HR.out false (by simp [h3])
        clear h3
        go_enter Tryz.func44, Tryz.ntmps44
        go_wp2
        go_ret
        exact ⟨ret_bool hr.out.symm, B0⟩
    · have f1 : (yk == 1) = false := by simp [h1]
      have f2 : (yk == 2) = false := by simp [h2]
      have hr : Hid (r = false) := HR.out false (by simp [h1, h2])
      clear h1 h2
      go_enter Tryz.func44, Tryz.ntmps44
      go_wp2
      go_ret
      exact ⟨ret_bool hr.out.symm, below_lit w _⟩

/-- place j has a right number -/
def IdAt (x : Vo) (j : Nat) : Prop := (1 ≤ x.ins[j]!.id ∧ x.ins[j]!.id ≤ x.next - 1) ∧ (0 < j → x.ins[j - 1]!.id < x.ins[j]!.id)
/-- the number ahead of place k -/
def lastN (l : List Ino) : Nat → Int
  | 0 => 0
  | k + 1 => l[k]!.id
theorem lastN_zero (l : List Ino) : lastN l 0 = 0 := rfl
theorem lastN_succ (l : List Ino) (k : Nat) : lastN l (k + 1) = l[k]!.id := rfl

set_option maxRecDepth 100000 in
set_option maxHeartbeats 1000000 in
theorem idsOk_any (v : Value) (x : Vo) (w : World) (hl : x.ins.length ≤ 1048576) (hv : VolAt w v x) :
    Calls Tryz.prog 43 #[v] w fun e w' => e = .returned (.bool (idsB x)) ∧ Below w.heap.size w w' := by
  have HR : Hid (∀ b : Bool, (b = true ↔ (2 ≤ x.next ∧ x.next ≤ 100000) ∧ (1 ≤ x.ins.length ∧ x.ins.length ≤ 16) ∧ (∀ j, j < x.ins.length → IdAt x j) ∧ x.ins[0]!.id = 1 ∧ x.ins[0]!.kind = 2) → idsB x = b) := fun b hb => bool_of idsB_iff hb
  have HAT : Hid (∀ k, k < x.ins.length → (∀ j, j < k → IdAt x j) → (inB x.ins[k]!.id (lastN x.ins k + 1) (x.next - 1) = true ↔ IdAt x k)) := fun k hk h => by
    cases k with
    | zero => exact ⟨fun h1 => ⟨inB_le h1, fun h0 => by omega⟩, fun h1 => inB_mk h1.1.1 h1.1.2⟩
    | succ k =>
      have h2 := (h k (by omega)).1
      constructor
      · intro h1
        have := inB_le h1
        rw [lastN_succ] at this
        exact ⟨⟨by omega, by omega⟩, fun _ => by show x.ins[k]!.id < _; omega⟩
      · rintro ⟨h3, h4⟩
        have : x.ins[k]!.id < x.ins[k + 1]!.id := h4 (by omega)
        exact inB_mk (by rw [lastN_succ]; omega) (by omega)
  have HLB : Hid (∀ k, k ≤ x.ins.length → (∀ j, j < k → IdAt x j) → 0 ≤ lastN x.ins k ∧ (x.next ≤ 100000 → lastN x.ins k ≤ 100000)) := fun k hk h => by
    cases k with
    | zero => rw [lastN_zero]; omega
    | succ k => have h2 := (h k (by omega)).1; rw [lastN_succ]; omega
  generalize idsB x = r at HR ⊢
  obtain ⟨nx, l⟩ := x
  obtain ⟨u, rfl, aa, ca, rfl, -, hva⟩ := hv
  dsimp only at *
  obtain ⟨n, HN⟩ : ∃ n, Hid (n = l.length) := ⟨_, rfl⟩
  rw [← HN.out] at hl HR HAT HLB hva ⊢
  have S0 : (w.alloc (.cells #[.int .i64 nx, .slice aa n ca] 24)).heap.size = w.heap.size + 1 := by simp
  have B0 := below_lit w (.cells #[.int .i64 nx, .slice aa n ca] 24)
  by_cases h1 : inB nx 2 100000 = true
  · by_cases h2 : inB (n : Int) 1 16 = true
    · have hn := inB_le h2
      have hnx := inB_le h1
      obtain ⟨b0, o0, s0, rfl, hb0, hc0, -⟩ := hva 0 (by omega)
      have c0 := hc0.c0
      have c1 := hc0.c1
      rw [Nat.zero_mul, Nat.add_zero] at c0 c1
      clear hc0
      go_enter Tryz.func43, Tryz.ntmps43
      go_wp2_with (go_at_call 54; refine (btw_any _ _ _ _).mono ?_; rintro e w' ⟨rfl, rfl⟩)
      go_loopw [3, 20] (fun q i wr => ∃ k : Nat, k ≤ n ∧ i = .int .i64 k ∧ q = .int .i64 (lastN l k) ∧ Hid (∀ j, j < k → IdAt ⟨nx, l⟩ j) ∧ Below (w.heap.size + 1) (w.alloc (.cells #[.int .i64 nx, .slice (some ⟨b0, o0, none⟩) n ca] 24)) wr) (fun _ i _ => n - (intOf i).toNat)
      case atStart => exact ⟨0, Nat.zero_le _, rfl, rfl, fun t ht => by omega, Below.refl _ _⟩
      case round =>
        obtain ⟨k, hk, rfl, rfl, HK, hbel⟩ := hrel
        obtain ⟨p0, p1, HB⟩ := box_cells hbel
        obtain ⟨hlb1, hlb2⟩ := HLB.out k hk HK.out
        have hlb2 := hlb2 hnx.2
        by_cases hlt : k < n
        · obtain ⟨eb, eo, es, e, hb1, hc1, hen⟩ := hva k hlt
          simp only [Option.some.injEq, Addr.mk.injEq, and_true] at e
          obtain ⟨rfl, rfl⟩ := e
          have hc1 := hc1.below hb1 HB
          obtain ⟨ea, ec, rfl, -, -⟩ := hen
          have HX := HAT.out k hlt HK.out
          have HX1 : Hid (inB l[k]!.id (lastN l k + 1) (nx - 1) = true → ∀ j, j < k + 1 → IdAt ⟨nx, l⟩ j) := fun h j hj => by
            by_cases e : j = k
            · rw [e]; exact HX.1 h
            · exact HK.out j (by omega)
          have HX2 : Hid (inB l[k]!.id (lastN l k + 1) (nx - 1) = false → r = false) := fun h => HR.out false (by simp only [Bool.false_eq_true, false_iff]; rintro ⟨_, _, h5, _⟩; rw [HX.2 (h5 k hlt)] at h; cases h)
          have HX3 : Hid (lastN l (k + 1) = l[k]!.id) := rfl
          clear HX
          generalize lastN l k = la at HX1 HX2 hlb1 hlb2 ⊢
          generalize l[k]! = y at hc1 HX1 HX2 HX3
          obtain ⟨yi, yk, yl, yd, ye⟩ := y
          dsimp only at hc1 HX1 HX2 HX3
          have k0 := hc1.c0
          have k1 := hc1.c1
          have k2 := hc1.c2
          have k3 := hc1.c3
          have k4 := hc1.c4
          have hBT := fun w' => btw_any yi (la + 1) (nx - 1) w'
          generalize inB yi (la + 1) (nx - 1) = q at HX1 HX2 hBT
          have hbw : wr.heap.size ≠ w.heap.size := by have := hbel.size; rw [S0] at this; omega
          have hbw2 : w.heap.size < wr.heap.size := by have := hbel.size; rw [S0] at this; omega
          clear hc1 hva
          cases q
          · have hr : Hid _ := HX2.out rfl
            go_wp2_with (go_at_call 54; refine (hBT _).mono ?_; rintro e w' ⟨rfl, rfl⟩)
            go_ret
            exact ⟨ret_bool hr.out.symm, HB.alloc HB.size _⟩
          · have HX : Hid _ := HX1.out rfl
            go_wp2_with (go_at_call 54; refine (hBT _).mono ?_; rintro e w' ⟨rfl, rfl⟩)
            go_roundw
            case rel => exact ⟨k + 1, by omega, by go_num, by rw [HX3.out], HX, hbel.alloc (by have := hbel.size; rw [S0] at this; exact this) _⟩
            case measure => simp [intOf]; omega
        · obtain rfl : k = n := by omega
          have HE : Hid (∀ b : Bool, (b = true ↔ l[0]!.id = 1 ∧ l[0]!.kind = 2) → r = b) := fun b hb => HR.out b (by rw [hb]; exact ⟨fun h => ⟨by omega, by omega, HK.out, h⟩, fun h => h.2.2.2⟩)
          have x0 := (HB.cell (p := ⟨b0, o0, none⟩) hb0).trans c0
          have x1 := (HB.cell (p := ⟨b0, o0 + 1, none⟩) hb0).trans c1
          clear HR HAT HLB c0 c1
          generalize l[0]!.id = i0 at x0 HE
          generalize l[0]!.kind = k0 at x1 HE
          by_cases h3 : i0 = 1
          · subst h3
            by_cases h4 : k0 = 2
            · subst h4
              have hr : Hid (r = true) := HE.out true (by simp)
              go_wp2
              go_ret
              exact ⟨ret_bool hr.out.symm, HB⟩
            · have f4 : (k0 == 2) = false := by simp [h4]
              have hr : Hid (r = false) := HE.out false (by simp [h4])
              clear h4
              go_wp2
              go_ret
              exact ⟨ret_bool hr.out.symm, HB⟩
          · have f3 : (i0 == 1) = false := by simp [h3]
            have hr : Hid (r = false) := HE.out false (by simp [h3])
            clear h3
            go_wp2
            go_ret
            exact ⟨ret_bool hr.out.symm, HB⟩
    · have hr : Hid (r = false) := HR.out false (by simp only [Bool.false_eq_true, false_iff]; rintro ⟨_, h5, _⟩; exact h2 (inB_mk (by omega) (by omega)))
      have h2 : inB (n : Int) 1 16 = false := by simpa using h2
      clear HR
      go_enter Tryz.func43, Tryz.ntmps43
      go_wp2_with (go_at_call 54; refine (btw_any _ _ _ _).mono ?_; rintro e w' ⟨rfl, rfl⟩)
      go_ret
      exact ⟨ret_bool hr.out.symm, B0⟩
  · have hr : Hid (r = false) := HR.out false (by simp only [Bool.false_eq_true, false_iff]; rintro ⟨h5, _⟩; exact h1 (inB_mk h5.1 h5.2))
    have h1 : inB nx 2 100000 = false := by simpa using h1
    clear HR
    go_enter Tryz.func43, Tryz.ntmps43
    go_wp2_with (go_at_call 54; refine (btw_any _ _ _ _).mono ?_; rintro e w' ⟨rfl, rfl⟩)
    go_ret
    exact ⟨ret_bool hr.out.symm, B0⟩
end

end Go.Proofs.YtchcdgkpaipkgaaGreatDoor
