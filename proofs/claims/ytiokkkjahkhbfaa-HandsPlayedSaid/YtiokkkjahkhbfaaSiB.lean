/- Part of a proof: see the text with the theorem. -/
import Derived.Test.YtiokkkjahkhbfaaSiA
import Derived.Laws.BytesString
import Derived.Laws.Externs
import Derived.Room.MakeNoZero
import Derived.Laws.StructEq
set_option linter.all false
namespace Go.Sh
open Go
variable {P:Program} {φ:Inj} {A:AW} {w:World}
theorem src_ok (hM:MR P φ A w) {x x':Value} (hx:VR φ x x') {m size:Nat} {new:List Value} (hl:lenA x=some m) (hs:srcCells A size x=some new) (hn:new.length=m * size) :
  ∃ news,LR φ new news∧(Builtin.lenOf x').run P w=.ok m w∧(∀ k j,j≤m→∃ q,(Builtin.firstCells size j x').run P { w with drawn:=k }=.ok q { w with drawn:=k }∧q.toList=news.take (j * size)):=by
 cases hx with
 | slNil =>
  cases hl; cases hs
  clear hn
  refine ⟨[],.nil,by simp [Builtin.lenOf],fun k j hj=>⟨#[],by simp [Builtin.firstCells],by simp⟩⟩
 | sl ha hl' hc hr hx =>
  rename_i a a' n c c'
  have e:n=m:=opt_some hl
  subst e
  clear hn
  change (bif Nat.beq (n * size) 0 then some [] else rd A a.block a.off (n * size))=some new at hs
  cases hz:Nat.beq (n * size) 0 with
  | true =>
   rw [hz] at hs
   cases hs
   have e0:=Nat.eq_of_beq_eq_true hz
   refine ⟨[],.nil,by simp [Builtin.lenOf],fun k j hj=>⟨#[],?_,by simp⟩⟩
   have h4:j * size=0:=by have:=Nat.mul_le_mul_right size hj; omega
   simp [Builtin.firstCells,h4,loadCells,loadCellsFrom]
  | false =>
  rw [hz,cond_false] at hs
  obtain ⟨cs',h1,h2,h3⟩:=rd_ok hM ha hs
  refine ⟨cs',h1,by simp [Builtin.lenOf],fun k j hj=>?_⟩
  have h4:∀ i v,(cs'.take (j * size))[i]?=some v→({ w with drawn:=k }:World).cell? (a'.add i)=some v:=by
   intro i v hv
   have hi:=(List.getElem?_eq_some_iff.1 hv).1
   rw [List.getElem?_take_of_lt (by simp at hi; omega)] at hv
   exact h3 i v hv
  have h5:=run_loadCells_list (P:=P) { w with drawn:=k } a' (cs'.take (j * size)) h4
  have h6:(cs'.take (j * size)).length=j * size:=by
   rw [List.length_take,h2]
   exact Nat.min_eq_left (Nat.mul_le_mul_right _ hj)
  rw [h6] at h5
  exact ⟨_,by simpa [Builtin.firstCells] using h5,by simp⟩
 | sl0 ha =>
  rename_i a a'
  cases hl
  clear hn
  have hz:Nat.beq (0 * size) 0=true:=by rw [Nat.zero_mul]; rfl
  change (bif Nat.beq (0 * size) 0 then some [] else rd A a.block a.off (0 * size))=some new at hs
  rw [hz] at hs
  cases hs
  refine ⟨[],.nil,by simp [Builtin.lenOf],fun k j hj=>⟨#[],?_,by simp⟩⟩
  have:j=0:=by omega
  subst this
  simp [Builtin.firstCells,loadCells,loadCellsFrom]
 | string s =>
  simp only [lenA,lenL0] at hl
  cases hl
  simp only [srcCells,mapL_eq] at hs
  cases hs
  refine ⟨(bytesOf s).map byteV,LR_self (fun v hv=>?_),by simp [Builtin.lenOf]; rfl,fun k j hj=>⟨_,by simp [Builtin.firstCells]; rfl,?_⟩⟩
  ·obtain ⟨b,_,rfl⟩:=List.mem_map.1 hv
   exact .int _ _
  ·have h1:(s.extract 0 j).data.toList=(bytesOf s).take j:=by simp [bytesOf]
   have h2:j * size=j:=by
    simp only [List.length_map] at hn
    rcases Nat.eq_zero_or_pos (bytesOf s).length with h | h
    ·have:j=0:=by omega
     subst this; simp
    ·have:size=1:=by
      have h3:(bytesOf s).length * 1=(bytesOf s).length * size:=by omega
      exact (Nat.eq_of_mul_eq_mul_left h h3).symm
     subst this; simp
   rw [h2,← List.map_take,← h1]
   simp
   rfl
 | _=>cases hl
theorem addr_add_VR {a a':Addr} (h:AddrR φ a a') (j:Nat):(a.add j).block=a.block∧(a.add j).off=a.off + j∧AddrR φ (a.add j) (a'.add j):=⟨add_block a j,add_off a j,h.add j⟩
theorem append_ok (hM:MR P φ A w) {ts:Array TypeId} {t u:TypeId} (h0:ts[0]?=some t) (h1:ts[1]?=some u) (hu:isList P u=true) (ty:TypeId) {args:Array Value} {s s' x x':Value}
  (ha0:args[0]?=some s') (ha1:args[1]?=some x') (hs:VR φ s s') (hx:VR φ x x') :
  OpOk P φ A w (appendA P A t s x) ((do pure (.value (← Builtin.append_ ts ty args):Next):Sem Next).run P w):=by
 obtain ⟨d,hud,hd⟩:=isList_some hu
 -- what the slice is
 have key:∀ (base base':Option Addr) (n cap cap':Nat),s=.slice base n cap→s'=.slice base' n cap'→n≤cap→cap≤cap' →
   ((base=none∧base'=none∧n=0∧cap'=0)∨(∃ a a',base=some a∧base'=some a'∧BlkR φ a.block a'.block∧((n=0∧cap'=0)∨(AddrR φ a a'∧(a.spot=none→RoomR φ a.block a' cap')))∧(a.spot=some 2→cap'=cap))) →
   OpOk P φ A w (appendA P A t s x) ((do pure (.value (← Builtin.append_ ts ty args):Next):Sem Next).run P w):=by
  rintro base base' n cap cap' rfl rfl hnc hcc hb
  unfold appendA
  simp only
  cases he:elemA P t with
  | none=>exact trivial
  | some e =>
   have ht:=elemA_some he
   simp only
   cases hsz:szOf P e with
   | none=>exact trivial
   | some size =>
    simp only
    cases hl:lenA x with
    | none=>exact trivial
    | some m =>
     simp only
     cases hsc:srcCells A size x with
     | none=>exact trivial
     | some new =>
      simp only [lenL0]
      cases hc:(smallT P e && (Nat.ble (n + m) 1000000 && Nat.beq new.length (m * size))) with
      | false=>exact trivial
      | true =>
       simp only [Bool.and_eq_true] at hc
       obtain ⟨hc1,hc2,hc3⟩:=hc
       have hc2:=Nat.le_of_ble_eq_true hc2
       have hc3:=Nat.eq_of_beq_eq_true hc3
       obtain ⟨i,z,g1,g2,g3,g4⟩:=smallT_some hc1
       have hsize:i.size=size:=by rw [szOf_info g1] at hsz; exact opt_some hsz
       obtain ⟨news,hnews,hlen,hfc⟩:=src_ok hM hx hl hsc hc3
       have hnl:news.length=m * size:=by rw [← hnews.length]; exact hc3
       have hfc':∀ k,(Builtin.firstCells i.size m x').run P { w with drawn:=k }=.ok ⟨news⟩ { w with drawn:=k }:=by
        intro k
        obtain ⟨q,q1,q2⟩:=hfc k m (Nat.le_refl _)
        have:q=⟨news⟩:=by
         apply Array.ext'
         rw [q2,← hnl]
         exact List.take_length
        rw [hsize,q1,this]
       have hfw:(Builtin.firstCells i.size m x').run P w=.ok ⟨news⟩ w:=hfc' w.drawn
       simp only [cond_true,appendB]
       cases hm:Nat.beq m 0 with
       | true =>
        have hm0:=Nat.eq_of_beq_eq_true hm
        subst hm0
        have hn0:news=[]:=List.eq_nil_of_length_eq_zero (by simpa using hnl)
        subst hn0
        have hrun:=run_append_at (P:=P) (w:=w) (ty:=ty) h0 h1 hud hd ht g1 ha0 ha1 hlen hfw (by omega)
        simp only [cond_true]
        refine OpOk.same hM hs (run_v ?_)
        rw [hrun]
        cases base' <;> simp [storeCells]
       | false =>
        have hm0:m ≠ 0:=by rintro rfl; simp at hm
        simp only [cond_false]
        -- new cells
        have grown:∀ (A0:AW) (φ0:Inj) (old:List Value) (oldA:List Value) (cap1:Nat),cap1=cap'→MR P φ0 A0 w→Ext φ A w φ0 A0 w→φ.le φ0→LR φ0 oldA old→old.length=n * size→cap1 < n + m →
          (∀ k,(Builtin.firstCells i.size n (.slice base' n cap1)).run P { w with drawn:=k }=.ok ⟨old⟩ { w with drawn:=k }) →
          OpOk P φ A w (newR A0 (.cells (oldA++new) e false) (rowV (n + m))) ((do pure (.value (← Builtin.append_ ts ty args):Next):Sem Next).run P w):=by
         rintro A0 φ0 old oldA cap1 rfl hM0 hE0 hle0 hold holdl hlt hfo
         obtain ⟨nc,k,q1,q2⟩:=run_append_grown (P:=P) (w:=w) (ty:=ty) h0 h1 hud hd ht g1 g3 ha0 ha1 hlen hfo hfc' hlt hc2 g2
         have hex:(⟨old⟩++⟨news⟩++Builtin.zeroCells z.cells (nc - (n + m)):Array Value)=⟨(old++news)++(Builtin.zeroCells z.cells (nc - (n + m))).toList⟩:=by
          apply Array.ext'; simp
         obtain ⟨φ',r1,r2,r3,r4⟩:=newCells (hM0.drawn k) (e:=e) (c:=oldA++new) (cc:=old++news) (by simpa using hold.append (hnews.mono hle0)) (Builtin.zeroCells z.cells (nc - (n + m))).toList (fz:=(0,0)) (fun off _=>by simp)
         rw [hex] at q2
         refine ⟨φ',_,r1,hE0.trans ((Ext.drawn w k).trans r2),.inl ⟨_,run_v q2,?_⟩⟩
         refine new_row r4 (Nat.le_refl _) q1 ?_
         rw [hsz]
         simp only [Option.getD_some,List.length_append,Array.length_toList,size_zeroCells,g4,hsize,holdl,hnl,← Nat.add_mul]
         exact Nat.mul_le_mul_right _ (by omega)
        rcases hb with ⟨rfl,rfl,hn,hcap⟩ | ⟨a,a',rfl,rfl,hblk,hb,hexa⟩
        ·subst hn hcap
         have:=grown A φ [] [] 0 rfl hM (Ext.refl _ _ _) φ.le_refl .nil (by simp) (by omega) (fun k=>by simp [Builtin.firstCells])
         simpa using this
        ·simp only
         cases hle:Nat.ble (n + m) cap with
         | true =>
          have hle:=Nat.le_of_ble_eq_true hle
          simp only [cond_true]
          rcases hb with ⟨rfl,rfl⟩ | ⟨hadd,hroom⟩
          ·omega
          ·obtain ⟨s1,s2,s3⟩:=addr_add_VR hadd (n * size)
           cases hw:wr A a.block (a.off + n * size) new with
           | none=>exact trivial
           | some A' =>
            rw [← s1,← s2] at hw
            obtain ⟨w',r1,r2,r3⟩:=wr_ok hM s3 hnews hw
            have hrun:=run_append_at (P:=P) (w:=w) (ty:=ty) h0 h1 hud hd ht g1 ha0 ha1 hlen hfw (by omega)
            simp only [hsize,r1,Result.andThen_ok] at hrun
            exact ⟨φ,w',r2,r3,.inl ⟨_,run_v hrun,.sl hadd hle hcc hroom hexa⟩⟩
         | false =>
          simp only [cond_false]
          cases hsp:a.spot with
          | some q =>
           simp only [isExact]
           cases hq:Nat.beq q 2 with
           | false=>exact trivial
           | true =>
            have hq:=Nat.eq_of_beq_eq_true hq
            subst hq
            simp only [cond_true]
            have hcap:=hexa hsp
            subst hcap
            have hno:¬ n + m≤cap':=fun h=>by rw [Nat.ble_eq_true_of_le h] at hle; cases hle
            cases hso:srcCells A size (.slice (some a) n cap') with
            | none=>exact trivial
            | some old =>
             simp only [appendCopy,lenL0,appL_eq]
             cases hol:Nat.beq old.length (n * size) with
             | false=>exact trivial
             | true =>
              have hol:=Nat.eq_of_beq_eq_true hol
              obtain ⟨olds,ho1,ho2,ho3⟩:=src_ok hM hs (m:=n) rfl hso hol
              have hon:olds.length=n * size:=by rw [← ho1.length]; exact hol
              exact grown A φ olds old cap' rfl hM (Ext.refl _ _ _) φ.le_refl ho1 hon (by omega) (fun k=>by
               obtain ⟨q,q1,q2⟩:=ho3 k n (Nat.le_refl _)
               have:q=⟨olds⟩:=by
                apply Array.ext'
                rw [q2,← hon]
                exact List.take_length
               rw [hsize,q1,this])
          | none =>
           simp only [Option.isNone_none,cond_true,cond_false,isExact,appendNew]
           cases hg:A.heap.get a.block with
           | none=>exact trivial
           | some o =>
            cases o with
            | cells c e' ro =>
             simp only [lenL0]
             cases hcd:(!ro && (singles new && (Nat.ble A.lim a.block && (Nat.beq (a.off + n * size) c.length && (Nat.beq e e' && Nat.beq (Nat.mod a.off size) 0))))) with
             | false=>exact trivial
             | true =>
              simp only [Bool.and_eq_true,Bool.not_eq_true'] at hcd
              obtain ⟨t1,t2,t3,t4,t5,t6⟩:=hcd
              have t3:=Nat.le_of_ble_eq_true t3
              have t4:=Nat.eq_of_beq_eq_true t4
              have t5:=Nat.eq_of_beq_eq_true t5
              subst t1 t5
              simp only [cond_true,appL_eq,dropL_eq]
              obtain ⟨c1,n1,s1,d1,oc,u1,u2,cc,e2,fz,u3,u4⟩:=hM.live hg hblk.ne
              have hun:=u4.unit
              rw [hsz] at hun
              simp only [Option.getD_some] at hun
              subst hun u3
              have hc1:c1=a'.block:=by
               rcases hblk with h | ⟨n2,s2,d2,h⟩
               ·rw [u1] at h; cases h
               ·rw [u1] at h; injection h with h; injection h
              subst hc1
              by_cases hin:n + m≤cap'
              ·-- there is room
               rcases hb with ⟨rfl,rfl⟩ | ⟨hadd,hroom⟩
               ·omega
               ·have hrm:=hroom hsp _ _ _ _ u1
                have hoff:a'.off=a.off + d1∧a'.spot=none:=by
                 rcases hadd with h | ⟨c3,n3,s3,d3,h,_,h5,h6⟩
                 ·rw [u1] at h; cases h
                 ·rw [u1] at h; injection h with h; injection h with _ _ _ h7; subst h7; exact ⟨h5,h6⟩
                have hms:(n + m) * s1≤cap' * s1:=Nat.mul_le_mul_right _ hin
                rw [Nat.add_mul] at hms
                have hcsz:=u4.size
                have hst:=run_storeCells (P:=P) (a:=a'.add (n * s1)) (by rw [add_of_none hoff.2]) (e:=e2) (fz:=fz) news 0 w cc (by rw [add_block]; exact u2) (singles_LR hnews t2) (by rw [add_off,hnl]; omega) (fun off ho=>u4.free rfl off (by omega))
                have hrun:=run_append_at (P:=P) (w:=w) (ty:=ty) h0 h1 hud hd ht g1 ha0 ha1 hlen hfw hin
                simp only [hsize,hst,Result.andThen_ok] at hrun
                rw [add_block,add_off] at hrun
                have hfit:=u4.fits
                have ho:OR P φ (.cells (c.drop a.off++new) e false) (.cells ⟨cc.take (a'.off + n * s1 + 0)++(news++cc.drop (a'.off + n * s1 + 0 + news.length))⟩ e2 fz) n1 s1 a'.off:=by
                 refine ⟨_,_,_,rfl,⟨u4.elem,?_,by rw [hsz]; rfl,?_,?_,u4.free,fun hro=>by rw [hoff.1]; exact Nat.dvd_add (Nat.dvd_of_mod_eq_zero (Nat.eq_of_beq_eq_true t6)) (u4.mult hro)⟩⟩
                 ·simp only [List.length_append,List.length_take,List.length_drop]; omega
                 ·simp only [List.length_append,List.length_drop]; omega
                 ·have e5:(c.drop a.off++new).length=n * s1 + news.length:=by simp only [List.length_append,List.length_drop,hc3,hnl]; omega
                  have e6:((cc.take (a'.off + n * s1 + 0)++(news++cc.drop (a'.off + n * s1 + 0 + news.length))).drop a'.off).take (c.drop a.off++new).length=((cc.drop d1).take c.length).drop a.off++news:=by
                   rw [e5]
                   apply List.ext_getElem?
                   intro q
                   have e7:(((cc.drop d1).take c.length).drop a.off).length=n * s1:=by simp only [List.length_take,List.length_drop]; omega
                   by_cases hq:q < n * s1 + news.length
                   ·rw [List.getElem?_take_of_lt hq,List.getElem?_drop,app3]
                    have e8:(cc.take (a'.off + n * s1 + 0)).length=a'.off + n * s1:=by simp only [List.length_take]; omega
                    rw [e8]
                    by_cases hq1:q < n * s1
                    ·rw [if_pos (by omega),List.getElem?_take_of_lt (by omega),List.getElem?_append_left (by omega),List.getElem?_drop,List.getElem?_take_of_lt (by omega),List.getElem?_drop]
                     congr 1; omega
                    ·rw [if_neg (by omega),if_pos (by omega),List.getElem?_append_right (by omega),e7]
                     congr 1; omega
                   ·rw [List.getElem?_eq_none (by simp only [List.length_take]; omega),List.getElem?_eq_none (by simp only [List.length_append,e7]; omega)]
                  rw [e6]
                  exact (u4.cells.drop _).append hnews
                obtain ⟨φ',v1,v2,v3,v4⟩:=hM.move t3 u1 ho
                refine ⟨φ',_,v1,v2,.inl ⟨_,run_v hrun,?_⟩⟩
                refine .sl (.inr ⟨_,_,_,_,v4,rfl,by simp,hoff.2⟩) (Nat.le_refl _) hin (fun _ c9 n9 s9 d9 h9=>?_) (fun hx9=>by cases hx9)
                change φ' A.next=_ at h9
                rw [v4] at h9
                injection h9 with h9
                injection h9 with w1 w2 w3
                subst w1 w2 w3
                exact hrm
              ·-- there is none
               obtain ⟨hK,hE⟩:=hM.kill t3 (by rw [u1]; simp)
               have hfit:=u4.fits
               have hcsz:=u4.size
               have hdrop:c.drop a.off=(c.drop a.off).take (n * s1):=by rw [List.take_of_length_le]; simp; omega
               rcases hb with ⟨hn0,hc0⟩ | ⟨hadd,hroom⟩
               ·have hnil:c.drop a.off=[]:=by
                 apply List.eq_nil_of_length_eq_zero
                 rw [hn0] at t4
                 simp; omega
                rw [hnil]
                have:=grown _ _ [] [] cap' rfl hK hE Inj.le_kill .nil (by rw [hn0]; simp) (by omega) (fun k=>by rw [hn0]; simp [Builtin.firstCells,loadCells,loadCellsFrom])
                simpa using this
               ·have hoff:a'.off=a.off + d1∧a'.spot=none:=by
                 rcases hadd with h | ⟨c3,n3,s3,d3,h,_,h5,h6⟩
                 ·rw [u1] at h; cases h
                 ·rw [u1] at h; injection h with h; injection h with _ _ _ h7; subst h7; exact ⟨h5,h6⟩
                have hlr:=u4.part a.off (n * s1) (by omega)
                refine grown _ _ ((cc.drop (d1 + a.off)).take (n * s1)) (c.drop a.off) cap' rfl hK hE Inj.le_kill (by rw [hdrop]; exact hlr.mono Inj.le_kill) (by simp; omega) (by omega) (fun k=>?_)
                have h4:∀ q v,((cc.drop (d1 + a.off)).take (n * s1))[q]?=some v→({ w with drawn:=k }:World).cell? (a'.add q)=some v:=by
                 intro q v hv
                 have hq:=(List.getElem?_eq_some_iff.1 hv).1
                 rw [add_of_none hoff.2,cell_lit (w:={ w with drawn:=k }) u2,hoff.1]
                 rw [List.getElem?_take_of_lt (by simp at hq; omega),List.getElem?_drop] at hv
                 simpa [Nat.add_comm,Nat.add_left_comm,Nat.add_assoc] using hv
                have h5:=run_loadCells_list (P:=P) { w with drawn:=k } a' _ h4
                have h6:((cc.drop (d1 + a.off)).take (n * s1)).length=n * s1:=by simp; omega
                rw [h6] at h5
                simpa [Builtin.firstCells,hsize] using h5
            | _=>exact trivial
 cases hs with
 | slNil=>exact key none none 0 0 0 rfl rfl (Nat.le_refl _) (Nat.le_refl _) (.inl ⟨rfl,rfl,rfl,rfl⟩)
 | sl ha hl hc hr hx=>exact key _ _ _ _ _ rfl rfl hl hc (.inr ⟨_,_,rfl,rfl,ha.blk,.inr ⟨ha,hr⟩,hx⟩)
 | sl0 ha=>exact key _ _ 0 0 0 rfl rfl (Nat.le_refl _) (Nat.le_refl _) (.inr ⟨_,_,rfl,rfl,ha,.inl ⟨rfl,rfl⟩,fun _=>rfl⟩)
 | _=>exact trivial
end Go.Sh
namespace Go.Sh
open Go
variable {P:Program} {φ:Inj} {A:AW} {w:World}
theorem copy_ok (hM:MR P φ A w) {ts:Array TypeId} {t:TypeId} (h0:ts[0]?=some t) (ty:TypeId) {args:Array Value} {s s' x x':Value}
  (ha0:args[0]?=some s') (ha1:args[1]?=some x') (hs:VR φ s s') (hx:VR φ x x') :
  OpOk P φ A w (copyV P A t s x) ((do pure (.value (← Builtin.copy_ ts ty args):Next):Sem Next).run P w):=by
 have key:∀ (base base':Option Addr) (n cap cap':Nat),s=.slice base n cap→s'=.slice base' n cap' →
   ((base=none∧base'=none∧n=0)∨(∃ a a',base=some a∧base'=some a'∧(n=0∨AddrR φ a a'))) →
   OpOk P φ A w (copyV P A t s x) ((do pure (.value (← Builtin.copy_ ts ty args):Next):Sem Next).run P w):=by
  rintro base base' n cap cap' rfl rfl hb
  unfold copyV
  simp only
  cases he:elemA P t with
  | none=>exact trivial
  | some e =>
   have ht:=elemA_some he
   simp only
   cases hsz:szOf P e with
   | none=>exact trivial
   | some size =>
    simp only
    cases hl:lenA x with
    | none=>exact trivial
    | some m =>
     simp only
     cases hsc:srcCells A size x with
     | none=>exact trivial
     | some new =>
      simp only [lenL0]
      cases hc3:Nat.beq new.length (m * size) with
      | false=>exact trivial
      | true =>
       have hc3:=Nat.eq_of_beq_eq_true hc3
       obtain ⟨news,hnews,hlen,hfc⟩:=src_ok hM hx hl hsc hc3
       have hmin:minN m n=Nat.min m n:=by
        unfold minN
        by_cases hh:m≤n
        ·rw [Nat.ble_eq_true_of_le hh]; exact (Nat.min_eq_left hh).symm
        ·have h7:Nat.ble m n=false:=by
          cases h8:Nat.ble m n with
          | false=>rfl
          | true=>exact absurd (Nat.le_of_ble_eq_true h8) hh
         rw [h7]
         exact (Nat.min_eq_right (Nat.le_of_not_le hh)).symm
       simp only [cond_true,hmin]
       obtain ⟨q,q1,q2⟩:=hfc w.drawn (Nat.min m n) (Nat.min_le_left _ _)
       have q1:(Builtin.firstCells size (Nat.min m n) x').run P w=.ok q w:=q1
       have hv:VR φ (intV (Nat.min m n)) (goInt (Nat.min m n:Nat)):=.int _ _
       rcases hb with ⟨rfl,rfl,hn0⟩ | ⟨a,a',rfl,rfl,hb⟩
       ·simp only [copyTo]
        have h00:Nat.min m n=0:=by rw [hn0]; exact Nat.min_zero m
        rw [h00] at q1 q2 hv
        refine OpOk.same hM hv (run_v ?_)
        simp [Builtin.copy_,h0,ha0,ha1,run_underlying' ht,hlen,run_sizeOf hsz,hn0,q1]
       ·simp only [copyTo,takeL_eq]
        cases hk:Nat.beq (Nat.min m n) 0 with
        | true =>
         have hk:=Nat.eq_of_beq_eq_true hk
         rw [hk] at q1 q2 hv
         have hq:q=#[]:=Array.ext' (by rw [q2]; simp)
         subst hq
         have hk':min m n=0:=hk
         refine OpOk.same hM hv (run_v ?_)
         simp [Builtin.copy_,h0,ha0,ha1,run_underlying' ht,hlen,run_sizeOf hsz,hk',q1,storeCells]
        | false =>
         simp only [cond_false]
         cases hw:wr A a.block a.off (new.take (Nat.min m n * size)) with
         | none=>exact trivial
         | some A' =>
          simp only [wR]
          have hlr:=hnews.take (Nat.min m n * size)
          rcases hb with hn | hadd
          ·subst hn
           have h00:Nat.min m 0=0:=Nat.min_zero m
           rw [h00] at hk; cases hk
          ·obtain ⟨w',r1,r2,r3⟩:=wr_ok hM hadd hlr hw
           refine ⟨φ,w',r2,r3,.inl ⟨_,run_v (x:=goInt (Nat.min m n:Nat)) ?_,.int _ _⟩⟩
           have q1':(Builtin.firstCells size (min m n) x').run P w=.ok q w:=q1
           have r1':(storeCells a' q.toList).run P w=.ok () w':=by rw [q2]; exact r1
           simp [Builtin.copy_,h0,ha0,ha1,run_underlying' ht,hlen,run_sizeOf hsz,q1',r1']
 cases hs with
 | slNil=>exact key none none 0 0 0 rfl rfl (.inl ⟨rfl,rfl,rfl⟩)
 | sl ha hl hc hr hx=>exact key _ _ _ _ _ rfl rfl (.inr ⟨_,_,rfl,rfl,.inr ha⟩)
 | sl0 ha=>exact key _ _ 0 0 0 rfl rfl (.inr ⟨_,_,rfl,rfl,.inl rfl⟩)
 | _=>exact trivial
theorem getElem_toList {α:Type} {ts:Array α} {l:List α} {i:Nat} {t:α} (h:ts.toList=l) (hl:l[i]?=some t):ts[i]?=some t:=by
 rw [← Array.getElem?_toList,h,hl]
theorem len_ok (hM:MR P φ A w) {ts:Array TypeId} (ty:TypeId) {args args':List Value} (hx:LR φ args args') :
  OpOk P φ A w (len1 P A ts.toList args) ((do pure (.value (← Builtin.len_ ts ty ⟨args'⟩):Next):Sem Next).run P w):=by
 cases hts:ts.toList with
 | nil=>exact trivial
 | cons t tl =>
  have h0:ts[0]?=some t:=getElem_toList hts rfl
  cases hx with
  | nil=>exact trivial
  | cons hx hr =>
   rename_i x x' l l'
   simp only [len1]
   unfold lenB
   cases hu:P.underlying t with
   | none=>exact trivial
   | some d =>
    cases d with
    | slice e =>
     cases hx with
     | slNil=>exact OpOk.same hM (.int _ _) (run_v (by simp [Builtin.len_,h0,run_underlying' hu]; rfl))
     | sl=>exact OpOk.same hM (.int _ _) (run_v (by simp [Builtin.len_,h0,run_underlying' hu]; rfl))
     | sl0=>exact OpOk.same hM (.int _ _) (run_v (by simp [Builtin.len_,h0,run_underlying' hu]; rfl))
     | _=>exact trivial
    | string =>
     cases hx with
     | string s=>exact OpOk.same hM (.int _ _) (run_v (by simp [Builtin.len_,h0,run_underlying' hu,lenL0]; rfl))
     | _=>exact trivial
    | map k e =>
     cases hx with
     | mapNil=>exact OpOk.same hM (.int _ _) (run_v (by simp [Builtin.len_,h0,run_underlying' hu]; rfl))
     | map h =>
      rename_i r r'
      show OpOk P φ A w (lenOfMap A r) _
      unfold lenOfMap entriesA
      cases hg:A.heap.get r with
      | none=>exact trivial
      | some o =>
       cases o with
       | map es c =>
        obtain ⟨n,s,d,oc,g1,g2,es',rfl,g4⟩:=hM.objB h hg
        refine OpOk.same hM (.int _ _) (run_v ?_)
        have hgo:(getObj r').run P w=.ok (.map ⟨es'⟩ c) w:=by simp [getObj,Sem.run,g2]
        simp [Builtin.len_,h0,run_underlying' hu,hgo,lenL0,g4.length]
        rfl
       | _=>exact trivial
     | _=>exact trivial
    | array n e=>exact OpOk.same hM (.int _ _) (run_v (by simp [Builtin.len_,h0,run_underlying' hu]; rfl))
    | pointer a =>
     simp only
     cases hn:arrN P a with
     | none=>exact trivial
     | some p =>
      have hu2:=arrN_some hn
      exact OpOk.same hM (.int _ _) (run_v (by simp [Builtin.len_,h0,run_underlying' hu,run_underlying' hu2]; rfl))
    | _=>exact trivial
theorem cap_ok (hM:MR P φ A w) {ts:Array TypeId} (ty:TypeId) {args args':List Value} (hx:LR φ args args') :
  OpOk P φ A w (cap1 P A ts.toList args) ((do pure (.value (← Builtin.cap_ ts ty ⟨args'⟩):Next):Sem Next).run P w):=by
 cases hts:ts.toList with
 | nil=>exact trivial
 | cons t tl =>
  have h0:ts[0]?=some t:=getElem_toList hts rfl
  cases hx with
  | nil=>exact trivial
  | cons hx hr =>
   rename_i x x' l l'
   simp only [cap1]
   unfold capB
   cases hu:P.underlying t with
   | none=>exact trivial
   | some d =>
    cases d with
    | slice e =>
     cases hx with
     | slNil=>exact OpOk.same hM (.int _ _) (run_v (by simp [Builtin.cap_,h0,run_underlying' hu]; rfl))
     | _=>exact trivial
    | _=>exact trivial
theorem least_ok (k:IntKind):∀ (l l':List Value) (a:Int) (v:Value),LR φ l l'→leastB k a l=some v→∃ v',VR φ v v'∧(l'.foldlM Builtin.min2 (.int k a)).run P w=.ok v' w
 | [],l',a,v,h,hv=>by
  cases h; cases hv
  exact ⟨_,.int _ _,rfl⟩
 | x::l,l',a,v,h,hv=>by
  cases h with
  | cons hx hr =>
   rename_i x' l'
   simp only [leastB] at hv
   cases x <;> simp only [] at hv <;> try (cases hv; done)
   rename_i j b
   have:=VR_int hx
   subst this
   obtain ⟨v',h1,h2⟩:=least_ok k l l' _ v hr hv
   refine ⟨v',h1,?_⟩
   simp only [List.foldlM_cons,Builtin.min2,Sem.run_bind,Sem.run_pure,Result.andThen_ok]
   rw [intLt_eq] at h2
   by_cases hb:b < a
   ·simpa [hb] using h2
   ·simpa [hb] using h2
theorem most_ok (k:IntKind):∀ (l l':List Value) (a:Int) (v:Value),LR φ l l'→mostB k a l=some v→∃ v',VR φ v v'∧(l'.foldlM Builtin.max2 (.int k a)).run P w=.ok v' w
 | [],l',a,v,h,hv=>by
  cases h; cases hv
  exact ⟨_,.int _ _,rfl⟩
 | x::l,l',a,v,h,hv=>by
  cases h with
  | cons hx hr =>
   rename_i x' l'
   simp only [mostB] at hv
   cases x <;> simp only [] at hv <;> try (cases hv; done)
   rename_i j b
   have:=VR_int hx
   subst this
   obtain ⟨v',h1,h2⟩:=most_ok k l l' _ v hr hv
   refine ⟨v',h1,?_⟩
   simp only [List.foldlM_cons,Builtin.max2,Sem.run_bind,Sem.run_pure,Result.andThen_ok]
   rw [intLt_eq] at h2
   by_cases hb:a < b
   ·simpa [hb] using h2
   ·simpa [hb] using h2
theorem min_ok (hM:MR P φ A w) (ts:Array TypeId) (ty:TypeId) {args args':List Value} (hx:LR φ args args') :
  OpOk P φ A w (minB A args) ((do pure (.value (← Builtin.min_ ts ty ⟨args'⟩):Next):Sem Next).run P w):=by
 cases hx with
 | nil=>exact trivial
 | cons hx hr =>
  rename_i x x' l l'
  unfold minB
  cases x <;> simp only [] <;> try (exact trivial)
  rename_i k a
  have:=VR_int hx
  subst this
  cases hl:leastB k a l with
  | none=>exact trivial
  | some v =>
   obtain ⟨v',h1,h2⟩:=least_ok (P:=P) (w:=w) k l l' a v hr hl
   exact OpOk.same hM h1 (run_v (by simpa [Builtin.min_] using h2))
theorem max_ok (hM:MR P φ A w) (ts:Array TypeId) (ty:TypeId) {args args':List Value} (hx:LR φ args args') :
  OpOk P φ A w (maxB A args) ((do pure (.value (← Builtin.max_ ts ty ⟨args'⟩):Next):Sem Next).run P w):=by
 cases hx with
 | nil=>exact trivial
 | cons hx hr =>
  rename_i x x' l l'
  unfold maxB
  cases x <;> simp only [] <;> try (exact trivial)
  rename_i k a
  have:=VR_int hx
  subst this
  cases hl:mostB k a l with
  | none=>exact trivial
  | some v =>
   obtain ⟨v',h1,h2⟩:=most_ok (P:=P) (w:=w) k l l' a v hr hl
   exact OpOk.same hM h1 (run_v (by simpa [Builtin.max_] using h2))
end Go.Sh
namespace Go.Sh
open Go
variable {P:Program} {φ:Inj} {A:AW} {w:World}
theorem foldl_set (off:Nat):∀ (l:List Value) (k:Nat) (cells:Array Value),off + k + l.length≤cells.size →
  ((l.zipIdx k).foldl (fun cs (x:Value × Nat)=>cs.setIfInBounds (off + x.2) x.1) cells).toList=cells.toList.take (off + k)++(l++cells.toList.drop (off + k + l.length))
 | [],k,cells,h=>by simp
 | x::l,k,cells,h=>by
  simp only [List.length_cons] at h
  simp only [List.zipIdx_cons,List.foldl_cons]
  rw [foldl_set off l (k + 1) _ (by simp; omega)]
  simp only [Array.toList_setIfInBounds]
  have e3:(cells.toList.set (off + k) x).take (off + (k + 1))=cells.toList.take (off + k)++[x]:=by
   rw [show off + (k + 1)=(off + k) + 1 from by omega,List.take_add_one,List.take_set_of_le (Nat.le_refl _)]
   simp [show off + k < cells.size by omega]
  have e4:off + (k + 1) + l.length=off + k + (l.length + 1):=by omega
  rw [e3,List.drop_set_of_lt (by omega),e4]
  simp only [List.length_cons,List.append_assoc,List.cons_append,List.nil_append]
theorem fold_splice {v:Value} {off:Nat} {cells:Array Value} (h:off + v.cells.size≤cells.size) :
  (v.cells.zipIdx.foldl (fun cs (c,j)=>cs.setIfInBounds (off + j) c) cells).toList=cells.toList.take off++(v.cells.toList++cells.toList.drop (off + v.cells.size)):=by
 have:=foldl_set off v.cells.toList 0 cells (by simpa using h)
 simp only [Nat.add_zero,Array.length_toList] at this
 rw [← this]
 congr 1
 rw [← Array.foldl_toList]
 simp [Array.toList_zipIdx]
inductive PR (φ:Inj):List (Nat × Value)→List (Nat × Value)→Prop
 | nil:PR φ [] []
 | cons (i:Nat) {v v':Value} {l l':List (Nat × Value)} (h:VR φ v v') (k:PR φ l l'):PR φ ((i,v)::l) ((i,v')::l')
theorem fill_ok {place place':Nat→Option (Nat × Nat)} (hp:∀ i q,place i=some q→place' i=some q):∀ {l l':List (Nat × Value)},PR φ l l'→∀ {cs:List Value} {cs':Array Value},LR φ cs cs'.toList→∀ {out:List Value},fillA place cs l=some out →
  ∃ out',LR φ out out'∧Instr.fill place' cs' l'=some ⟨out'⟩
 | _,_,.nil,cs,cs',hc,out,h=>by
  simp only [fillA] at h
  cases h
  exact ⟨cs'.toList,hc,rfl⟩
 | _,_,.cons i hv k,cs,cs',hc,out,h=>by
  rename_i v v' l l'
  simp only [fillA] at h
  cases hpl:place i with
  | none=>rw [hpl] at h; cases h
  | some q =>
   rw [hpl] at h
   simp only [lenL0] at h
   cases hcd:(Nat.beq (cellsOf v).length q.2 && Nat.ble (q.1 + q.2) cs.length) with
   | false=>rw [hcd] at h; cases h
   | true =>
    rw [hcd] at h
    simp only [Bool.and_eq_true] at hcd
    have h1:=Nat.eq_of_beq_eq_true hcd.1
    have h2:=Nat.le_of_ble_eq_true hcd.2
    simp only [cond_true] at h
    have hcl:=cells_LR hv
    have hll:=hcl.length
    have hlc:=hc.length
    simp only [Array.length_toList] at hll hlc
    have hsp:=hc.splice hcl q.1 (by omega)
    simp only [Array.length_toList] at hsp
    rw [← fold_splice (by omega)] at hsp
    obtain ⟨out',r1,r2⟩:=fill_ok hp k hsp h
    refine ⟨out',r1,?_⟩
    obtain ⟨off,size⟩:=q
    simp only at h1 h2
    simp only [Instr.fill,hp i _ hpl]
    rw [if_neg]
    ·exact r2
    ·simp; omega
theorem placeOf_some {t:TypeId} {p:Nat→Option (Nat × Nat)} (h:placeOf P t=some p) :
  (∃ fs,P.underlying t=some (.struct fs)∧(∀ f ∈ fs.toList,(szOf P f.type).isSome=true)∧p=fieldAt P fs.toList)∨(∃ n e k,P.underlying t=some (.array n e)∧szOf P e=some k∧p=rowAt k):=by
 unfold placeOf at h
 split at h
 ·rename_i fs hu
  cases hb:(fs.toList.all fun f=>(szOf P f.type).isSome) with
  | false=>rw [hb] at h; cases h
  | true=>rw [hb] at h; cases h; exact .inl ⟨fs,hu,List.all_eq_true.1 hb,rfl⟩
 ·rename_i n e hu
  cases hs:szOf P e with
  | none=>rw [hs] at h; cases h
  | some k=>rw [hs] at h; cases h; exact .inr ⟨n,e,k,hu,hs,rfl⟩
 ·cases h
theorem run_places:∀ (fs:List Field) (w:World),(∀ f ∈ fs,(szOf P f.type).isSome=true) →
  (fs.mapM fun f=>(do pure (f.offset,← sizeOf f.type):Sem (Nat × Nat))).run P w=.ok (fs.map fun f=>(f.offset,(szOf P f.type).getD 0)) w
 | [],w,_=>rfl
 | f::fs,w,h=>by
  have h1:=h f (List.mem_cons_self ..)
  cases hs:szOf P f.type with
  | none=>rw [hs] at h1; cases h1
  | some n =>
   rw [List.mapM_cons]
   simp only [Sem.run_bind,run_sizeOf hs,Result.andThen_ok,Sem.run_pure,run_places fs w fun f hf=>h f (List.mem_cons_of_mem _ hf),List.map_cons,hs,Option.getD_some]
theorem run_placesA (fs:Array Field) (w:World) (h:∀ f ∈ fs.toList,(szOf P f.type).isSome=true) :
  (fs.mapM fun f=>(do pure (f.offset,← sizeOf f.type):Sem (Nat × Nat))).run P w=.ok ⟨fs.toList.map fun f=>(f.offset,(szOf P f.type).getD 0)⟩ w:=by
 rw [Array.mapM_eq_mapM_toList]
 simp only [Sem.run_map,run_places fs.toList w h,Result.andThen_ok]
theorem build_ok (hM:MR P φ A w) (t:TypeId) {parts parts':List (Nat × Value)} (hp:PR φ parts parts') :
  OpOk P φ A w (buildA P A t parts) ((do pure (.value (← Instr.build t ⟨parts'⟩):Next):Sem Next).run P w):=by
 unfold buildA
 cases hz:zeroA P t with
 | none=>exact trivial
 | some z =>
  obtain ⟨i,h1,h2,h3,h4,_⟩:=zeroA_some hz
  simp only
  cases hpl:placeOf P t with
  | none=>exact trivial
  | some p =>
   simp only
   cases hf:fillA p (cellsOf z) parts with
   | none=>exact trivial
   | some cs =>
    simp only [aggR]
    rcases placeOf_some hpl with ⟨fs,hu,hall,rfl⟩ | ⟨n,e,k,hu,hs,rfl⟩
    ·obtain ⟨out',r1,r2⟩:=fill_ok (place':=fun i=>(⟨fs.toList.map fun f=>(f.offset,(szOf P f.type).getD 0)⟩:Array (Nat × Nat))[i]?) (fun i q hq=>by
      unfold fieldAt at hq
      rw [nth_eq] at hq
      cases hfi:fs.toList[i]? with
      | none=>rw [hfi] at hq; cases hq
      | some f =>
       rw [hfi] at hq
       simp only at hq
       cases hs:szOf P f.type with
       | none=>rw [hs] at hq; cases hq
       | some n =>
        rw [hs] at hq
        cases hq
        rw [← Array.getElem?_toList]
        simp only [List.getElem?_map,hfi,Option.map_some,hs,Option.getD_some]) hp (by simpa using elem_LR h3) hf
     refine OpOk.same hM (.agg r1) (run_v ?_)
     simp only [Instr.build,Sem.run_bind,run_zeroValue hz,Result.andThen_ok,run_underlying' hu,run_placesA fs w hall]
     simp only [r2,Sem.run_pure]
    ·obtain ⟨out',r1,r2⟩:=fill_ok (place':=fun i=>some (i * k,k)) (fun i q hq=>hq) hp (by simpa using elem_LR h3) hf
     refine OpOk.same hM (.agg r1) (run_v ?_)
     simp only [Instr.build,Sem.run_bind,run_zeroValue hz,Result.andThen_ok,run_underlying' hu,run_sizeOf hs]
     simp only [r2,Sem.run_pure]
theorem buildSlice_ok (hM:MR P φ A w) (t:TypeId) (len:Nat) {parts parts':List (Nat × Value)} (hp:PR φ parts parts') :
  OpOk P φ A w (buildSliceA P A t len parts) ((do pure (.value (← Instr.buildSlice t len ⟨parts'⟩):Next):Sem Next).run P w):=by
 unfold buildSliceA
 cases he:elemA P t with
 | none=>exact trivial
 | some e =>
  have hu:=elemA_some he
  simp only
  cases hs:szOf P e with
  | none=>exact trivial
  | some size =>
   simp only
   cases hz:zeroA P e with
   | none=>exact trivial
   | some z =>
    obtain ⟨i,h1,h2,h3,h4,_⟩:=zeroA_some hz
    simp only
    cases hb:Nat.ble (len * size) 1000000 with
    | false=>exact trivial
    | true =>
     have hb:=Nat.le_of_ble_eq_true hb
     simp only [cond_true,rowR]
     cases hf:fillA (rowAt size) (repl (cellsOf z) len) parts with
     | none=>exact trivial
     | some cs =>
      simp only
      have hsz:i.size=size:=by rw [szOf_info h1] at hs; exact opt_some hs
      have hzl:z.cells.size=size:=by
       have:=(elem_LR (φ:=φ) h3).length
       rw [h4,hsz] at this
       simpa using this.symm
      obtain ⟨out',r1,r2⟩:=fill_ok (place':=fun i=>some (i * size,size)) (fun i q hq=>hq) hp (cs':=⟨repl z.cells.toList len⟩) ((elem_LR h3).repl len) hf
      have hcells:∀ zz:Array Value,(len * size ≠ 0→zz=z.cells)→(Array.range (len * size)).map (zz[· % zz.size]!)=⟨repl z.cells.toList len⟩:=by
       intro zz hzz
       by_cases h0:len * size=0
       ·have:(repl z.cells.toList len).length=0:=by rw [repl_length]; simp [hzl,h0]
        rw [List.eq_nil_of_length_eq_zero this,h0,Array.range_zero']
        simp
       ·rw [hzz h0]
        apply Array.ext'
        rw [← hzl]
        exact range_zero z.cells len
      obtain ⟨φ',g3,g4,_,g5⟩:=newCells hM (e:=e) (c:=cs) (cc:=out') (by simpa using r1) [] (fz:=(0,0)) (fun off _=>by simp)
      simp only [List.append_nil] at g3 g4 g5
      have hlen:out'.length=len * size:=by
       have q1:∀ {parts:List (Nat × Value)} {c o:List Value},fillA (rowAt size) c parts=some o→o.length=c.length:=by
        intro parts
        induction parts with
        | nil=>intro c o h; cases h; rfl
        | cons p ps ih =>
         intro c o h
         simp only [fillA,rowAt,lenL0] at h
         cases hcd:(Nat.beq (cellsOf p.2).length size && Nat.ble (p.1 * size + size) c.length) with
         | false=>rw [hcd] at h; cases h
         | true =>
          rw [hcd] at h
          simp only [Bool.and_eq_true] at hcd
          have a1:=Nat.eq_of_beq_eq_true hcd.1
          have a2:=Nat.le_of_ble_eq_true hcd.2
          rw [ih h,spliceL_length _ _ _ (by omega)]
       rw [← r1.length,q1 hf,repl_length,h4,hsz]
      refine ⟨φ',_,g3,g4,.inl ⟨.slice (some ⟨w.heap.size,0,none⟩) len len,run_v ?_,?_⟩⟩
      ·have n1:¬ (len * size > 2 ^ 24):=by
        have:(2:Nat) ^ 24=16777216:=by decide
        omega
       simp only [Instr.buildSlice,Sem.run_bind,run_underlying' hu,Result.andThen_ok,run_sizeOf hs,if_neg n1]
       by_cases h0:len * size=0
       ·simp only [if_pos h0]
        have e1:=hcells #[] (fun h=>absurd h0 h)
        rw [h0] at e1 ⊢
        simp only [Array.range_zero'] at e1 ⊢
        simp only [List.map_toArray,List.map_nil] at e1 ⊢
        rw [e1,r2]
        simp only [Sem.run_bind,run_newRow,Result.andThen_ok,Sem.run_pure]
       ·simp only [if_neg h0,Sem.run_bind,run_zeroValue hz,Sem.run_pure,Result.andThen_ok,hcells z.cells (fun _=>rfl)]
        simp only [r2,Sem.run_bind,run_newRow,Result.andThen_ok,Sem.run_pure]
      ·refine new_lit g5 ?_
       rw [hs,hlen]
       exact Nat.le_refl _
theorem lookV_VR {ok b:Bool} {v v':Value} (h:VR φ v v'):VR φ (lookV ok b v) (if ok then .tuple #[v',.bool b] else v'):=by
 cases ok
 ·exact h
 ·exact .tuple (.cons h (.cons (.bool b) .nil))
theorem assertFails_ok (hM:MR P φ A w) (t:TypeId) (ok:Bool) {s:Sem Value} (h:ok=true→s.run P w=(do pure (.tuple #[← zeroValue t,.bool false]):Sem Value).run P w) :
  OpOk P φ A w (assertFails P A t ok) ((do pure (.value (← s):Next):Sem Next).run P w):=by
 cases ok with
 | false=>exact trivial
 | true =>
  simp only [assertFails,cond_true]
  cases hz:zeroA P t with
  | none=>exact trivial
  | some z =>
   obtain ⟨i,_,_,h3,_⟩:=zeroA_some hz
   refine OpOk.same hM (.tuple (.cons (h3 φ) (.cons (.bool false) .nil))) (run_v ?_)
   rw [h rfl]
   simp [run_zeroValue hz]
theorem typeAssert_ok (hM:MR P φ A w) (xt t:TypeId) (ok:Bool) {x x':Value} (hx:VR φ x x') :
  OpOk P φ A w (typeAssertA P A t ok x) ((do pure (.value (← Instr.typeAssert x' xt t ok):Next):Sem Next).run P w):=by
 unfold typeAssertA
 cases hi:isIface P t with
 | none=>exact trivial
 | some b =>
  obtain ⟨d,h1,h2⟩:=isIface_some hi
  cases b with
  | true=>exact trivial
  | false =>
   have hd:∀ ms,d ≠ .interface ms:=fun ms e=>by simpa using h2.2 ⟨ms,e⟩
   simp only [cond_false]
   cases hx with
   | nilIface =>
    simp only
    refine assertFails_ok hM t ok fun hok=>?_
    subst hok
    simp only [Instr.typeAssert,Sem.run_bind,run_underlying' h1,Result.andThen_ok]
    cases d <;> first | exact absurd rfl (hd _) | simp
   | iface u h =>
    rename_i v v'
    simp only
    cases hu:Nat.beq u t with
    | true =>
     have:=Nat.eq_of_beq_eq_true hu
     subst this
     simp only [cond_true]
     refine OpOk.same hM (lookV_VR h) (run_v ?_)
     simp only [Instr.typeAssert,Sem.run_bind,run_underlying' h1,Result.andThen_ok]
     cases ok <;> cases d <;> first | exact absurd rfl (hd _) | simp
    | false =>
     have hne:u ≠ t:=by rintro rfl; simp at hu
     simp only [cond_false]
     refine assertFails_ok hM t ok fun hok=>?_
     subst hok
     simp only [Instr.typeAssert,Sem.run_bind,run_underlying' h1,Result.andThen_ok]
     cases d <;> first | exact absurd rfl (hd _) | simp [hne]
   | _=>exact trivial
end Go.Sh
namespace Go.Sh
open Go
variable {P:Program} {φ:Inj} {A:AW} {w:World}
theorem strOfCells_ok:∀ {cs cs':List Value},LR φ cs cs'→∀ {bs:List UInt8},strOfCells cs=some bs→∃ ns:List Int,cs'=ns.map (Value.int .u8)∧ns.map (fun n=>UInt8.ofNat n.toNat)=bs
 | _,_,.nil,bs,h=>by
  simp only [strOfCells] at h
  cases h
  exact ⟨[],rfl,rfl⟩
 | _,_,.cons hv k,bs,h=>by
  rename_i v v' l l'
  cases hv with
  | int kk n =>
   simp only [strOfCells] at h
   cases kk with
   | u8 =>
    simp only at h
    cases hr:strOfCells l with
    | none=>rw [hr] at h; cases h
    | some r =>
     rw [hr] at h
     cases h
     obtain ⟨ns,h1,h2⟩:=strOfCells_ok k hr
     exact ⟨n::ns,by rw [h1]; rfl,by rw [← h2]; rfl⟩
   | _=>cases h
  | unk=>simp [strOfCells,unk] at h
  | _=>simp [strOfCells] at h
theorem foldl_push:∀ (ns:List Int) (s:ByteArray),ns.foldl (fun r n=>r.push (UInt8.ofNat n.toNat)) s=⟨⟨s.data.toList++ns.map fun n=>UInt8.ofNat n.toNat⟩⟩
 | [],s=>by
  simp only [List.foldl_nil,List.map_nil,List.append_nil]
 | n::ns,s=>by
  rw [List.foldl_cons,foldl_push ns]
  have:(s.push (UInt8.ofNat n.toNat)).data.toList=s.data.toList++[UInt8.ofNat n.toNat]:=by
   show (s.data.push _).toList=_
   simp
  rw [this]
  simp
theorem empty_string:ByteArray.empty=⟨#[]⟩:=rfl
theorem isByte_some {e:TypeId} (h:isByte P e=true):P.underlying e=some (.int .u8)∧szOf P e=some 1:=by
 unfold isByte at h
 split at h
 ·rename_i hu
  refine ⟨hu,?_⟩
  unfold sz1 at h
  cases hs:szOf P e with
  | none=>rw [hs] at h; cases h
  | some n=>rw [hs] at h; rw [Nat.eq_of_beq_eq_true h]
 ·cases h
theorem sz1_some {e:TypeId} (h:sz1 P e=true):szOf P e=some 1:=by
 unfold sz1 at h
 cases hs:szOf P e with
 | none=>rw [hs] at h; cases h
 | some n=>rw [hs] at h; rw [Nat.eq_of_beq_eq_true h]
theorem bytesToStr_ok (hM:MR P φ A w) {x x':Value} (hx:VR φ x x'):OpOk P φ A w (bytesToStr A x) ((do pure (.value (← Conv.bytesToString x'):Next):Sem Next).run P w):=by
 cases hx with
 | slNil=>exact OpOk.same hM (.string _) (run_v (by simp [Conv.bytesToString,empty_string]))
 | sl ha hl hc hr hx =>
  rename_i a a' l c c'
  simp only [bytesToStr,strR]
  cases hrd:rd A a.block a.off l with
  | none=>exact trivial
  | some cs =>
   obtain ⟨cs',h1,h2,h3⟩:=rd_ok hM ha hrd
   simp only
   cases hs:strOfCells cs with
   | none=>exact trivial
   | some bs =>
    obtain ⟨ns,h4,h5⟩:=strOfCells_ok h1 hs
    have h6:=run_loadCells_list (P:=P) w a' cs' h3
    rw [h2,h4] at h6
    refine OpOk.same hM (.string _) (run_v ?_)
    rw [run_bytesToString w a' l c' ns (by simpa using h6),foldl_push,h5]
    rfl
 | sl0 ha =>
  rename_i a a'
  simp only [bytesToStr,strR]
  cases hrd:rd A a.block a.off 0 with
  | none=>exact trivial
  | some cs =>
   obtain ⟨c,e,ro,hg,hl,rfl⟩:=rd_some hrd
   simp only [List.take_zero,strOfCells]
   refine OpOk.same hM (.string _) (run_v ?_)
   rw [run_bytesToString w a' 0 0 [] (by simp [loadCells,loadCellsFrom])]
   rfl
 | _=>exact trivial
def frz (fz:Nat × Nat) (off n:Nat):Nat × Nat:=if fz.1 == fz.2 then (off,off + n) else (min fz.1 off,max fz.2 (off + n))
theorem freeze_eq {w:World} {b off n:Nat} {cc:Array Value} {e:TypeId} {fz:Nat × Nat} {sp:Option Nat} (h:w.heap[b]?=some (.cells cc e fz)) (hn:n ≠ 0) :
  w.freeze ⟨b,off,sp⟩ n=setBlk w b (.cells cc e (frz fz off n)):=by
 unfold World.freeze setBlk
 rw [if_neg hn]
 congr 1
 apply Array.ext_getElem?
 intro i
 rw [Array.getElem?_modify,Array.getElem?_setIfInBounds]
 by_cases hi:b=i
 ·subst hi
  have hlt:=lt_of_heap h
  simp only [if_true,h,hlt]
  rfl
 ·rw [if_neg hi,if_neg hi]
theorem setBlk_push (w:World) (o o':Obj):setBlk (w.alloc o) w.heap.size o'=w.alloc o':=by
 unfold setBlk World.alloc
 congr 1
 apply Array.ext_getElem?
 intro i
 rw [Array.getElem?_setIfInBounds,Array.getElem?_push,Array.getElem?_push]
 by_cases hi:w.heap.size=i
 ·subst hi; simp
 ·rw [if_neg hi,if_neg (Ne.symm hi),if_neg (Ne.symm hi)]
theorem freeze_push (w:World) (c:Array Value) (e:TypeId) (n:Nat):(w.alloc (.cells c e (0,0))).freeze ⟨w.heap.size,n,none⟩ 1=w.alloc (.cells c e (n,n + 1)):=by
 rw [freeze_eq (push_same w _) (by decide),setBlk_push]
 rfl
theorem run_choose_cap (n:Nat) (e:TypeId) (w:World):∃ cap,n≤cap∧(choose (.appendCap n 0 e)).run P w=.ok cap { w with drawn:=w.drawn + 1 } :=
 ⟨_,Nat.le_add_right _ _,by rw [run_choose]; rfl⟩
theorem byte_LR:∀ l:List UInt8,LR φ (mapL byteV l) (l.map fun b=>Value.int .u8 b.toNat)
 | []=>.nil
 | _::l=>.cons (.int _ _) (byte_LR l)
theorem strToBytes_ok (hM:MR P φ A w) (e:TypeId) (s:ByteArray):OpOk P φ A w (strToBytes P A e s) ((do pure (.value (← Conv.stringToBytes e s):Next):Sem Next).run P w):=by
 unfold strToBytes
 cases hb:isByte P e with
 | false=>exact trivial
 | true =>
  obtain ⟨hu,hs⟩:=isByte_some hb
  simp only [cond_true,lenL0]
  have hsz:(bytesOf s).length=s.size:=Array.length_toList
  obtain ⟨cap,hcap,hch⟩:=run_choose_cap (P:=P) s.size e w
  have hrun:(Conv.stringToBytes e s).run P w=.ok (.slice (some ⟨w.heap.size,0,none⟩) s.size cap)
    ((({ w with drawn:=w.drawn + 1 }:World).alloc (.cells (s.data.map (fun b:UInt8=>Value.int .u8 b.toNat)++Array.replicate (cap - s.size) (Value.int .u8 0)) e)).freeze ⟨w.heap.size,cap,none⟩ 1):=by
   have h2:(s.data.map (fun b:UInt8=>Value.int .u8 b.toNat)++Array.replicate (cap - s.size) (Value.int .u8 0)).size=cap:=by
    have:s.data.size=s.size:=rfl
    rw [Array.size_append,Array.size_map,Array.size_replicate,this]; omega
   have h3:({ w with drawn:=w.drawn + 1 }:World).heap.size=w.heap.size:=rfl
   simp only [Conv.stringToBytes,Sem.run_bind,hch,Result.andThen_ok,run_newRow,markStringish,run_shape,World.shape?,push_same,run_freeze,Sem.run_pure,h2]
  generalize hk:w.drawn + 1=k at hrun
  rw [freeze_push] at hrun
  have hcl:(s.data.map (fun b:UInt8=>Value.int .u8 b.toNat)).toList.length=s.size:=by rw [Array.length_toList,Array.size_map]; rfl
  have hex:(s.data.map (fun b:UInt8=>Value.int .u8 b.toNat)++Array.replicate (cap - s.size) (Value.int .u8 0):Array Value)=⟨(s.data.map (fun b:UInt8=>Value.int .u8 b.toNat)).toList++(Array.replicate (cap - s.size) (Value.int .u8 0)).toList⟩:=by
   apply Array.ext'; simp
  obtain ⟨φ',r1,r2,r3,r4⟩:=newCells (hM.drawn k) (e:=e) (c:=mapL byteV (bytesOf s)) (cc:=(s.data.map (fun b:UInt8=>Value.int .u8 b.toNat)).toList) (by simpa [bytesOf] using byte_LR (φ:=φ) (bytesOf s)) (Array.replicate (cap - s.size) (Value.int .u8 0)).toList (fz:=(cap,cap + 1)) (fun off ho=>by rw [List.length_append,hcl,Array.length_toList,Array.size_replicate] at ho; omega)
  rw [hex] at hrun
  refine ⟨φ',_,r1,(Ext.drawn w k).trans r2,.inl ⟨_,run_v hrun,?_⟩⟩
  rw [hsz]
  refine new_row r4 (Nat.le_refl _) hcap ?_
  rw [hs,List.length_append,hcl,Array.length_toList,Array.size_replicate]
  simp only [Option.getD_some]
  omega
theorem has1_some {u:TypeId} {n:Nat} (h:has1 P u n=true):∃ m,szOf P u=some m∧0 < m∧m≤n:=by
 unfold has1 at h
 cases hs:szOf P u with
 | none=>rw [hs] at h; cases h
 | some m =>
  rw [hs] at h
  simp only [Bool.and_eq_true] at h
  exact ⟨m,rfl,by simpa [Nat.blt_eq] using h.1,Nat.le_of_ble_eq_true h.2⟩
theorem run_seenAt {a:Addr} {cc:Array Value} {e:TypeId} {fz:Nat × Nat} (h:w.heap[a.block]?=some (.cells cc e fz)):(Conv.seenAt a).run P w=.ok a w:=by
 simp [Conv.seenAt,viewAt,World.shape?,h]
theorem cellsOf_szOf {t:TypeId} {n:Nat} (h:szOf P t=some n):P.cellsOf t=n:=by
 unfold szOf at h
 unfold Program.cellsOf
 cases hi:P.info? t with
 | none=>rw [hi] at h; cases h
 | some i=>rw [hi] at h; cases h; rfl
theorem convPtrA_ok (hM:MR P φ A w) {s d t:TypeId} (hs:P.underlying s=some (.pointer t)) (hd:P.underlying d=some .unsafePointer) {x x':Value} (hx:VR φ x x') :
  OpOk P φ A w (convPtrA P A t x) ((do pure (.value (← convert s d x'):Next):Sem Next).run P w):=by
 cases hx with
 | ptrNil=>exact OpOk.same hM .ptrNil (run_v (by simp [convert,run_underlying' hs,run_underlying' hd,Conv.unsafePointer]))
 | ptr ha =>
  rename_i a a'
  simp only [convPtrA]
  cases hc:cellsAt A a.block with
  | none=>exact trivial
  | some c =>
   obtain ⟨e,ro,hg⟩:=cellsAt_some hc
   simp only [lenL0]
   cases hh:has1 P t (c.length - a.off) with
   | false=>exact trivial
   | true =>
    obtain ⟨m,h1,h2,h3⟩:=has1_some hh
    obtain ⟨cc,fz,n,sz,dd,g1,g2,g3,g4,g5⟩:=hM.cells ha hg
    have hfit:=g5.fits
    have hsz:=g5.size
    have hlt:¬ (a'.off ≥ cc.length):=by omega
    refine OpOk.same hM (.ptr ha) (run_v ?_)
    have hm:¬ m=0:=by omega
    simp [convert,run_underlying' hs,run_underlying' hd,Conv.unsafePointer,run_seenAt g4,cellsIn,World.shape?,g4,run_sizeOf h1,hm,hlt]
 | _=>exact trivial
theorem depth_succ (P:Program):∃ k,P.depth=k + 1:=⟨_,rfl⟩
theorem run_variablesAt {a:Addr} {cc:Array Value} {e:TypeId} {fz:Nat × Nat} (h:w.heap[a.block]?=some (.cells cc e fz)) {sz k n:Nat} (hs:P.cellsOf e=sz) (h0:0 < sz) (ha:a.off=k * sz) (hn:(k + n) * sz≤cc.size) :
  (variablesAt a e n).run P w=.ok true w:=by
 obtain ⟨d,hd⟩:=depth_succ P
 have h1:k * sz % sz=0:=Nat.mul_mod_left k sz
 have h2:k * sz / sz=k:=Nat.mul_div_cancel k h0
 have h3:k + n≤cc.size / sz:=(Nat.le_div_iff_mul_le h0).2 hn
 have h4:sameLayout P P.depth e e=true:=by rw [hd]; simp [sameLayout]
 have h5:Go.rowAt P (sameLayout P P.depth · e) P.depth e (cc.size / sz) (k * sz) n=true:=by
  rw [hd] at h4 ⊢
  simp [Go.rowAt,hs,h1,h2,h3,h4,Nat.ne_of_gt h0]
 have h6:liesAt P P.depth e (cc.size / sz) (k * sz) e n=true:=by
  rw [hd] at h5 ⊢
  simp [liesAt,hd ▸ h5]
 simp [variablesAt,World.shape?,h,hs,ha,h6]
theorem convPtrB_ok (hM:MR P φ A w) {s d u:TypeId} (hs:P.underlying s=some .unsafePointer) (hd:P.underlying d=some (.pointer u)) {x x':Value} (hx:VR φ x x') :
  OpOk P φ A w (convPtrB P A u x) ((do pure (.value (← convert s d x'):Next):Sem Next).run P w):=by
 cases hx with
 | ptrNil=>exact OpOk.same hM .ptrNil (run_v (by simp [convert,run_underlying' hs,run_underlying' hd,Conv.unsafePointer]))
 | ptr ha =>
  rename_i a a'
  simp only [convPtrB]
  cases hg:A.heap.get a.block with
  | none=>exact trivial
  | some o =>
   cases o with
   | cells c e ro =>
    simp only [convPtrC,lenL0]
    cases hcd:(Nat.beq e u && (Nat.beq a.off 0 && (has1 P u c.length && !ro))) with
    | false=>exact trivial
    | true =>
     simp only [Bool.and_eq_true] at hcd
     obtain ⟨q1,q2,q3,q4⟩:=hcd
     have q1:=Nat.eq_of_beq_eq_true q1
     have q2:=Nat.eq_of_beq_eq_true q2
     have q4:ro=false:=by simpa using q4
     subst q1
     obtain ⟨m,h1,h2,h3⟩:=has1_some q3
     obtain ⟨cc,fz,n,sz,dd,g1,g2,g3,g4,g5⟩:=hM.cells ha hg
     have hfit:=g5.fits
     have hsz:=g5.size
     have hun:=g5.unit
     rw [h1] at hun
     simp only [Option.getD_some] at hun
     subst hun
     obtain ⟨k,hk⟩:=g5.mult q4
     have hv:=run_variablesAt (P:=P) (a:=a') (k:=k) (n:=1) g4 (cellsOf_szOf h1) h2 (by rw [g2,q2,hk,Nat.zero_add,Nat.mul_comm]) (by
      rw [Nat.add_mul,Nat.mul_comm k,← hk]; simp; omega)
     refine OpOk.same hM (.ptr ha) (run_v ?_)
     simp [convert,run_underlying' hs,run_underlying' hd,Conv.unsafePointer,run_seenAt g4,run_sizeOf h1,hv]
   | _=>exact trivial
 | _=>exact trivial
theorem convert_ok (hM:MR P φ A w) (s d:TypeId) {x x':Value} (hx:VR φ x x') :
  OpOk P φ A w (convertA P A s d x) ((do pure (.value (← convert s d x'):Next):Sem Next).run P w):=by
 unfold convertA
 cases hs:P.underlying s with
 | none=>exact trivial
 | some sd =>
  simp only
  cases hd:P.underlying d with
  | none=>exact trivial
  | some dd =>
   simp only
   cases dd with
   | int k =>
    simp only [convTo]
    cases hx with
    | int j n=>exact OpOk.same hM (by rw [wrapA_eq]; exact .int _ _) (run_v (by cases sd <;> simp [convert,run_underlying' hs,run_underlying' hd,Conv.intToInt]))
    | _=>exact trivial
   | string =>
    simp only [convTo]
    have hrow:∀ y,convStr P A sd x=convRow P A sd y→VR φ y x'→(∀ e,sd=.slice e→isByte P e=true→(convert s d x').run P w=(Conv.bytesToString x').run P w)→OpOk P φ A w (convStr P A sd x) ((do pure (.value (← convert s d x'):Next):Sem Next).run P w):=by
     intro y h1 h2 h3
     rw [h1]
     cases sd with
     | slice e =>
      simp only [convRow]
      cases hb:isByte P e with
      | false=>exact trivial
      | true =>
       simp only [cond_true]
       have:=bytesToStr_ok hM h2
       rw [Sem.run_bind] at this ⊢
       rw [h3 e rfl hb]
       exact this
     | _=>exact trivial
    have hconv:∀ a l c,∀ e,sd=.slice e→isByte P e=true→(convert s d (.slice a l c)).run P w=(Conv.bytesToString (.slice a l c)).run P w:=by
     rintro a l c e rfl hb
     exact run_convert_bytes_string w s d e a l c hs (isByte_some hb).1 hd
    cases hx with
    | string b=>exact OpOk.same hM (.string _) (run_v (by cases sd <;> simp [convert,run_underlying' hs,run_underlying' hd]))
    | int j n=>exact OpOk.same hM (.string _) (run_v (by cases sd <;> simp [convert,run_underlying' hs,run_underlying' hd,Conv.intToString]))
    | slNil=>exact hrow _ rfl .slNil (hconv _ _ _)
    | sl ha hl hc hr hx=>exact hrow _ rfl (.sl ha hl hc hr hx) (hconv _ _ _)
    | sl0 ha=>exact hrow _ rfl (.sl0 ha) (hconv _ _ _)
    | _=>exact trivial
   | slice e =>
    simp only [convTo]
    cases hx with
    | string b =>
     simp only [convSlice]
     have h1:=strToBytes_ok hM e b
     unfold strToBytes at h1 ⊢
     cases hb:isByte P e with
     | false=>exact trivial
     | true =>
      rw [hb] at h1
      have h2:(convert s d (.string b)).run P w=(Conv.stringToBytes e b).run P w:=by
       cases sd <;> simp [convert,run_underlying' hs,run_underlying' hd,run_underlying' (isByte_some hb).1]
      rw [Sem.run_bind] at h1 ⊢
      rw [h2]
      exact h1
    | _=>exact trivial
   | unsafePointer =>
    simp only [convTo]
    cases sd with
    | pointer t=>exact convPtrA_ok hM hs hd hx
    | _=>exact trivial
   | pointer u =>
    simp only [convTo]
    cases sd with
    | unsafePointer=>exact convPtrB_ok hM hs hd hx
    | _=>exact trivial
   | _=>exact trivial
end Go.Sh
namespace Go.Sh
open Go
variable {P:Program} {φ:Inj} {A:AW} {w:World}
theorem next_compare (fn:Func) (h:fn.name="internal/bytealg.abigen_runtime_cmpstring") (ho:fn.origin=""):Extern.findNext fn=none:=by
 cases fn; simp only at h ho; subst h ho; kernel_rfl
theorem find_compare (fn:Func) (h:fn.name="internal/bytealg.abigen_runtime_cmpstring") (ho:fn.origin=""):Extern.find fn=some Extern.BytealgCompare.compare:=by
 cases fn; simp only at h ho; subst h ho; kernel_rfl
theorem byte_at (s:ByteArray) (pre l:List UInt8) (b:UInt8) (h:s.data.toList=pre++b::l):s[pre.length]! = b:=by
 have h1:pre.length < s.size:=by
  show pre.length < s.data.size
  rw [← Array.length_toList,h]; simp
 have h2:s.data.toList[pre.length]?=some b:=by rw [h]; simp
 rw [getElem!_pos s pre.length h1]
 show s.data[pre.length]=b
 rw [Array.getElem?_toList,Array.getElem?_eq_getElem (show pre.length < s.data.size from h1)] at h2
 injection h2
theorem cmpB_eq (s t:ByteArray):∀ (l m pre pre':List UInt8),s.data.toList=pre++l→t.data.toList=pre'++m→pre.length=pre'.length →
  cmpB l m=match (List.range' pre.length (min l.length m.length)).find? fun i=>s[i]! != t[i]! with
   | some i=>if s[i]! < t[i]! then -1 else 1
   | none=>if s.size < t.size then -1 else if s.size > t.size then 1 else 0
 | [],[],pre,pre',h1,h2,hp=>by
  have e1:s.size=pre.length:=by show s.data.size=_; rw [← Array.length_toList,h1]; simp
  have e2:t.size=pre'.length:=by show t.data.size=_; rw [← Array.length_toList,h2]; simp
  simp [cmpB,e1,e2,hp]
 | [],b::m,pre,pre',h1,h2,hp=>by
  have e1:s.size=pre.length:=by show s.data.size=_; rw [← Array.length_toList,h1]; simp
  have e2:t.size=pre'.length + (m.length + 1):=by show t.data.size=_; rw [← Array.length_toList,h2]; simp
  simp [cmpB,e1,e2,hp]
 | a::l,[],pre,pre',h1,h2,hp=>by
  have e1:s.size=pre.length + (l.length + 1):=by show s.data.size=_; rw [← Array.length_toList,h1]; simp
  have e2:t.size=pre'.length:=by show t.data.size=_; rw [← Array.length_toList,h2]; simp
  have n1:¬ pre'.length + (l.length + 1) < pre'.length:=by omega
  simp [cmpB,e1,e2,hp,n1]
 | a::l,b::m,pre,pre',h1,h2,hp=>by
  have ha:=byte_at s pre l a h1
  have hb:=byte_at t pre' m b h2
  rw [← hp] at hb
  have ih:=cmpB_eq s t l m (pre++[a]) (pre'++[b]) (by rw [h1]; simp) (by rw [h2]; simp) (by simp [hp])
  have hmin:min (a::l).length (b::m).length=min l.length m.length + 1:=by simp only [List.length_cons]; omega
  rw [hmin,List.range'_succ,List.find?_cons,ha,hb]
  by_cases e:a=b
  ·subst e
   have:Nat.beq a.toNat a.toNat=true:=Nat.beq_refl _
   simp only [cmpB,this,cond_true,bne_self_eq_false]
   rw [ih,List.length_append]
   rfl
  ·have hne:Nat.beq a.toNat b.toNat=false:=by
    rw [← Bool.not_eq_true]; intro hb; exact e (UInt8.toNat_inj.1 (Nat.eq_of_beq_eq_true hb))
   have hbn:(a != b)=true:=by simp [e]
   simp only [cmpB,hne,cond_false,hbn,ha,hb]
   by_cases hlt:a < b
   ·have:Nat.blt a.toNat b.toNat=true:=by rw [Nat.blt_eq]; exact hlt
    rw [this,if_pos hlt]; rfl
   ·have:Nat.blt a.toNat b.toNat=false:=by rw [← Bool.not_eq_true,Nat.blt_eq]; exact hlt
    rw [this,if_neg hlt]; rfl
theorem run_compare (s t:ByteArray):(Extern.BytealgCompare.compare #[.string s,.string t]).run P w=.ok (.int .i64 (Extern.BytealgCompare.cmp s t)) w:=by
 change Sem.run P (do
  pure (goInt (Extern.BytealgCompare.cmp (← Extern.Bytes.bytesOf (.string s)) (← Extern.Bytes.bytesOf (.string t))))) w=_
 simp only [Extern.Bytes.bytesOf,Sem.run_bind,Sem.run_pure,Result.andThen]
 rfl
theorem cmp_eq (s t:ByteArray):Extern.BytealgCompare.cmp s t=cmpB (bytesOf s) (bytesOf t):=by
 have h:=cmpB_eq s t s.data.toList t.data.toList [] [] rfl rfl rfl
 have e1:s.data.toList.length=s.size:=by show _=s.data.size; simp
 have e2:t.data.toList.length=t.size:=by show _=t.data.size; simp
 rw [e1,e2,List.length_nil,← List.range_eq_range'] at h
 exact h.symm
theorem compare_ok (hM:MR P φ A w) {args args':List Value} (ha:LR φ args args'):OpOk P φ A w (compareA A args) ((do pure (.value (← Extern.BytealgCompare.compare ⟨args'⟩):Next):Sem Next).run P w):=by
 cases ha with
 | nil=>exact trivial
 | cons h k =>
  cases k with
  | nil=>exact trivial
  | cons h2 k =>
   cases k with
   | cons=>exact trivial
   | nil =>
    cases h with
    | string s =>
     simp only [compareA]
     cases h2 with
     | string t =>
      refine OpOk.same hM (.int _ _) (run_v ?_)
      rw [run_compare,cmp_eq]
     | _=>exact trivial
    | _=>exact trivial
theorem zeroCells_eq {zz:Array Value} {size n:Nat} (hz:zz.size=size):Builtin.zeroCells zz n=⟨repl zz.toList n⟩:=by
 apply Array.ext'
 unfold Builtin.zeroCells
 exact range_zero zz n
theorem isI64_some {t:TypeId} (h:isI64 P t=true):P.underlying t=some (.int .i64):=by
 unfold isI64 at h
 split at h
 ·assumption
 ·cases h
theorem run_append_make {ts:Array TypeId} {ty t u e:TypeId} {i:TypeInfo} {z:Value} {args:Array Value} {k:IntKind} {m:Nat}
  (h0:ts[0]?=some t) (h1:ts[1]?=some u) (hu:P.underlying u=some (.int .i64)) (ht:P.underlying t=some (.slice e)) (hi:P.info? e=some i) (hiz:i.zero=some z)
  (ha0:args[0]?=some (.slice none 0 0)) (ha1:args[1]?=some (.int k (m:Int))) (hm:0 < m) (hsm:m≤1000000) (hby:i.bytes≤1000000) (hsz:z.cells.size=i.size) :
  ∃ nc k,m≤nc∧(Builtin.append_ ts ty args).run P w=.ok (.slice (some ⟨w.heap.size,0,none⟩) m nc) (({ w with drawn:=k }:World).alloc (.cells ((#[]:Array Value)++Builtin.zeroCells z.cells m++Builtin.zeroCells z.cells (nc - m)) e)):=by
 have hs:∀ w:World,(sizeOf e).run P w=.ok i.size w:=by intro w; simp [sizeOf,typeInfo,hi]
 have hti:∀ w:World,(typeInfo e).run P w=.ok i w:=by intro w; simp [typeInfo,hi]
 have hzv:∀ w:World,(zeroValue e).run P w=.ok z w:=by intro w; simp [zeroValue,typeInfo,hi,hiz]
 have hlt:0 < m:=hm
 have n1:¬ ((m:Nat):Int) > IntKind.i64.max:=by rw [IntKind.max_i64]; omega
 have n2:¬ (Builtin.nextslicecap (m) 0 * i.bytes > 2 ^ 48):=by
  have h2:=nextslicecap_le hlt
  have h3:Builtin.nextslicecap (m) 0 * i.bytes≤(2 * (m)) * i.bytes:=Nat.mul_le_mul_right _ h2
  have h4:(2 * (m)) * i.bytes≤(2 * 1000000) * 1000000:=Nat.mul_le_mul (by omega) hby
  have h5:(2:Nat) ^ 48=281474976710656:=by decide
  omega
 have hbm:(m:Int) * (i.bytes:Int)≤1000000 * 1000000:=by
  have h4:m * i.bytes≤1000000 * 1000000:=Nat.mul_le_mul hsm hby
  have h6:((m * i.bytes:Nat):Int)≤((1000000 * 1000000:Nat):Int):=by omega
  rw [Int.natCast_mul] at h6
  simpa using h6
 have h48:(2:Int) ^ 48=281474976710656:=by decide
 have n4:¬ ((m:Int) * (i.bytes:Int) > 2 ^ 48):=by omega
 have hwr:IntKind.i64.wrap (m:Int)=(m:Int):=wrap64_in (by omega) (by omega)
 have n5:¬ ((m:Int) < 0):=by omega
 have hint:∀ (k:IntKind) (m:Int),(asInt (.int k m)).run P w=.ok m w:=fun _ _=>rfl
 refine ⟨Question.cut (.appendCap (m) 0 e) (w.tape w.drawn (.appendCap (m) 0 e)),w.drawn + 1,Nat.le_add_right _ _,?_⟩
 have n3:¬ (((m:Nat):Int) > IntKind.i64.max∧(True∨i.bytes=0)):=fun h=>n1 h.1
 have hfo:∀ k,(Builtin.firstCells i.size 0 (.slice none 0 0)).run P { w with drawn:=k }=.ok #[] { w with drawn:=k }:=fun k=>by simp [Builtin.firstCells]
 have hap:∀ k,((if m * i.size=0 then pure #[] else do pure (Builtin.zeroCells (← zeroValue e).cells m):Sem (Array Value))).run P { w with drawn:=k }=.ok (Builtin.zeroCells z.cells m) { w with drawn:=k }:=fun k=>by
  by_cases h:m * i.size=0
  ·rw [if_pos h]
   have:Builtin.zeroCells z.cells m=#[]:=by
    rw [← hsz] at h
    unfold Builtin.zeroCells
    rw [h,Array.range_zero']; simp
   rw [this]; simp
  ·rw [if_neg h]; simp [hzv]
 simp only [Builtin.append_,h0,h1,ha0,ha1,Sem.run_bind,run_underlying' ht,run_underlying' hu,hs,Result.andThen_ok,Sem.run_pure,hint,hwr,if_neg n5,hti,if_neg n4,Int.toNat_natCast,if_neg (Nat.not_le.2 hlt),if_true,if_neg n3,if_neg n2,run_choose,Question.forced,run_askRoom,hfo,hap,Bool.not_true,hzv,run_newRow,Bool.false_eq_true,if_false,Nat.zero_add]
end Go.Sh
namespace Go.Sh
open Go
variable {P:Program} {φ:Inj} {A:AW} {w:World}
theorem appendMake_ok (hM:MR P φ A w) {ts:Array TypeId} {t u:TypeId} (h0:ts[0]?=some t) (h1:ts[1]?=some u) (hu:isI64 P u=true) (ty:TypeId) {args:Array Value} {s s' x x':Value}
  (ha0:args[0]?=some s') (ha1:args[1]?=some x') (hs:VR φ s s') (hx:VR φ x x') :
  OpOk P φ A w (appendMake P A t s x) ((do pure (.value (← Builtin.append_ ts ty args):Next):Sem Next).run P w):=by
 cases hs with
 | slNil =>
  cases hx with
  | int k a =>
   cases a with
   | negSucc n=>exact trivial
   | ofNat m =>
    simp only [appendMake,makeOnto]
    cases he:elemA P t with
    | none=>exact trivial
    | some e =>
     simp only
     cases hz:zeroA P e with
     | none=>exact trivial
     | some z =>
      simp only
      cases hc:(smallT P e && (Nat.ble m 1000000 && Nat.ble 1 m)) with
      | false=>exact trivial
      | true =>
       simp only [Bool.and_eq_true] at hc
       obtain ⟨hc1,hc2,hc3⟩:=hc
       have hc2:=Nat.le_of_ble_eq_true hc2
       have hc3:=Nat.le_of_ble_eq_true hc3
       obtain ⟨i,z',g1,g2,g3,g4⟩:=smallT_some hc1
       obtain ⟨i',k1,k2,k3,k4,_⟩:=zeroA_some hz
       rw [g1] at k1
       cases k1
       rw [g3] at k2
       obtain rfl:=opt_some k2
       have hzl:z'.cells.size=i.size:=by
        have:=(elem_LR (φ:=φ) k3).length
        rw [k4] at this
        simpa using this.symm
       obtain ⟨nc,kk,q1,q2⟩:=run_append_make (P:=P) (w:=w) (ty:=ty) (m:=m) h0 h1 (isI64_some hu) (elemA_some he) g1 g3 ha0 ha1 (by omega) hc2 g2 hzl
       simp only [cond_true]
       obtain ⟨φ',r1,r2,r3,r4⟩:=newCells (hM.drawn kk) (e:=e) (c:=repl (cellsOf z') m) (cc:=repl z'.cells.toList m) (by simpa using (elem_LR k3).repl m) (Builtin.zeroCells z'.cells (nc - m)).toList (fz:=(0,0)) (fun off _=>by simp)
       have hex:((#[]:Array Value)++Builtin.zeroCells z'.cells m++Builtin.zeroCells z'.cells (nc - m):Array Value)=⟨repl z'.cells.toList m++(Builtin.zeroCells z'.cells (nc - m)).toList⟩:=by
        rw [zeroCells_eq (n:=m) hzl]
        apply Array.ext'; simp
       rw [hex] at q2
       refine ⟨φ',_,r1,(Ext.drawn w kk).trans r2,.inl ⟨_,run_v q2,?_⟩⟩
       refine new_row r4 (Nat.le_refl _) q1 ?_
       rw [szOf_info g1]
       simp only [Option.getD_some,List.length_append,Array.length_toList,size_zeroCells,repl_length,hzl,← Nat.add_mul]
       exact Nat.mul_le_mul_right _ (by omega)
  | _=>exact trivial
 | _=>exact trivial
theorem clear1_ok (hM:MR P φ A w) (ts:Array TypeId) (ty:TypeId) {args args':List Value} (ha:LR φ args args') :
  OpOk P φ A w (clear1 P A ts.toList args) ((do pure (.value (← Builtin.clear_ ts ty ⟨args'⟩):Next):Sem Next).run P w):=by
 unfold clear1
 cases hts:ts.toList with
 | nil=>exact trivial
 | cons t tl =>
  have h0:ts[0]?=some t:=by rw [← Array.getElem?_toList,hts]; rfl
  simp only
  cases he:elemA P t with
  | none=>exact trivial
  | some e =>
   have hu:=elemA_some he
   simp only
   cases hz:zeroA P e with
   | none=>exact trivial
   | some z =>
    obtain ⟨i,k1,k2,k3,k4,_⟩:=zeroA_some hz
    have hzl:z.cells.size=i.size:=by
     have:=(elem_LR (φ:=φ) k3).length
     rw [k4] at this
     simpa using this.symm
    have hzv:∀ w:World,(zeroValue e).run P w=.ok z w:=by intro w; simp [zeroValue,typeInfo,k1,k2]
    simp only
    cases ha with
    | nil=>exact trivial
    | cons h k =>
     simp only
     cases h with
     | slNil =>
      refine OpOk.same hM (.tuple .nil) (run_v ?_)
      simp [Builtin.clear_,h0,run_underlying' hu]
     | sl hadd hl hc hr hx =>
      rename_i a a' n c c'
      simp only
      cases n with
      | zero =>
       refine OpOk.same hM (.tuple .nil) (run_v ?_)
       simp [Builtin.clear_,h0,run_underlying' hu]
      | succ n =>
       have:Nat.beq (n + 1) 0=false:=rfl
       simp only [this,cond_false]
       cases hw:wr A a.block a.off (repl (cellsOf z) (n + 1)) with
       | none=>exact trivial
       | some A' =>
        obtain ⟨w',r1,r2,r3⟩:=wr_ok hM hadd ((elem_LR k3).repl (n + 1)) hw
        have hrun:∀ l,(Builtin.clear_ ts ty ⟨.slice (some a') (n + 1) c'::l⟩).run P w=.ok (.tuple #[]) w':=fun l=>by
         simp [Builtin.clear_,h0,run_underlying' hu,hzv,zeroCells_eq (n:=n + 1) hzl,r1]
        exact ⟨φ,w',r2,r3,.inl ⟨_,run_v (hrun _),.tuple .nil⟩⟩
     | sl0 hb =>
      refine OpOk.same hM (.tuple .nil) (run_v ?_)
      simp [Builtin.clear_,h0,run_underlying' hu]
     | _=>exact trivial
end Go.Sh
namespace Go.Sh
open Go
variable {P:Program} {φ:Inj} {A:AW} {w:World}
theorem next_noEscape (fn:Func) (h:fn.name="internal/abi.NoEscape") (ho:fn.origin=""):Extern.findNext fn=none:=by
 cases fn; simp only at h ho; subst h ho; kernel_rfl
theorem find_noEscape (fn:Func) (h:fn.name="internal/abi.NoEscape") (ho:fn.origin=""):Extern.find fn=some Extern.AbiNoEscape.same:=by
 cases fn; simp only at h ho; subst h ho; kernel_rfl
theorem next_makeNoZero (fn:Func) (h:fn.name="internal/bytealg.MakeNoZero") (ho:fn.origin=""):Extern.findNext fn=none:=by
 cases fn; simp only at h ho; subst h ho; kernel_rfl
theorem find_makeNoZero (fn:Func) (h:fn.name="internal/bytealg.MakeNoZero") (ho:fn.origin=""):Extern.find fn=some (Extern.BytealgMakeNoZero.makeNoZero fn.params fn.resultTypes):=by
 cases fn; simp only at h ho; subst h ho; kernel_rfl
theorem next_indexByte (fn:Func) (h:fn.name="internal/bytealg.IndexByteString") (ho:fn.origin=""):Extern.findNext fn=none:=by
 cases fn; simp only at h ho; subst h ho; kernel_rfl
theorem find_indexByte (fn:Func) (h:fn.name="internal/bytealg.IndexByteString") (ho:fn.origin=""):Extern.find fn=some Extern.BytealgIndexByte.indexByte:=by
 cases fn; simp only at h ho; subst h ho; kernel_rfl
theorem next_count (fn:Func) (h:fn.name="internal/bytealg.CountString") (ho:fn.origin=""):Extern.findNext fn=none:=by
 cases fn; simp only at h ho; subst h ho; kernel_rfl
theorem find_count (fn:Func) (h:fn.name="internal/bytealg.CountString") (ho:fn.origin=""):Extern.find fn=some Extern.BytealgCount.count:=by
 cases fn; simp only at h ho; subst h ho; kernel_rfl
def NoCount (P:Program):Prop:=∀ (f:Nat) (fn:Func),P.funcs[f]?=some fn→(fn.name == "runtime.NumGoroutine")=false
theorem noEscape_ok (hM:MR P φ A w) {args args':List Value} (ha:LR φ args args'):OpOk P φ A w (noEscapeA A args) ((do pure (.value (← Extern.AbiNoEscape.same ⟨args'⟩):Next):Sem Next).run P w):=by
 cases ha with
 | nil=>exact trivial
 | cons h k =>
  cases k with
  | nil=>exact OpOk.same hM h (run_v rfl)
  | cons=>exact trivial
theorem digits_single:∀ (n t:Nat) (acc:Array Value),(∀ v ∈ acc.toList,single v=true)→∀ v ∈ (Extern.BytealgMakeNoZero.digits n t acc).toList,single v=true
 | 0,_,_,h=>h
 | n + 1,t,acc,h=>digits_single n (t / 256) _ (by
   intro v hv
   rw [Array.toList_push,List.mem_append] at hv
   rcases hv with hv | hv
   ·exact h v hv
   ·simp at hv; subst hv; rfl)
theorem unk_LR:∀ {l:List Value},(∀ v ∈ l,single v=true)→LR φ (repl [unk] l.length) l
 | [],_=>.nil
 | v::_,h=>.cons (.unk (h v (List.mem_cons_self ..))) (unk_LR fun u hu=>h u (List.mem_cons_of_mem _ hu))
theorem makeNoZero_ok (hM:MR P φ A w) (ps res:Array TypeId) {args args':List Value} (ha:LR φ args args'):OpOk P φ A w (makeNoZeroA P A res.toList args) ((do pure (.value (← Extern.BytealgMakeNoZero.makeNoZero ps res ⟨args'⟩):Next):Sem Next).run P w):=by
 unfold makeNoZeroA
 cases hres:res.toList with
 | nil=>exact trivial
 | cons t ts =>
  have h0:res[0]?=some t:=by rw [← Array.getElem?_toList,hres]; rfl
  cases ha with
  | nil=>exact trivial
  | cons h k =>
   cases k with
   | cons=>exact trivial
   | nil =>
    cases h with
    | int kk n =>
     cases kk with
     | i64 =>
      cases n with
      | negSucc n=>exact trivial
      | ofNat n =>
       simp only [makeNoZeroB]
       cases he:elemA P t with
       | none=>exact trivial
       | some e =>
        have hu:=elemA_some he
        simp only
        cases hc:(Nat.ble n 1000000 && sz1 P e) with
        | false=>exact trivial
        | true =>
         simp only [Bool.and_eq_true] at hc
         have hn:=Nat.le_of_ble_eq_true hc.1
         have hs:=sz1_some hc.2
         simp only [cond_true]
         obtain ⟨cap,hcap,hch⟩:=run_choose_cap (P:=P) n e w
         obtain ⟨q,x1,x2,x3,hq,hdef⟩:∃ (q:Question) (x1 x2:Sem Value) (x3:Sem PUnit),q.forced=false∧Extern.BytealgMakeNoZero.makeNoZero ps res ⟨[Value.int .i64 (Int.ofNat n)]⟩ =
           (do
            let some t:=res[0]? | x1
            let .slice elem ← underlying t | x2
            if (Int.ofNat n) < 0 || (Int.ofNat n) > 2 ^ 48 then x3
            let cap ← choose (.appendCap (Int.ofNat n).toNat 0 elem)
            askRoom cap
            let bytes ← choose q
            let a ← newRow elem (Extern.BytealgMakeNoZero.digits cap bytes #[])
            pure (.slice (some a) (Int.ofNat n).toNat cap)):=⟨_,_,_,_,by rfl,rfl⟩
         obtain ⟨bytes,hby⟩:∃ b,(choose q).run P { w with drawn:=w.drawn + 1 }=.ok b { w with drawn:=w.drawn + 1 + 1 }:=⟨_,by rw [run_choose,hq]; rfl⟩
         generalize hds:(Extern.BytealgMakeNoZero.digits cap bytes #[])=ds
         have hsz:ds.size=cap:=by rw [← hds,Lib.size_digits]; simp
         have hsing:∀ v ∈ ds.toList,single v=true:=by rw [← hds]; exact digits_single _ _ _ (by simp)
         have n1:¬ ((n:Int) < 0∨(n:Int) > 2 ^ 48):=by omega
         have hrun:(Extern.BytealgMakeNoZero.makeNoZero ps res ⟨[Value.int .i64 (Int.ofNat n)]⟩).run P w=.ok (.slice (some ⟨w.heap.size,0,none⟩) n cap) (({ w with drawn:=w.drawn + 1 + 1 }:World).alloc (.cells ds e)):=by
          rw [hdef]
          simp only [h0,Sem.run_bind,run_underlying' hu,Result.andThen_ok]
          simp only [Int.ofNat_eq_natCast,Int.toNat_natCast,decide_eq_true_eq,Bool.or_eq_true,if_neg n1,Sem.run_bind,hch,Result.andThen_ok,run_askRoom,hby,hds,run_newRow,Sem.run_pure]
         have hex:ds=⟨ds.toList.take n++ds.toList.drop n⟩:=by apply Array.ext'; simp
         have hlen:(ds.toList.take n).length=n:=by simp; omega
         obtain ⟨φ',r1,r2,r3,r4⟩:=newCells (hM.drawn (w.drawn + 1 + 1)) (e:=e) (c:=repl [unk] n) (cc:=ds.toList.take n) (by
          have:=unk_LR (φ:=φ) (l:=ds.toList.take n) (fun v hv=>hsing v (List.mem_of_mem_take hv))
          rw [hlen] at this
          simpa using this) (ds.toList.drop n) (fz:=(0,0)) (fun off _=>by simp)
         rw [hex] at hrun
         refine ⟨φ',_,r1,(Ext.drawn w _).trans r2,.inl ⟨_,run_v hrun,new_row r4 (Nat.le_refl _) hcap ?_⟩⟩
         rw [hs]
         simp only [Option.getD_some,List.take_append_drop,Array.length_toList,hsz]
         omega
     | _=>exact trivial
    | _=>exact trivial
theorem idxByte_eq (s:ByteArray) (c:UInt8):∀ (l pre:List UInt8),s.data.toList=pre++l →
  idxByte c.toNat l pre.length=match (List.range' pre.length l.length).find? fun i=>s[i]! == c with
   | some i=>(i:Int)
   | none => -1
 | [],pre,_=>rfl
 | b::l,pre,h=>by
  have hb:s[pre.length]! = b:=by
   have h1:pre.length < s.size:=by
    show pre.length < s.data.size
    rw [← Array.length_toList,h]; simp
   have h2:s.data.toList[pre.length]?=some b:=by rw [h]; simp
   rw [getElem!_pos s pre.length h1]
   show s.data[pre.length]=b
   rw [Array.getElem?_toList,Array.getElem?_eq_getElem (show pre.length < s.data.size from h1)] at h2
   injection h2
  simp only [idxByte,List.length_cons,List.range'_succ,List.find?_cons,hb]
  have hbc:Nat.beq b.toNat c.toNat=(b == c):=by
   by_cases e:b=c
   ·subst e; simp
   ·have:¬ b.toNat=c.toNat:=fun h=>e (UInt8.toNat_inj.1 h)
    have h1:Nat.beq b.toNat c.toNat=false:=by
     cases hq:Nat.beq b.toNat c.toNat with
     | false=>rfl
     | true=>exact absurd (Nat.eq_of_beq_eq_true hq) this
    rw [h1,beq_eq_false_iff_ne.2 e]
  rw [hbc]
  cases hq:(b == c) with
  | true=>rfl
  | false =>
   simp only [cond_false]
   have:=idxByte_eq s c l (pre++[b]) (by rw [h]; simp)
   simpa using this
theorem indexByte_ok (hM:MR P φ A w) {args args':List Value} (ha:LR φ args args'):OpOk P φ A w (indexByteA A args) ((do pure (.value (← Extern.BytealgIndexByte.indexByte ⟨args'⟩):Next):Sem Next).run P w):=by
 cases ha with
 | nil=>exact trivial
 | cons h k =>
  cases k with
  | nil=>exact trivial
  | cons h2 k =>
   cases k with
   | cons=>exact trivial
   | nil =>
    cases h with
    | string s =>
     simp only [indexByteA,indexByteB]
     cases h2 with
     | int kk c =>
      cases kk with
      | u8 =>
       refine OpOk.same hM (.int _ _) (run_v ?_)
       rw [run_indexByte_string]
       have:=idxByte_eq s c.toNat.toUInt8 s.data.toList [] rfl
       simp only [List.length_nil] at this
       simp only [bytesOf,this,firstIdx,List.range_eq_range']
       rfl
      | _=>exact trivial
     | _=>exact trivial
    | _=>exact trivial
theorem foldl_loop {β:Type} (f:β→UInt8→β) (s:ByteArray) (stop:Nat) (h:stop≤s.size):∀ (i j:Nat) (b:β),j + i=stop→(ByteArray.foldlM.loop (m:=_root_.Id) (fun a b=>pure (f a b)) s stop h i j b)=pure ((s.data.toList.drop j).take i |>.foldl f b)
 | 0,j,b,e=>by
  unfold ByteArray.foldlM.loop
  split <;> simp
 | i + 1,j,b,e=>by
  unfold ByteArray.foldlM.loop
  have hj:j < stop:=by omega
  have hs:j < s.data.toList.length:=by have:s.data.toList.length=s.size:=rfl; omega
  rw [dif_pos hj]
  simp only [pure_bind]
  rw [foldl_loop f s stop h i (j + 1) _ (by omega)]
  rw [List.drop_eq_getElem_cons hs,List.take_succ_cons,List.foldl_cons]
  rfl
theorem foldl_bytes {β:Type} (f:β→UInt8→β) (s:ByteArray) (b:β):s.foldl f b=s.data.toList.foldl f b:=by
 have:=foldl_loop f s s.size (Nat.le_refl _) s.size 0 b (by omega)
 simp only [List.drop_zero] at this
 have e:s.data.toList.take s.size=s.data.toList:=List.take_of_length_le (Nat.le_of_eq (show s.data.toList.length=s.size from rfl))
 rw [e] at this
 unfold ByteArray.foldl ByteArray.foldlM
 simp only [Nat.le_refl,dif_pos]
 exact this
theorem cntByte_eq (c:UInt8):∀ (l:List UInt8) (n:Nat),((cntByte c.toNat l n:Nat):Int)=l.foldl (fun (n:Int) x=>if x == c then n + 1 else n) (n:Int)
 | [],n=>rfl
 | b::l,n=>by
  unfold cntByte
  rw [cntByte_eq c l,List.foldl_cons]
  congr 1
  by_cases h:b=c
  ·subst h; simp
  ·have:Nat.beq b.toNat c.toNat=false:=by
    rw [← Bool.not_eq_true]; intro hb; exact h (UInt8.toNat_inj.1 (Nat.eq_of_beq_eq_true hb))
   simp [this,h]
theorem run_count_string (s:ByteArray) (c:Int):(Extern.BytealgCount.count #[.string s,.int .u8 c]).run P w=.ok (.int .i64 (s.foldl (fun (n:Int) x=>if x == c.toNat.toUInt8 then n + 1 else n) 0)) w:=by
 change Sem.run P (do
  let b ← Extern.Bytes.bytesOf (.string s)
  let c ← Extern.Bytes.asByte (.int .u8 c)
  pure (goInt (b.foldl (fun n x=>if x == c then n + 1 else n) (0:Nat)))) w=_
 simp only [Extern.Bytes.bytesOf,Extern.Bytes.asByte,Sem.run_bind,Sem.run_pure,Result.andThen]
 rfl
theorem count_ok (hM:MR P φ A w) {args args':List Value} (ha:LR φ args args'):OpOk P φ A w (countA A args) ((do pure (.value (← Extern.BytealgCount.count ⟨args'⟩):Next):Sem Next).run P w):=by
 cases ha with
 | nil=>exact trivial
 | cons h k =>
  cases k with
  | nil=>exact trivial
  | cons h2 k =>
   cases k with
   | cons=>exact trivial
   | nil =>
    cases h with
    | string s =>
     simp only [countA,countB]
     cases h2 with
     | int kk c =>
      cases kk with
      | u8 =>
       refine OpOk.same hM (.int _ _) (run_v ?_)
       rw [run_count_string,foldl_bytes]
       have:=cntByte_eq c.toNat.toUInt8 s.data.toList 0
       rw [show ((0:Nat):Int)=0 from rfl] at this
       rw [← this]
       rfl
      | _=>exact trivial
     | _=>exact trivial
    | _=>exact trivial
theorem bodyOf_some {f:FuncId} {p:Func × Option Code} (h:bodyOf P f=some p):P.funcs[f]?=some p.1∧p.2=p.1.body:=by
 unfold bodyOf fnOf at h
 rw [nth_eq] at h
 cases hf:P.funcs.toList[f]? with
 | none=>rw [hf] at h; cases h
 | some fn =>
  rw [hf] at h
  cases h
  exact ⟨by rw [← Array.getElem?_toList]; exact hf,rfl⟩
theorem extern_ok (hP:NoCount P) {f:FuncId} {fn:Func} (hf:P.funcs[f]?=some fn) (hb:fn.body=none) {e:Array Value→Sem Value} (hn:Extern.findNext fn=none) (he:Extern.find fn=some e) {args':List Value} {y:R}
  (h:OpOk P φ A w y ((do pure (.value (← e ⟨args'⟩):Next):Sem Next).run P w)):OpOk P φ A w y ((callFunc f ⟨args'⟩).run P w):=by
 rw [run_callFunc_extern hf (hP f fn hf) (by rw [hb]; rfl) hn he]
 rw [Sem.run_bind] at h
 exact h
theorem callFn_ok (hP:NoCount P) (hM:MR P φ A w) (f:FuncId) {args args':List Value} (ha:LR φ args args'):OpOk P φ A w (callFn P A f args) ((callFunc f ⟨args'⟩).run P w):=by
 unfold callFn
 cases hb:bodyOf P f with
 | none=>exact trivial
 | some p =>
  obtain ⟨hf,h2⟩:=bodyOf_some hb
  have hname:=hP f p.1 hf
  have h1:p.1.name ≠ "runtime.NumGoroutine":=by simpa using hname
  simp only
  cases h3:p.2 with
  | some c =>
   rw [h3] at h2
   exact ⟨rfl,args',by simp [callFunc,hf,h1,← h2],ha⟩
  | none =>
   rw [h3] at h2
   simp only [externA]
   cases ho:(p.1.origin == "") with
   | false=>exact trivial
   | true =>
    have ho:p.1.origin="":=by simpa using ho
    simp only [cond_true,externB]
    cases q1:(p.1.name == "internal/abi.NoEscape") with
    | true =>
     have q1:p.1.name="internal/abi.NoEscape":=by simpa using q1
     exact extern_ok hP hf h2.symm (next_noEscape _ q1 ho) (find_noEscape _ q1 ho) (noEscape_ok hM ha)
    | false =>
     simp only [cond_false]
     cases q2:(p.1.name == "internal/bytealg.MakeNoZero") with
     | true =>
      have q2:p.1.name="internal/bytealg.MakeNoZero":=by simpa using q2
      exact extern_ok hP hf h2.symm (next_makeNoZero _ q2 ho) (find_makeNoZero _ q2 ho) (makeNoZero_ok hM _ _ ha)
     | false =>
      simp only [cond_false]
      cases q3:(p.1.name == "internal/bytealg.IndexByteString") with
      | true =>
       have q3:p.1.name="internal/bytealg.IndexByteString":=by simpa using q3
       exact extern_ok hP hf h2.symm (next_indexByte _ q3 ho) (find_indexByte _ q3 ho) (indexByte_ok hM ha)
      | false =>
       simp only [cond_false]
       cases q4:(p.1.name == "internal/bytealg.CountString") with
       | true =>
        have q4:p.1.name="internal/bytealg.CountString":=by simpa using q4
        exact extern_ok hP hf h2.symm (next_count _ q4 ho) (find_count _ q4 ho) (count_ok hM ha)
       | false =>
        simp only [cond_false]
        cases q5:(p.1.name == "internal/bytealg.abigen_runtime_cmpstring") with
        | true =>
         have q5:p.1.name="internal/bytealg.abigen_runtime_cmpstring":=by simpa using q5
         exact extern_ok hP hf h2.symm (next_compare _ q5 ho) (find_compare _ q5 ho) (compare_ok hM ha)
        | false=>exact trivial
theorem run_loadBytes:∀ (ns:List Int) (a:Addr) (acc:ByteArray),(∀ j v,(ns.map (Value.int .u8))[j]?=some v→w.cell? (a.add j)=some v) →
  (Go.loadBytes a acc ns.length).run P w=.ok (ns.foldl (fun r n=>r.push (UInt8.ofNat n.toNat)) acc) w
 | [],a,acc,_=>rfl
 | n::ns,a,acc,h=>by
  have h0:=h 0 (.int .u8 n) rfl
  have e0:a.add 0=a:=rfl
  rw [e0] at h0
  have hr:=run_loadBytes ns (a.add 1) (acc.push (UInt8.ofNat n.toNat)) (fun j v hv=>by
   have:=h (j + 1) v hv
   have e1:(a.add 1).add j=a.add (j + 1):=by
    cases a; simp [Addr.add,Nat.add_assoc,Nat.add_comm 1]
   rw [e1]; exact this)
  simp only [List.length_cons,Go.loadBytes,Sem.run_bind,run_load,h0,Result.andThen_ok,List.foldl_cons]
  exact hr
theorem byteT_some {t e:TypeId} (h:byteT P t=some e):P.underlying t=some (.pointer e)∧szOf P e=some 1:=by
 unfold byteT at h
 split at h
 ·rename_i e' hu
  cases hs:sz1 P e' with
  | false=>rw [hs] at h; cases h
  | true=>rw [hs] at h; cases h; exact ⟨hu,sz1_some hs⟩
 ·cases h
theorem string1_ok (hM:MR P φ A w) (ts:Array TypeId) (ty:TypeId) {args args':List Value} (ha:LR φ args args') :
  OpOk P φ A w (string1 P A ts.toList args) ((do pure (.value (← Builtin.unsafeString_ ts ty ⟨args'⟩):Next):Sem Next).run P w):=by
 unfold string1
 cases hts:ts.toList with
 | nil=>exact trivial
 | cons t ts' =>
  have h0:ts[0]?=some t:=by rw [← Array.getElem?_toList,hts]; rfl
  cases ha with
  | nil=>exact trivial
  | cons h k =>
   cases k with
   | nil=>exact trivial
   | cons h2 k =>
    cases k with
    | cons=>exact trivial
    | nil =>
     rename_i p p' n n'
     simp only
     obtain ⟨x1,x2,x3,x4,x5,hdef⟩:∃ (x1:Sem Value) (x2 x3:Sem PUnit) (x4 x5:Sem Value),∀ p n,Builtin.unsafeString_ ts ty ⟨[Value.pointer p,n]⟩=(do
       let n ← asInt n
       let some pt:=ts[0]? | x1
       if n < 0 then x2
       if n > IntKind.i64.max then x3
       match p with
       | none =>
        if n=0 then pure (.string .empty)
        else x4
       | some a =>
        if n=0 then pure (.string .empty)
        else if ← variablesAt a (← elemOf pt) n.toNat then do
         let s ← Go.loadBytes a .empty n.toNat
         freeze a n.toNat
         pure (.string s)
        else x5):=⟨_,_,_,_,_,fun _ _=>rfl⟩
     have hint:∀ (k:IntKind) (m:Int),(asInt (.int k m)).run P w=.ok m w:=fun _ _=>rfl
     cases h with
     | ptrNil =>
      cases h2 with
      | int kk m =>
       cases m with
       | negSucc m=>exact trivial
       | ofNat m =>
        simp only [stringB,stringC]
        cases hm:Nat.ble m 1000000 with
        | false=>exact trivial
        | true =>
         simp only [cond_true]
         cases hz:Nat.beq m 0 with
         | false=>exact trivial
         | true =>
          have hz:=Nat.eq_of_beq_eq_true hz
          subst hz
          refine OpOk.same hM (.string _) (run_v ?_)
          rw [hdef]
          simp [h0,hint,empty_string]
      | _=>exact trivial
     | ptr had =>
      rename_i a a'
      cases h2 with
      | int kk m =>
       cases m with
       | negSucc m=>exact trivial
       | ofNat m =>
        simp only [stringB,stringC]
        cases hm:Nat.ble m 1000000 with
        | false=>exact trivial
        | true =>
         have hm:=Nat.le_of_ble_eq_true hm
         have n1:¬ ((m:Int) < 0):=by omega
         have n2:¬ ((m:Int) > IntKind.i64.max):=by rw [IntKind.max_i64]; omega
         simp only [cond_true]
         cases hz:Nat.beq m 0 with
         | true =>
          have hz:=Nat.eq_of_beq_eq_true hz
          subst hz
          refine OpOk.same hM (.string _) (run_v ?_)
          rw [hdef]
          simp [h0,hint,empty_string]
         | false =>
          have hz0:m ≠ 0:=by rintro rfl; simp at hz
          have hz1:¬ ((m:Int)=0):=by omega
          simp only [cond_false]
          cases hb:byteT P t with
          | none=>exact trivial
          | some e =>
           obtain ⟨hu,hs⟩:=byteT_some hb
           simp only [freezeA]
           cases hg:A.heap.get a.block with
           | none=>exact trivial
           | some o =>
            cases o with
            | cells c e' ro =>
             simp only
             cases hee:Nat.beq e e' with
             | false=>exact trivial
             | true =>
              have hee:=Nat.eq_of_beq_eq_true hee
              subst hee
              simp only [cond_true,freezeO,lenL0,takeL_eq,dropL_eq]
              cases hcd:(Nat.ble A.lim a.block && Nat.ble (a.off + m) c.length) with
              | false=>exact trivial
              | true =>
               simp only [Bool.and_eq_true] at hcd
               have hlim:=Nat.le_of_ble_eq_true hcd.1
               have hl:=Nat.le_of_ble_eq_true hcd.2
               simp only [cond_true,strR]
               cases hst:strOfCells ((c.drop a.off).take m) with
               | none=>exact trivial
               | some bs =>
                obtain ⟨cc,fz,n,sz,dd,g1,g2,g3,g4,g5⟩:=hM.cells had hg
                obtain ⟨ns,h4,h5⟩:=strOfCells_ok (g5.part a.off m hl) hst
                have hfit:=g5.fits
                have hsz:=g5.size
                have hnl:ns.length=m:=by
                 have:=congrArg List.length h4
                 simp only [List.length_take,List.length_drop,List.length_map] at this
                 omega
                have hv:=run_variablesAt (P:=P) (a:=a') (k:=a'.off) (n:=m) g4 (cellsOf_szOf hs) (by omega) (by omega) (by simp; omega)
                have hcell:∀ j v,(ns.map (Value.int .u8))[j]?=some v→w.cell? (a'.add j)=some v:=fun j v hj=>by
                 rw [← h4] at hj
                 have hq:=(List.getElem?_eq_some_iff.1 hj).1
                 rw [add_of_none g3,cell_lit g4,g2]
                 rw [List.getElem?_take_of_lt (by simp at hq; omega),List.getElem?_drop] at hj
                 simpa [Nat.add_comm,Nat.add_left_comm,Nat.add_assoc] using hj
                have hld:=run_loadBytes (P:=P) ns a' .empty hcell
                rw [hnl,foldl_push,h5] at hld
                have hfr:w.freeze a' m=setBlk w a'.block (.cells ⟨cc⟩ e (frz fz a'.off m)):=by
                 have:=freeze_eq (off:=a'.off) (sp:=none) g4 hz0
                 rw [← this]
                 congr 1
                 cases a'; simp_all
                have hset:=hM.set (o:=.cells c e true) (oc:=.cells ⟨cc⟩ e (frz fz a'.off m)) g1 hlim (n':=n) (s':=sz) (d':=dd) ⟨_,_,_,rfl,⟨rfl,g5.size,g5.unit,g5.fits,g5.cells,(fun h=>by cases h),fun h=>by cases h⟩⟩ ⟨rfl,rfl,rfl⟩
                refine ⟨φ,_,hset.1,hset.2,.inl ⟨_,run_v ?_,.string _⟩⟩
                rw [hdef]
                simp only [h0,Sem.run_bind,hint,Int.ofNat_eq_natCast,Result.andThen_ok,if_neg n1,if_neg n2,if_neg hz1,Sem.run_pure,elemOf,run_underlying' hu,Int.toNat_natCast,hv,if_true,hld,run_freeze,hfr]
                rfl
            | _=>exact trivial
      | _=>exact trivial
     | _=>exact trivial
end Go.Sh
namespace Go.Sh
open Go
variable {P:Program} {φ:Inj} {A:AW} {w:World}
theorem panicB_ok (hM:MR P φ A w) {x x':Value} (hx:VR φ x x'):OpOk P φ A w (panicB A x) ((do pure (.value (← Instr.panic x'):Next):Sem Next).run P w):=by
 cases hx with
 | iface t h=>exact OpOk.pan hM (.iface t h) (run_vh rfl)
 | _=>exact trivial
theorem panic1_ok (hM:MR P φ A w) {args args':List Value} (ha:LR φ args args'):OpOk P φ A w (panic1 A args) ((do pure (.value (← Instr.panic ((⟨args'⟩:Array Value).getD 0 .nilIface)):Next):Sem Next).run P w):=by
 cases ha with
 | nil=>exact trivial
 | cons h k=>exact panicB_ok hM h
theorem sliceData1_ok (hM:MR P φ A w) (ts:Array TypeId) (ty:TypeId) {args args':List Value} (ha:LR φ args args') :
  OpOk P φ A w (sliceData1 A args) ((do pure (.value (← Builtin.unsafeSliceData_ ts ty ⟨args'⟩):Next):Sem Next).run P w):=by
 cases ha with
 | nil=>exact trivial
 | cons h k =>
  cases k with
  | cons=>exact trivial
  | nil =>
   simp only [sliceData1]
   cases h with
   | slNil=>exact OpOk.same hM .ptrNil (run_v rfl)
   | sl had hl hc hr hx =>
    rename_i a a' l c c'
    simp only [sliceDataB]
    cases h0:Nat.beq c 0 with
    | true=>exact trivial
    | false =>
     have hc0:c' ≠ 0:=by
      rintro rfl
      have:c=0:=by omega
      subst this
      simp at h0
     refine OpOk.same hM (.ptr had) (run_v ?_)
     show (if c' ≠ 0 then (pure (.pointer (some a')):Sem Value) else _).run P w=_
     rw [if_pos hc0]
     rfl
   | sl0 had=>exact trivial
   | _=>exact trivial
theorem putO_some {b:Nat} {o:AObj} {A':AW} (h:putO A b o=some A'):A.lim≤b∧A'=A.set b (some o):=by
 unfold putO at h
 cases hb:Nat.ble A.lim b with
 | false=>rw [hb] at h; cases h
 | true=>rw [hb] at h; cases h; exact ⟨Nat.le_of_ble_eq_true hb,rfl⟩
theorem run_getObj {r:Nat} {o:Obj} (h:w.heap[r]?=some o) (ho:∀ c e f,o ≠ .cells c e f):(getObj r).run P w=.ok o w:=by
 unfold getObj
 simp only [Sem.run,h]
theorem entries_ok (hM:MR P φ A w) {r r':Nat} (hr:BlkR φ r r') {p:List MapEntry × Nat} (h:entriesA A r=some p):∃ n s d es',φ r=some (.at_ r' n s d)∧(getObj r').run P w=.ok (.map ⟨es'⟩ p.2) w∧ER φ p.1 es':=by
 unfold entriesA at h
 cases hg:A.heap.get r with
 | none=>rw [hg] at h; cases h
 | some o =>
  rw [hg] at h
  cases o with
  | map es c =>
   cases h
   obtain ⟨n,s,d,oc,h1,h2,es',rfl,h4⟩:=hM.objB hr hg
   exact ⟨n,s,d,es',h1,run_getObj h2 (by intro a b c h; cases h),h4⟩
  | _=>cases h
theorem range_ok (hM:MR P φ A w) (t:TypeId) {x x':Value} (hx:VR φ x x'):OpOk P φ A w (rangeA P A t x) ((do pure (.value (← Instr.range t x'):Next):Sem Next).run P w):=by
 cases hx with
 | string s =>
  simp only [rangeA]
  cases hu:P.underlying t with
  | none=>exact trivial
  | some d =>
   cases d with
   | string =>
    obtain ⟨h1,h2,h3⟩:=hM.add (o:=.siter s 0) (oc:=.stringIter s 0) (n:=0) (s:=0) ⟨rfl,rfl⟩
    refine ⟨_,_,h1,h2,.inl ⟨.pointer (some ⟨w.heap.size,0,none⟩),run_v (by simp [Instr.range,run_underlying' hu]),new_ptr (n:=0) (s:=0) (by simp [Inj.add])⟩⟩
   | _=>exact trivial
 | mapNil =>
  simp only [rangeA]
  cases hu:P.underlying t with
  | none=>exact trivial
  | some d =>
   cases d with
   | map =>
    obtain ⟨h1,h2,h3⟩:=hM.add (o:=.miter none 0 [] 0) (oc:=.mapIter none 0 #[] 0) (n:=0) (s:=0) ⟨rfl,rfl⟩
    refine ⟨_,_,h1,h2,.inl ⟨.pointer (some ⟨w.heap.size,0,none⟩),run_v (by simp [Instr.range,run_underlying' hu]),new_ptr (n:=0) (s:=0) (by simp [Inj.add])⟩⟩
   | _=>exact trivial
 | map hr =>
  rename_i r r'
  simp only [rangeA]
  cases hu:P.underlying t with
  | none=>exact trivial
  | some d =>
   cases d with
   | map =>
    simp only [rangeMap]
    cases hen:entriesA A r with
    | none=>exact trivial
    | some p =>
     obtain ⟨n,s,d,es',h1,h2,h3⟩:=entries_ok hM hr hen
     obtain ⟨g1,g2,g3⟩:=hM.add (o:=.miter (some r) p.2 [] p.2) (oc:=.mapIter (some r') p.2 #[] p.2) (n:=0) (s:=0) ⟨rfl,r',hr,rfl⟩
     refine ⟨_,_,g1,g2,.inl ⟨.pointer (some ⟨w.heap.size,0,none⟩),run_v (by simp [Instr.range,run_underlying' hu,h2]),new_ptr (n:=0) (s:=0) (by simp [Inj.add])⟩⟩
   | _=>exact trivial
 | _=>exact trivial
theorem ER.filter {l l':List MapEntry} (h:ER φ l l') (seen:List Nat):ER φ (leftA seen l) (l'.filter fun e=>!seen.contains e.born):=by
 have hs:∀ (b:Nat) (s:List Nat),seenB b s=s.contains b:=by
  intro b s
  induction s with
  | nil=>rfl
  | cons n s ih =>
   show (bif Nat.beq n b then true else seenB b s)=_
   rw [List.contains_cons,ih]
   cases hb:Nat.beq n b with
   | true=>have:=Nat.eq_of_beq_eq_true hb; subst this; simp
   | false =>
    have:n ≠ b:=by intro e; subst e; simp at hb
    simp [Ne.symm this]
 induction h with
 | nil=>exact .nil
 | cons hk hv hb h ih =>
  rename_i e e' l l'
  show ER φ (bif seenB e.born seen then leftA seen l else e::leftA seen l) _
  rw [hs,List.filter_cons,← hb]
  cases seen.contains e.born with
  | true=>simpa using ih
  | false=>simpa using ER.cons hk hv hb ih
theorem allLate_ER {l l':List MapEntry} (h:ER φ l l') (last:Nat):allLate last l=l'.all fun e=>decide (last≤e.born):=by
 induction h with
 | nil=>rfl
 | cons hk hv hb h ih =>
  rename_i e e' l l'
  show (bif Nat.ble last e.born then allLate last l else false)=_
  rw [List.all_cons,ih,← hb]
  cases hb:Nat.ble last e.born with
  | true=>simp [Nat.le_of_ble_eq_true hb]
  | false =>
   have:¬ last≤e.born:=by intro h; have:=Nat.ble_eq_true_of_le h; rw [hb] at this; cases this
   simp [this]
theorem forced1:(Question.mapNext 1).forced=true:=rfl
def nextTail (r m since:Nat) (seen:List Nat) (clock:Nat) (l:List MapEntry):Sem Value:=do
 let left:Array MapEntry:=⟨l⟩
 let old:=left.filter (·.born < since)
 let new:=left.filter (·.born ≥ since)
 let candidates:=(if old.isEmpty then #[none] else #[])++(old++new).map some
 match candidates[← choose (.mapNext candidates.size)]? with
 | some (some e) =>
  setObj r (.mapIter (some m) since ((⟨seen⟩:Array Nat).push e.born) clock)
  pure (.tuple #[.bool true,e.key,e.val])
 | some none=>pure (.tuple #[.bool false])
 | none=>stuck "Next: no such candidate"
theorem next_run {b r since last clock:Nat} {seen:List Nat} {es':List MapEntry} {ty:TypeId} {sp:Option Nat} (h1:(getObj b).run P w=.ok (.mapIter (some r) since ⟨seen⟩ last) w) (h2:(getObj r).run P w=.ok (.map ⟨es'⟩ clock) w)
  (hnot:¬ (seen ≠ []∧es' ≠ []∧(es'.all fun e=>decide (last≤e.born))=true)) :
  (Instr.next (.pointer (some ⟨b,0,sp⟩)) false ty).run P w=(nextTail b r since seen clock (es'.filter fun e=>!seen.contains e.born)).run P w:=by
 have hc:((!(⟨seen⟩:Array Nat).isEmpty) && (!(⟨es'⟩:Array MapEntry).isEmpty) && (⟨es'⟩:Array MapEntry).all (fun e=>decide (e.born ≥ last)))=false:=by
  rw [← Bool.not_eq_true]
  intro h
  apply hnot
  simp only [Bool.and_eq_true,Bool.not_eq_true',List.isEmpty_toArray,List.isEmpty_eq_false_iff,List.all_toArray] at h
  exact ⟨h.1.1,h.1.2,by simpa using h.2⟩
 have hf:(⟨es'⟩:Array MapEntry).filter (fun e=>!(⟨seen⟩:Array Nat).contains e.born)=⟨es'.filter fun e=>!seen.contains e.born⟩:=by simp
 unfold Instr.next nextTail
 simp only [Sem.run_bind,h1,h2,Result.andThen_ok,hc,hf]
 rw [if_neg (by decide),Sem.run_bind]
 congr 1
theorem next_map (hM:MR P φ A w) {b c n sz since last:Nat} {m:Option Nat} {seen:List Nat} {oc:Obj} {a':Addr} {ty:TypeId} (g1:φ b=some (.at_ c n sz 0)) (g2:w.heap[c]?=some oc)
  (gm:match m with | none=>oc=.mapIter none since ⟨seen⟩ last | some r=>∃ r',BlkR φ r r'∧oc=.mapIter (some r') since ⟨seen⟩ last) (hblk:a'.block=c) (hpa:a'=⟨a'.block,0,a'.spot⟩) :
  OpOk P φ A w (nextMap A b m since seen last) ((do pure (.value (← Instr.next (.pointer (some a')) false ty):Next):Sem Next).run P w):=by
 have hget:∀ m0 s0 q0 l0,oc=.mapIter m0 s0 q0 l0→(getObj a'.block).run P w=.ok (.mapIter m0 s0 q0 l0) w:=by
  intro m0 s0 q0 l0 e
  subst e
  rw [hblk]; exact run_getObj g2 (by intro c e f h; cases h)
 cases m with
 | none =>
  refine OpOk.same hM (.tuple (.cons (.bool false) .nil)) (run_v ?_)
  rw [hpa]
  simp [Instr.next,hget _ _ _ _ gm]
 | some r =>
  obtain ⟨r',hr,ho⟩:=gm
  simp only [nextMap,nextMapB]
  cases hen:entriesA A r with
  | none=>exact trivial
  | some p =>
   obtain ⟨n1,s1,d1,es',h1,h2,h3⟩:=entries_ok hM hr hen
   simp only
   cases hgo:(nilL seen || (nilL p.1 || !allLate last p.1)) with
   | false=>exact trivial
   | true =>
    simp only [cond_true]
    have hnot:¬ (seen ≠ []∧es' ≠ []∧(es'.all fun e=>decide (last≤e.born))=true):=by
     rintro ⟨k1,k2,k3⟩
     rw [← allLate_ER h3] at k3
     have k4:p.1 ≠ []:=by
      intro e
      have:=h3.length
      rw [e] at this
      exact k2 (List.length_eq_zero_iff.mp this.symm)
     cases hs:seen with
     | nil=>exact k1 hs
     | cons=>cases hp:p.1 with
      | nil=>exact k4 hp
      | cons=>rw [hs,hp] at hgo; rw [hp] at k3; simp [nilL,k3] at hgo
    have hleft:=ER.filter h3 seen
    cases hl:leftA seen p.1 with
    | nil =>
     rw [hl] at hleft
     have hl':(es'.filter fun e=>!seen.contains e.born)=[]:=by
      generalize (es'.filter fun e=>!seen.contains e.born)=z at hleft
      cases hleft; rfl
     refine OpOk.same hM (.tuple (.cons (.bool false) .nil)) (run_v ?_)
     rw [hpa]
     have:=next_run (P:=P) (w:=w) (ty:=ty) (sp:=a'.spot) (hget _ _ _ _ ho) h2 hnot
     rw [this,hl']
     simp [nextTail,forced1]
    | cons e l =>
     cases l with
     | cons=>exact trivial
     | nil =>
      rw [hl] at hleft
      simp only [nextMapE]
      cases hlt:Nat.blt e.born since with
      | false=>exact trivial
      | true =>
       simp only [cond_true]
       cases hp:putO A b (.miter (some r) since (appL seen [e.born]) p.2) with
       | none=>exact trivial
       | some A' =>
        obtain ⟨hlim,rfl⟩:=putO_some hp
        obtain ⟨e',hl',hk,hv,hb⟩:∃ e',(es'.filter fun e=>!seen.contains e.born)=[e']∧VR φ e.key e'.key∧VR φ e.val e'.val∧e.born=e'.born:=by
         generalize (es'.filter fun e=>!seen.contains e.born)=z at hleft
         cases hleft with
         | cons hk hv hb h=>cases h; exact ⟨_,rfl,hk,hv,hb⟩
        have hlt':e'.born < since:=by rw [← hb]; simpa [Nat.blt_eq] using hlt
        obtain ⟨r1,r2⟩:=hM.set (o:=.miter (some r) since (appL seen [e.born]) p.2) (oc:=.mapIter (some r') since ⟨appL seen [e.born]⟩ p.2) g1 hlim (n':=n) (s':=sz) (d':=0) ⟨rfl,r',hr,rfl⟩ ⟨rfl,rfl,rfl⟩
        refine ⟨φ,_,r1,r2,.inl ⟨.tuple #[.bool true,e'.key,e'.val],run_v ?_,.tuple (.cons (.bool _) (.cons hk (.cons hv .nil)))⟩⟩
        have hset:∀ o:Obj,(setObj a'.block o).run P w=.ok () (setBlk w c o):=by
         intro o
         rw [hblk]
         unfold setObj
         subst ho
         simp only [Sem.run,g2]
         rfl
        rw [hpa]
        have:=next_run (P:=P) (w:=w) (ty:=ty) (sp:=a'.spot) (hget _ _ _ _ ho) h2 hnot
        rw [this,hl',hb]
        have hlt2:¬ since≤e'.born:=by omega
        simp [nextTail,forced1,hlt',hlt2,hset]
        simp [appL_eq]
theorem next_ok (hM:MR P φ A w) (str:Bool) (ty:TypeId) {x x':Value} (hx:VR φ x x'):OpOk P φ A w (nextA A str x) ((do pure (.value (← Instr.next x' str ty):Next):Sem Next).run P w):=by
 cases hx with
 | ptr had =>
  rename_i a a'
  simp only [nextA]
  cases hg:A.heap.get a.block with
  | none=>exact trivial
  | some o =>
   cases o with
   | siter s pos =>
    simp only
    cases hc:(str && Nat.beq a.off 0) with
    | false=>exact trivial
    | true =>
     simp only [Bool.and_eq_true] at hc
     obtain ⟨rfl,h0⟩:=hc
     have h0:=Nat.eq_of_beq_eq_true h0
     obtain ⟨c,n,sz,d,oc,g1,g2,rfl,rfl⟩:=hM.live hg had.ne
     have haddr:a'.block=c∧a'.off=0:=by
      rcases had with h | ⟨c1,n1,s1,d1,h,h2,h3,h4⟩
      ·rw [g1] at h; cases h
      ·rw [g1] at h
       injection h with h
       injection h with e1 e2 e3 e4
       subst e1 e4
       exact ⟨h2,by omega⟩
     have hget:(getObj a'.block).run P w=.ok (.stringIter s pos) w:=by rw [haddr.1]; exact run_getObj g2 (by intro c e f h; cases h)
     have hpa:a'=⟨a'.block,0,a'.spot⟩:=by cases a'; simp_all
     have hlen:(bytesOf s).length=s.size:=Array.length_toList
     simp only [nextStr,lenL0,hlen]
     cases hlt:Nat.blt pos s.size with
     | false =>
      have hlt:¬ pos < s.size:=by
       intro h
       have:Nat.blt pos s.size=true:=by rw [Nat.blt_eq]; exact h
       rw [hlt] at this; cases this
      refine OpOk.same hM (.tuple (.cons (.bool false) .nil)) (run_v ?_)
      rw [hpa]
      simp [Instr.next,hget,hlt]
     | true =>
      have hlt:pos < s.size:=by simpa [Nat.blt_eq] using hlt
      simp only [cond_true]
      cases hp:putO A a.block (.siter s (pos + (Utf8.decode s pos).2)) with
      | none=>exact trivial
      | some A' =>
       obtain ⟨hlim,rfl⟩:=putO_some hp
       obtain ⟨r1,r2⟩:=hM.set (o:=.siter s (pos + (Utf8.decode s pos).2)) (oc:=.stringIter s (pos + (Utf8.decode s pos).2)) g1 hlim (n':=n) (s':=sz) (d':=0) ⟨rfl,rfl⟩ ⟨rfl,rfl,rfl⟩
       refine ⟨φ,_,r1,r2,.inl ⟨.tuple #[.bool true,.int .i64 pos,.int .i32 (Utf8.decode s pos).1],run_v ?_,.tuple (.cons (.bool _) (.cons (.int _ _) (.cons (.int _ _) .nil)))⟩⟩
       have hset:∀ o:Obj,(setObj a'.block o).run P w=.ok () (setBlk w c o):=by
        intro o
        rw [haddr.1]
        unfold setObj
        simp only [Sem.run,g2]
        rfl
       rw [hpa]
       simp [Instr.next,hget,hlt,hset,goInt]
   | miter m since seen last =>
    simp only
    cases hc:(!str && Nat.beq a.off 0) with
    | false=>exact trivial
    | true =>
     simp only [Bool.and_eq_true,Bool.not_eq_true'] at hc
     obtain ⟨rfl,h0⟩:=hc
     have h0:=Nat.eq_of_beq_eq_true h0
     obtain ⟨c,n,sz,d,oc,g1,g2,rfl,gm⟩:=hM.live hg had.ne
     have haddr:a'.block=c∧a'.off=0:=by
      rcases had with h | ⟨c1,n1,s1,d1,h,h2,h3,h4⟩
      ·rw [g1] at h; cases h
      ·rw [g1] at h
       injection h with h
       injection h with e1 e2 e3 e4
       subst e1 e4
       exact ⟨h2,by omega⟩
     have hpa:a'=⟨a'.block,0,a'.spot⟩:=by cases a'; simp_all
     simp only [cond_true]
     exact next_map hM g1 g2 gm haddr.1 hpa
   | _=>exact trivial
 | _=>exact trivial
theorem lastN_eq:∀ (l:List Nat),lastN l=l.getLast?
 | []=>rfl
 | [n]=>rfl
 | n::m::k=>by
  show lastN (m::k)=_
  rw [lastN_eq (m::k)]
  simp
theorem findStamp_ER {l l':List MapEntry} (h:ER φ l l') (b:Nat):(findStamp b l=none)∨∃ e e',findStamp b l=some e∧l'.find? (fun e=>e.born == b)=some e'∧VR φ e.key e'.key∧VR φ e.val e'.val:=by
 induction h with
 | nil=>exact .inl rfl
 | cons hk hv hb h ih =>
  rename_i e e' l l'
  have hd:findStamp b (e::l)=bif Nat.beq e.born b then some e else findStamp b l:=rfl
  rw [hd,List.find?_cons,← hb]
  cases hbb:Nat.beq e.born b with
  | true =>
   have:=Nat.eq_of_beq_eq_true hbb
   exact .inr ⟨e,e',rfl,by simp [this],hk,hv⟩
  | false =>
   have:e.born ≠ b:=by intro e; rw [e,Nat.beq_refl] at hbb; cases hbb
   have h2:(e.born == b)=false:=by simpa using this
   simp only [h2,cond_false]
   exact ih
theorem entry_ok (hM:MR P φ A w) {x x':Value} (hx:VR φ x x'):OpOk P φ A w (entryA A x) ((do pure (.value (← Instr.entry x'):Next):Sem Next).run P w):=by
 cases hx with
 | ptr had =>
  rename_i a a'
  simp only [entryA]
  cases hg:A.heap.get a.block with
  | none=>exact trivial
  | some o =>
   cases o with
   | miter m since seen last =>
    simp only
    cases hc:Nat.beq a.off 0 with
    | false=>exact trivial
    | true =>
     have h0:=Nat.eq_of_beq_eq_true hc
     obtain ⟨c,n,sz,d,oc,g1,g2,rfl,gm⟩:=hM.live hg had.ne
     have haddr:a'.block=c∧a'.off=0:=by
      rcases had with h | ⟨c1,n1,s1,d1,h,h2,h3,h4⟩
      ·rw [g1] at h; cases h
      ·rw [g1] at h
       injection h with h
       injection h with e1 e2 e3 e4
       subst e1 e4
       exact ⟨h2,by omega⟩
     have hpa:a'=⟨a'.block,0,a'.spot⟩:=by cases a'; simp_all
     simp only [cond_true]
     cases m with
     | none=>exact trivial
     | some r =>
      obtain ⟨r',hr,ho⟩:=gm
      subst ho
      have hget:(getObj a'.block).run P w=.ok (.mapIter (some r') since ⟨seen⟩ last) w:=by rw [haddr.1]; exact run_getObj g2 (by intro c e f h; cases h)
      simp only [entryM]
      cases hl:lastN seen with
      | none=>exact trivial
      | some b =>
       cases hen:entriesA A r with
       | none=>exact trivial
       | some p =>
        obtain ⟨n1,s1,d1,es',h1,h2,h3⟩:=entries_ok hM hr hen
        simp only [entryB]
        cases hcl:Nat.beq p.2 last with
        | false=>exact trivial
        | true =>
         have hcl:=Nat.eq_of_beq_eq_true hcl
         simp only [cond_true]
         rcases findStamp_ER h3 b with h | ⟨e,e',h4,h5,h6,h7⟩
         ·rw [h]; exact trivial
         ·rw [h4]
          refine OpOk.same hM (.tuple (.cons h6 (.cons h7 .nil))) (run_v ?_)
          rw [lastN_eq] at hl
          rw [hpa]
          simp [Instr.entry,hget,h2,hl,hcl,h5]
   | _=>exact trivial
 | _=>exact trivial
theorem makeFunc_ok (hM:MR P φ A w) {f f':Fn} (hf:FnR φ f f') {x x' y y':List Value} (hx:LR φ x x') (hy:LR φ y y') :
  OpOk P φ A w (.val (.func f ⟨x⟩ ⟨y⟩) A) ((do pure (.value (← Instr.makeFunc f' ⟨x'⟩ ⟨y'⟩):Next):Sem Next).run P w):=OpOk.same hM (.func hf hx hy) rfl
theorem builtin_ok (hM:MR P φ A w) (b:Builtin) (ts:Array TypeId) (ty:TypeId) (cs:Array Bool) {args args':List Value} (ha:LR φ args args') :
  OpOk P φ A w (builtinA P A b ts ty args) ((builtin b ts ty cs ⟨args'⟩).run P w):=by
 cases b with
 | len=>exact len_ok hM ty ha
 | cap=>exact cap_ok hM ty ha
 | append =>
  show OpOk P φ A w (append1 P A ts.toList args) _
  cases hts:ts.toList with
  | nil=>exact trivial
  | cons t tl =>
   cases tl with
   | nil=>exact trivial
   | cons u tl =>
    simp only [append1]
    cases hu:isList P u with
    | false =>
     cases hv:isI64 P u with
     | false=>exact trivial
     | true =>
      cases ha with
      | nil=>exact trivial
      | cons h k =>
       cases k with
       | nil=>exact trivial
       | cons h2 k=>exact appendMake_ok hM (getElem_toList hts rfl) (getElem_toList hts rfl) hv ty rfl rfl h h2
    | true =>
     cases ha with
     | nil=>exact trivial
     | cons h k =>
      cases k with
      | nil=>exact trivial
      | cons h2 k=>exact append_ok hM (getElem_toList hts rfl) (getElem_toList hts rfl) hu ty rfl rfl h h2
 | copy =>
  show OpOk P φ A w (copy1 P A ts.toList args) _
  cases hts:ts.toList with
  | nil=>exact trivial
  | cons t tl =>
   simp only [copy1]
   cases ha with
   | nil=>exact trivial
   | cons h k =>
    cases k with
    | nil=>exact trivial
    | cons h2 k=>exact copy_ok hM (getElem_toList hts rfl) ty rfl rfl h h2
 | clear=>exact clear1_ok hM ts ty ha
 | min=>exact min_ok hM ts ty ha
 | max=>exact max_ok hM ts ty ha
 | panic=>exact panic1_ok hM ha
 | recover=>exact ⟨rfl,rfl⟩
 | unsafeSliceData=>exact sliceData1_ok hM ts ty ha
 | unsafeString=>exact string1_ok hM ts ty ha
 | _=>exact trivial
end Go.Sh
namespace Go.Sh
open Go
variable {P:Program} {φ:Inj} {A:AW} {w:World}
theorem same1_VR {c:Nat} {x x' y y':Value} {b:Bool} (h:same1 c x y=some b) (hx:VR φ x x') (hy:VR φ y y'):x'=x∧y'=y:=by
 cases x with
 | int k n =>
  refine ⟨VR_int hx,?_⟩
  cases y with
  | int j m=>exact VR_int hy
  | _=>cases h
 | bool a =>
  refine ⟨VR_bool hx,?_⟩
  cases y with
  | bool a=>exact VR_bool hy
  | _=>cases h
 | string a =>
  refine ⟨VR_string hx,?_⟩
  cases y with
  | string a=>exact VR_string hy
  | _=>cases h
 | _=>cases h
theorem sameL_VR:∀ {ks:List Nat} {xs xs' ys ys':List Value} {b:Bool},LR φ xs xs'→LR φ ys ys'→sameL ks xs ys=some b→sameL ks xs' ys'=some b
 | [],_,_,_,_,_,.nil,.nil,h=>h
 | [],_,_,_,_,_,.cons ..,_,h=>by cases h
 | [],_,_,_,_,_,.nil,.cons ..,h=>by cases h
 | _::_,_,_,_,_,_,.nil,_,h=>by cases h
 | _::_,_,_,_,_,_,.cons ..,.nil,h=>by cases h
 | c::ks,_,_,_,_,b,.cons (v:=x) (v':=x') hx kx,.cons (v:=y) (v':=y') hy ky,h=>by
  simp only [sameL] at h ⊢
  cases hs:same1 c x y with
  | none=>rw [hs] at h; cases h
  | some b1 =>
   obtain ⟨rfl,rfl⟩:=same1_VR hs hx hy
   rw [hs] at h ⊢
   cases b1 with
   | false=>exact h
   | true=>exact sameL_VR kx ky h
theorem same1_flat {c:Nat} {x y:Value} {b:Bool} (h:same1 c x y=some b):flatCells false x=some [x]∧flatCells false y=some [y]:=by
 cases x with
 | int k n=>cases y with
  | int j m=>exact ⟨rfl,rfl⟩
  | _=>cases h
 | bool a=>cases y with
  | bool a=>exact ⟨rfl,rfl⟩
  | _=>cases h
 | string a=>cases y with
  | string a=>exact ⟨rfl,rfl⟩
  | _=>cases h
 | _=>cases h
theorem flatCells_true {x:Value} {l:List Value} (h:flatCells true x=some l):x=.agg ⟨l⟩:=by
 cases x with
 | agg m=>obtain ⟨m⟩:=m; simp only [flatCells,cond_true,Option.some.injEq] at h; rw [h]
 | _=>cases h
theorem flatCells_false {x:Value} {l:List Value} (h:flatCells false x=some l):l=[x]:=by
 cases x with
 | agg m=>cases h
 | _=>simp only [flatCells,cond_false,Option.some.injEq] at h; exact h.symm
theorem eqFlat_inv {g:Bool} {ks:List Nat} {x y:Value} {b:Bool} (h:eqFlat g ks x y=some b):∃ xs ys,flatCells g x=some xs∧flatCells g y=some ys∧sameL ks xs ys=some b:=by
 unfold eqFlat at h
 cases hx:flatCells g x with
 | none=>rw [hx] at h; cases h
 | some xs =>
  rw [hx] at h
  cases hy:flatCells g y with
  | none=>rw [hy] at h; cases h
  | some ys=>rw [hy] at h; exact ⟨xs,ys,rfl,rfl,h⟩
theorem sameL_one {ks:List Nat} {x y:Value} {b:Bool} (h:sameL ks [x] [y]=some b):∃ c rest,ks=c::rest∧∃ b',same1 c x y=some b':=by
 cases ks with
 | nil=>cases h
 | cons c rest =>
  simp only [sameL] at h
  cases hs:same1 c x y with
  | none=>rw [hs] at h; cases h
  | some b'=>exact ⟨c,rest,rfl,b',hs⟩
theorem eqFlat_VR {g:Bool} {ks:List Nat} {x x' y y':Value} {b:Bool} (h:eqFlat g ks x y=some b) (hx:VR φ x x') (hy:VR φ y y'):eqFlat g ks x' y'=some b:=by
 obtain ⟨xs,ys,h1,h2,h3⟩:=eqFlat_inv h
 cases g with
 | true =>
  have e1:=flatCells_true h1
  have e2:=flatCells_true h2
  subst e1 e2
  cases hx with
  | agg hx=>cases hy with
   | agg hy=>exact sameL_VR hx hy h3
 | false =>
  have e1:=flatCells_false h1
  have e2:=flatCells_false h2
  subst e1 e2
  obtain ⟨c,rest,rfl,b',h4⟩:=sameL_one h3
  obtain ⟨rfl,rfl⟩:=same1_VR h4 hx hy
  exact h
theorem eq_scalar {c:Nat} {t:TypeId} {d:TypeDesc} (hd:(c=0∧∃ k,d=.int k)∨(c=1∧d=.bool)∨(c=2∧d=.string)) (hu:P.underlying t=some d) {x y:Value} {b:Bool} (h:same1 c x y=some b) (D:Nat) (w:World) :
  (Op.equalIn (D + 1) t x y).run P w=.ok b w:=by
 rcases hd with ⟨rfl,k,rfl⟩ | ⟨rfl,rfl⟩ | ⟨rfl,rfl⟩
 ·cases x with
  | int j n=>cases y with
   | int i m =>
    simp only [same1,sameInt] at h
    cases hk:(Nat.beq 0 0 && sameK j i) with
    | false=>rw [hk] at h; cases h
    | true =>
     rw [hk] at h
     simp only [cond_true,Option.some.injEq] at h
     have:j=i:=sameK_eq (by simpa using hk)
     subst this
     rw [run_equalIn_int w D t j k n m hu,← h,intEq_eq]
   | _=>cases h
  | bool a=>cases y with
   | bool=>cases h
   | _=>cases h
  | string a=>cases y with
   | string=>cases h
   | _=>cases h
  | _=>cases h
 ·cases x with
  | bool a=>cases y with
   | bool b' =>
    have h:some (a == b')=some b:=h
    rw [run_equalIn_bool w D t a b' hu,← opt_some h]
   | _=>cases h
  | int j n=>cases y with
   | int i m=>cases h
   | _=>cases h
  | string a=>cases y with
   | string=>cases h
   | _=>cases h
  | _=>cases h
 ·cases x with
  | string a=>cases y with
   | string b' =>
    have h:some (byteL (bytesOf a) (bytesOf b'))=some b:=h
    rw [run_equalIn_string w D t a b' hu,← opt_some h,byteL_eq,toList_bytes,toList_bytes]
   | _=>cases h
  | int j n=>cases y with
   | int i m=>cases h
   | _=>cases h
  | bool a=>cases y with
   | bool=>cases h
   | _=>cases h
  | _=>cases h
theorem sameL_append:∀ {k1 k2:List Nat} {xs ys:List Value} {b:Bool},sameL (k1++k2) xs ys=some b →
  ∃ b1,sameL k1 (xs.take k1.length) (ys.take k1.length)=some b1∧(b1=false→b=false)∧(b1=true→sameL k2 (xs.drop k1.length) (ys.drop k1.length)=some b)
 | [],k2,xs,ys,b,h=>⟨true,by simp [sameL],by simp,fun _=>by simpa using h⟩
 | c::k1,k2,xs,ys,b,h=>by
  cases xs with
  | nil=>cases h
  | cons x xs =>
   cases ys with
   | nil=>cases h
   | cons y ys =>
    simp only [List.cons_append,sameL] at h
    simp only [List.length_cons,List.take_succ_cons,List.drop_succ_cons,sameL]
    cases hs:same1 c x y with
    | none=>rw [hs] at h; cases h
    | some b0 =>
     rw [hs] at h
     cases b0 with
     | false =>
      simp only [cond_false,Option.some.injEq] at h
      exact ⟨false,rfl,fun _=>h.symm,fun h=>by cases h⟩
     | true=>exact sameL_append h
theorem flat1_some {t:TypeId} {k:Nat} {ks:List Nat} (h:flat1 P t k=some ks):ks=[k]∧szOf P t=some 1:=by
 unfold flat1 at h
 cases hb:(szOf P t == some 1) with
 | false=>rw [hb] at h; cases h
 | true=>rw [hb] at h; cases h; exact ⟨rfl,by simpa using hb⟩
theorem sized_some {t:TypeId} {o:Option (List Nat)} {ks:List Nat} (h:sized P t o=some ks):o=some ks∧szOf P t=some ks.length:=by
 unfold sized at h
 cases o with
 | none=>cases h
 | some l =>
  simp only at h
  cases hs:szOf P t with
  | none=>rw [hs] at h; cases h
  | some n =>
   rw [hs] at h
   simp only [lenL0] at h
   cases hb:Nat.beq l.length n with
   | false=>rw [hb] at h; cases h
   | true =>
    rw [hb] at h
    cases h
    exact ⟨rfl,by rw [Nat.eq_of_beq_eq_true hb]⟩
theorem flatT_some {d : Nat} {t : TypeId} {ks : List Nat} (h : flatT P d t = some ks) : ∃ d', d = d' + 1 ∧ szOf P t = some ks.length ∧
    ((∃ c dd, ks = [c] ∧ P.underlying t = some dd ∧ ((c = 0 ∧ ∃ k, dd = .int k) ∨ (c = 1 ∧ dd = .bool) ∨ (c = 2 ∧ dd = .string)) ∧ aggOf P t = some false) ∨
     (∃ fs, P.underlying t = some (.struct fs) ∧ P.stoodInHeld t = false ∧ flatFields (flatT P d') fs.toList 0 = some ks ∧ aggOf P t = some true) ∨
     (∃ n e ks1, P.underlying t = some (.array n e) ∧ flatT P d' e = some ks1 ∧ ks = repl ks1 n ∧ aggOf P t = some true)) := by
  cases d with
  | zero => cases h
  | succ d =>
    refine ⟨d, rfl, ?_⟩
    unfold flatT at h
    cases hu : P.underlying t with
    | none => rw [hu] at h; cases h
    | some dd =>
      rw [hu] at h
      cases dd with
      | int k =>
        obtain ⟨rfl, hs⟩ := flat1_some h
        exact ⟨hs, .inl ⟨0, _, rfl, rfl, .inl ⟨rfl, k, rfl⟩, by simp [aggOf, hu]⟩⟩
      | bool =>
        obtain ⟨rfl, hs⟩ := flat1_some h
        exact ⟨hs, .inl ⟨1, _, rfl, rfl, .inr (.inl ⟨rfl, rfl⟩), by simp [aggOf, hu]⟩⟩
      | string =>
        obtain ⟨rfl, hs⟩ := flat1_some h
        exact ⟨hs, .inl ⟨2, _, rfl, rfl, .inr (.inr ⟨rfl, rfl⟩), by simp [aggOf, hu]⟩⟩
      | struct fs =>
        simp only at h
        cases hst : P.stoodInHeld t with
        | true => rw [hst] at h; cases h
        | false =>
          rw [hst] at h
          obtain ⟨h1, hs⟩ := sized_some h
          exact ⟨hs, .inr (.inl ⟨fs, rfl, rfl, h1, by simp [aggOf, hu]⟩)⟩
      | array n e =>
        simp only at h
        cases hf : flatT P d e with
        | none => rw [hf] at h; cases h
        | some ks1 =>
          rw [hf] at h
          obtain ⟨h1, hs⟩ := sized_some h
          exact ⟨hs, .inr (.inr ⟨n, e, ks1, rfl, hf, (opt_some h1).symm, by simp [aggOf, hu]⟩)⟩
      | _ => cases h
theorem part_flat {d:Nat} {t:TypeId} {ks:List Nat} (h:flatT P d t=some ks) (xs:Array Value) (n:Nat) :
  (aggOf P t=some true∧∀ w,(part t xs n).run P w=.ok (.agg (xs.extract n (n + ks.length))) w)∨(aggOf P t=some false∧∃ c,ks=[c]∧∀ x,xs[n]?=some x→∀ w,(part t xs n).run P w=.ok x w):=by
 obtain ⟨d',rfl,hs,h⟩:=flatT_some h
 have hagg:aggOf P t=some true→∀ w,(part t xs n).run P w=.ok (.agg (xs.extract n (n + ks.length))) w:=fun hg w=>by simp [part,run_isAgg hg,run_sizeOf hs]
 rcases h with ⟨c,dd,rfl,hu,_,hg⟩ | ⟨fs,_,_,_,hg⟩ | ⟨m,e,k1,_,_,_,hg⟩
 ·exact .inr ⟨hg,c,rfl,fun x hx w=>by simp [part,run_isAgg hg,hx]⟩
 ·exact .inl ⟨hg,hagg hg⟩
 ·exact .inl ⟨hg,hagg hg⟩
theorem take_one {α:Type} (l:List α) (n:Nat):(l.drop n).take 1=match l[n]? with | some x=>[x] | none=>[]:=by
 cases h:l[n]? with
 | none=>rw [List.drop_eq_nil_of_le (List.getElem?_eq_none_iff.1 h)]; rfl
 | some x =>
  obtain ⟨h1,h2⟩:=List.getElem?_eq_some_iff.1 h
  rw [List.drop_eq_getElem_cons h1,h2]
  rfl
theorem part_same {d:Nat} {t:TypeId} {ks:List Nat} (h:flatT P d t=some ks) (xs ys:Array Value) (n:Nat) {b:Bool}
  (hb:sameL ks ((xs.toList.drop n).take ks.length) ((ys.toList.drop n).take ks.length)=some b) :
  ∃ g x y,aggOf P t=some g∧(∀ w,(part t xs n).run P w=.ok x w)∧(∀ w,(part t ys n).run P w=.ok y w)∧eqFlat g ks x y=some b:=by
 rcases part_flat h xs n with ⟨hg,h1⟩ | ⟨hg,c,rfl,h1⟩
 ·rcases part_flat h ys n with ⟨_,h2⟩ | ⟨hg2,_⟩
  ·exact ⟨true,_,_,hg,h1,h2,by simpa [eqFlat,flatCells,List.take_drop] using hb⟩
  ·rw [hg] at hg2; cases hg2
 ·rcases part_flat h ys n with ⟨hg2,_⟩ | ⟨_,_,_,h2⟩
  ·rw [hg] at hg2; cases hg2
  ·simp only [List.length_cons,List.length_nil,Nat.zero_add,take_one] at hb
   cases hx:xs.toList[n]? with
   | none=>rw [hx] at hb; cases hb
   | some x =>
    cases hy:ys.toList[n]? with
    | none=>rw [hx,hy] at hb; cases hb
    | some y =>
     rw [hx,hy] at hb
     obtain ⟨_,_,_,b',h4⟩:=sameL_one hb
     obtain ⟨f1,f2⟩:=same1_flat h4
     refine ⟨false,x,y,hg,h1 x (by simpa using hx),h2 y (by simpa using hy),?_⟩
     unfold eqFlat
     rw [f1,f2]
     exact hb
theorem flatFields_cons {flat:TypeId→Option (List Nat)} {f:Field} {fs:List Field} {n:Nat} {ks:List Nat} (h:flatFields flat (f::fs) n=some ks) :
  f.offset=n∧f.name ≠ "_"∧∃ k1 k2,flat f.type=some k1∧flatFields flat fs (n + k1.length)=some k2∧ks=k1++k2:=by
 unfold flatFields at h
 cases hb:(Nat.beq f.offset n && !(f.name == "_")) with
 | false=>rw [hb] at h; cases h
 | true =>
  rw [hb] at h
  simp only [Bool.and_eq_true,Bool.not_eq_true'] at hb
  simp only [cond_true] at h
  cases hf:flat f.type with
  | none=>rw [hf] at h; cases h
  | some k1 =>
   rw [hf] at h
   simp only [lenL0] at h
   cases hr:flatFields flat fs (n + k1.length) with
   | none=>rw [hr] at h; cases h
   | some k2 =>
    rw [hr] at h
    simp only [appL_eq,Option.some.injEq] at h
    exact ⟨Nat.eq_of_beq_eq_true hb.1,by simpa using hb.2,k1,k2,rfl,hr,h.symm⟩
theorem eqFlat_run:∀ (d:Nat) (t:TypeId) (ks:List Nat),flatT P d t=some ks→∀ g,aggOf P t=some g→∀ D,d≤D→∀ (x y:Value) (b:Bool),eqFlat g ks x y=some b→∀ w,(Op.equalIn D t x y).run P w=.ok b w
 | 0,_,_,h=>by cases h
 | d + 1,t,ks,h=>by
  intro g hg D hD x y b hb w
  obtain ⟨d',hd',hs,hc⟩:=flatT_some h
  cases hd'
  obtain ⟨D',rfl⟩:∃ D',D=D' + 1:=⟨D - 1,by omega⟩
  obtain ⟨xs,ys,h1,h2,h3⟩:=eqFlat_inv hb
  rcases hc with ⟨c,dd,rfl,hu,hk,hg'⟩ | ⟨fs,hu,hst,hff,hg'⟩ | ⟨n,e,k1,hu,hf,rfl,hg'⟩
  ·have:g=false:=by rw [hg] at hg'; exact opt_some hg'
   subst this
   have e1:=flatCells_false h1
   have e2:=flatCells_false h2
   subst e1 e2
   simp only [sameL] at h3
   cases hs1:same1 c x y with
   | none=>rw [hs1] at h3; cases h3
   | some b1 =>
    rw [hs1] at h3
    have:b1=b:=by cases b1 <;> simpa using h3
    subst this
    exact eq_scalar hk hu hs1 D' w
  ·have:g=true:=by rw [hg] at hg'; exact opt_some hg'
   subst this
   have e1:=flatCells_true h1
   have e2:=flatCells_true h2
   subst e1 e2
   have hfo:P.fieldsOf t=fs:=by simp [Program.fieldsOf,hu]
   rw [run_equalIn_struct w D' t ⟨xs⟩ ⟨ys⟩ (by rw [hfo]; exact hu) hst,hfo]
   have key:∀ (l:List Field) (n:Nat) (k:List Nat) (b:Bool),flatFields (flatT P d) l n=some k→sameL k (xs.drop n) (ys.drop n)=some b→(Op.eqFields D' ⟨xs⟩ ⟨ys⟩ l).run P w=.ok b w:=by
    intro l
    induction l with
    | nil =>
     intro n k b hk hb
     simp only [flatFields] at hk
     cases hk
     have:b=true:=by
      cases hx:xs.drop n with
      | nil=>cases hy:ys.drop n with
       | nil=>rw [hx,hy] at hb; exact (opt_some hb).symm
       | cons=>rw [hx,hy] at hb; cases hb
      | cons=>rw [hx] at hb; cases hb
     subst this
     rfl
    | cons f l ih =>
     intro n k b hk hb
     obtain ⟨rfl,hname,k1,k2,q1,q2,rfl⟩:=flatFields_cons hk
     obtain ⟨b1,r1,r2,r3⟩:=sameL_append hb
     obtain ⟨g1,x1,y1,s1,s2,s3,s4⟩:=part_same q1 ⟨xs⟩ ⟨ys⟩ f.offset r1
     have hrun:=eqFlat_run d f.type k1 q1 g1 s1 D' (by omega) x1 y1 b1 s4 w
     simp only [Op.eqFields,hname,ne_eq,not_false_eq_true,if_true,Sem.run_bind,s2,s3,Result.andThen_ok,hrun]
     cases b1 with
     | false=>simp [r2 rfl]
     | true =>
      have:=r3 rfl
      rw [List.drop_drop,List.drop_drop] at this
      simp [ih _ _ _ q2 this]
   exact key _ 0 _ _ hff h3
  ·have:g=true:=by rw [hg] at hg'; exact opt_some hg'
   subst this
   have e1:=flatCells_true h1
   have e2:=flatCells_true h2
   subst e1 e2
   have hse:szOf P e=some k1.length:=(flatT_some hf).choose_spec.2.1
   simp only [Op.equalIn,Sem.run_bind,run_underlying' hu,Result.andThen_ok,run_sizeOf hse]
   simp only [Std.Legacy.Range.forIn_eq_forIn_range',Std.Legacy.Range.size,Nat.sub_zero,Nat.add_one_sub_one,Nat.div_one]
   have key:∀ (m s:Nat) (b:Bool),sameL (repl k1 m) (xs.drop (s * k1.length)) (ys.drop (s * k1.length))=some b →
     (Sem.run P (forIn (List.range' s m) ((none,()):Option Bool × Unit) fun i _=>do
      let a ← part e ⟨xs⟩ (i * k1.length)
      let c ← part e ⟨ys⟩ (i * k1.length)
      let r ← Op.equalIn D' e a c
      if (!r)=true then pure (ForInStep.done (some false,())) else pure (ForInStep.yield (none,()))) w)=.ok (if b then (none,()) else (some false,())) w:=by
    intro m
    induction m with
    | zero =>
     intro s b hb
     simp only [repl] at hb
     have:b=true:=by
      cases hx:xs.drop (s * k1.length) with
      | nil=>cases hy:ys.drop (s * k1.length) with
       | nil=>rw [hx,hy] at hb; exact (opt_some hb).symm
       | cons=>rw [hx,hy] at hb; cases hb
      | cons=>rw [hx] at hb; cases hb
     subst this
     rfl
    | succ m ih =>
     intro s b hb
     simp only [repl,appL_eq] at hb
     obtain ⟨b1,r1,r2,r3⟩:=sameL_append hb
     obtain ⟨g1,x1,y1,s1,s2,s3,s4⟩:=part_same hf ⟨xs⟩ ⟨ys⟩ (s * k1.length) r1
     have hrun:=eqFlat_run d e k1 hf g1 s1 D' (by omega) x1 y1 b1 s4 w
     rw [List.range'_succ,List.forIn_cons]
     simp only [Sem.run_bind,s2,s3,Result.andThen_ok,hrun]
     cases b1 with
     | false=>simp [r2 rfl]
     | true =>
      have:=r3 rfl
      rw [List.drop_drop,List.drop_drop,← Nat.succ_mul] at this
      simpa using ih (s + 1) b this
   have:=key n 0 b (by simpa using h3)
   rw [this]
   cases b <;> simp
end Go.Sh
namespace Go.Sh
open Go
variable {P:Program} {φ:Inj} {A:AW} {w:World}
def EqGives (P:Program) (w:World) (c:Bool) (t:TypeId) (x y:Value) (b:Bool):Prop :=
 (binOp .eql t x y).run P w=.ok (.bool b) w∧(binOp .neq t x y).run P w=.ok (.bool (!b)) w ∧
 ∀ (op:BinOp) (xo yo:Operand),c=(isConst xo || isConst yo)→(eqGuard op t xo yo x y).run P w=.ok () w
theorem EqGives.of {c b:Bool} {t:TypeId} {x y:Value} (h:∀ D,9≤D→(Op.equalIn (D + 1) t x y).run P w=.ok b w)
  (h1:binOp .eql t x y=(do pure (.bool (← Op.equal t x y)))) (h2:binOp .neq t x y=(do pure (.bool (!(← Op.equal t x y)))))
  (hg:∀ (op:BinOp) (xo yo:Operand),c=(isConst xo || isConst yo)→(eqGuard op t xo yo x y).run P w=.ok () w):EqGives P w c t x y b:=by
 have h':(Op.equal t x y).run P w=.ok b w:=h 9999 (by decide)
 exact ⟨by rw [h1]; simp [h'],by rw [h2]; simp [h'],hg⟩
theorem guard_plain {t:TypeId} {x y:Value} (h:∀ (op:BinOp) (xo yo:Operand),eqGuard op t xo yo x y=if !(op matches .eql | .neq) then pure () else pure ()) (op:BinOp) (xo yo:Operand):(eqGuard op t xo yo x y).run P w=.ok () w:=by
 rw [h]
 split <;> rfl
theorem eqFlat_gives {c g b:Bool} {t:TypeId} {ks:List Nat} {d:Nat} (hf:flatT P d t=some ks) (hd:d≤8) (hg:aggOf P t=some g) (hG:g=true→P.eqGuardType P.depth t=false) {x y:Value} (h:eqFlat g ks x y=some b):EqGives P w c t x y b:=by
 have hrun:∀ D,9≤D→(Op.equalIn (D + 1) t x y).run P w=.ok b w:=fun D hD=>eqFlat_run d t ks hf g hg (D + 1) (by omega) x y b h w
 obtain ⟨xs,ys,h1,h2,h3⟩:=eqFlat_inv h
 cases g with
 | true =>
  have e1:=flatCells_true h1
  have e2:=flatCells_true h2
  subst e1 e2
  exact .of hrun rfl rfl fun op xo yo _=>run_eqGuard_agg w op t xo yo _ _ (hG rfl)
 | false =>
  have e1:=flatCells_false h1
  have e2:=flatCells_false h2
  subst e1 e2
  obtain ⟨c',rest,rfl,b',h4⟩:=sameL_one h3
  obtain ⟨d',rfl,_,hcase⟩:=flatT_some hf
  have hrest:rest=[]:=by
   rcases hcase with ⟨c1,dd,h5,_⟩ | ⟨fs,_,_,_,h5⟩ | ⟨n,e,k1,_,_,_,h5⟩
   ·cases h5; rfl
   ·rw [hg] at h5; cases h5
   ·rw [hg] at h5; cases h5
  subst hrest
  have hb:b'=b:=by
   simp only [sameL,h4] at h3
   cases b' <;> simpa using h3
  subst hb
  cases x with
  | int k n=>cases y with
   | int j m =>
    have h5:(bif Nat.beq c' 0 && sameK k j then some (intEq n m) else none)=some b':=h4
    cases hk:(Nat.beq c' 0 && sameK k j) with
    | false=>rw [hk] at h5; cases h5
    | true =>
     rw [hk] at h5
     simp only [Bool.and_eq_true] at hk
     have:=sameK_eq hk.2
     subst this
     have e3:(n == m)=b':=by rw [← intEq_eq]; exact opt_some h5
     refine ⟨?_,?_,fun op xo yo _=>guard_plain (fun op xo yo=>rfl) op xo yo⟩
     ·rw [← e3]; simp [binOp,Op.intCmp]
     ·rw [← e3]; simp [binOp,Op.intCmp]; rfl
   | _=>cases h4
  | bool a=>cases y with
   | bool a'=>exact .of hrun rfl rfl fun op xo yo _=>guard_plain (fun op xo yo=>rfl) op xo yo
   | _=>cases h4
  | string a=>cases y with
   | string a' =>
    have h4:(bif Nat.beq c' 2 then some (byteL (bytesOf a) (bytesOf a')) else none)=some b':=h4
    cases hk:Nat.beq c' 2 with
    | false=>rw [hk] at h4; cases h4
    | true =>
     rw [hk] at h4
     have e3:(a.toList == a'.toList)=b':=by rw [toList_bytes,toList_bytes,← byteL_eq]; exact opt_some h4
     refine ⟨?_,?_,fun op xo yo _=>guard_plain (fun op xo yo=>rfl) op xo yo⟩
     ·rw [← e3]; show (Op.stringOp .eql a a').run P w=_; rfl
     ·rw [← e3]; show (Op.stringOp .neq a a').run P w=_; rfl
   | _=>cases h4
  | _=>cases h4
theorem live_some {b:Nat} (h:isLive A b=true):∃ o,A.heap.get b=some o:=by
 unfold isLive at h
 cases hg:A.heap.get b with
 | none=>rw [hg] at h; cases h
 | some o=>exact ⟨o,rfl⟩
theorem eqPtr_run (hM:MR P φ A w) {t e:TypeId} {n:Nat} (hu:P.underlying t=some (.pointer e)) (hs:szOf P e=some (n + 1)) {x x' y y':Value} (hx:VR φ x x') (hy:VR φ y y') {b:Bool} (h:eqPtr A x y=some b) (D:Nat) :
  (Op.equalIn (D + 1) t x' y').run P w=.ok b w∧∃ p q,x'=.pointer p∧y'=.pointer q:=by
 cases hx with
 | ptrNil =>
  cases hy with
  | ptrNil=>cases h; exact ⟨by simp [Op.equalIn,run_underlying' hu],_,_,rfl,rfl⟩
  | ptr hb=>cases h; exact ⟨by simp [Op.equalIn,run_underlying' hu],_,_,rfl,rfl⟩
  | _=>cases h
 | ptr ha =>
  rename_i a a'
  cases hy with
  | ptrNil=>cases h; exact ⟨by simp [Op.equalIn,run_underlying' hu],_,_,rfl,rfl⟩
  | ptr hb =>
   rename_i c c'
   simp only [eqPtr,ptrSame] at h
   cases hc:(Nat.beq a.block c.block && isLive A a.block) with
   | false=>rw [hc] at h; cases h
   | true =>
    rw [hc] at h
    simp only [Bool.and_eq_true] at hc
    have hbl:=Nat.eq_of_beq_eq_true hc.1
    obtain ⟨o,hg⟩:=live_some hc.2
    obtain ⟨c1,n1,s1,d1,oc,g1,g2,g3⟩:=hM.live hg ha.ne
    have ea:a'.block=c1∧a'.off=a.off + d1∧a'.spot=none:=by
     rcases ha with h | ⟨_,_,_,_,h,h2,h3,h4⟩
     ·rw [g1] at h; cases h
     ·rw [g1] at h; injection h with h; injection h with e1 e2 e3 e4; subst e1 e4; exact ⟨h2,h3,h4⟩
    have ec:c'.block=c1∧c'.off=c.off + d1∧c'.spot=none:=by
     rcases hb with h | ⟨_,_,_,_,h,h2,h3,h4⟩
     ·rw [← hbl,g1] at h; cases h
     ·rw [← hbl,g1] at h; injection h with h; injection h with e1 e2 e3 e4; subst e1 e4; exact ⟨h2,h3,h4⟩
    refine ⟨?_,_,_,rfl,rfl⟩
    have e5:(a' == c')=Nat.beq a.off c.off:=by
     by_cases e:a.off=c.off
     ·have:a'=c':=by cases a'; cases c'; simp_all
      rw [this,e]; simp
     ·have h1:a' ≠ c':=by rintro rfl; omega
      have h2:Nat.beq a.off c.off=false:=by
       cases hq:Nat.beq a.off c.off with
       | false=>rfl
       | true=>exact absurd (Nat.eq_of_beq_eq_true hq) e
      rw [h2]; exact beq_eq_false_iff_ne.2 h1
    have e6:a'.block=c'.block:=ea.1.trans ec.1.symm
    rw [← opt_some h]
    simp [Op.equalIn,run_underlying' hu,run_sizeOf hs,sameAddr,e6,e5]
  | _=>cases h
 | _=>cases h
theorem eqKind_flat {t:TypeId} {g:Bool} {ks:List Nat} (h:eqKind P t=.flat g ks):flatT P 8 t=some ks∧aggOf P t=some g∧(g=true→P.eqGuardType P.depth t=false):=by
 unfold eqKind at h
 cases hf:flatT P 8 t with
 | none =>
  rw [hf] at h
  simp only [eqKindB] at h
  split at h
  ·split at h <;> cases h
  all_goals cases h
 | some k =>
  rw [hf] at h
  simp only at h
  cases ha:aggOf P t with
  | none=>rw [ha] at h; cases h
  | some b =>
   rw [ha] at h
   simp only at h
   cases hb:(b && P.eqGuardType P.depth t) with
   | true=>rw [hb] at h; cases h
   | false =>
    rw [hb] at h
    cases h
    refine ⟨rfl,rfl,fun hg=>?_⟩
    subst hg
    simpa using hb
theorem eqKind_other {t:TypeId} {k:EqKind} (h:eqKind P t=k) (hk:k ≠ .no) (hf:∀ g ks,k ≠ .flat g ks):eqKindB P t=k:=by
 unfold eqKind at h
 cases hf':flatT P 8 t with
 | none=>rw [hf'] at h; exact h
 | some ks =>
  rw [hf'] at h
  simp only at h
  cases ha:aggOf P t with
  | none=>rw [ha] at h; exact absurd h.symm hk
  | some b =>
   rw [ha] at h
   simp only at h
   cases hb:(b && P.eqGuardType P.depth t) with
   | true=>rw [hb] at h; exact absurd h.symm hk
   | false=>rw [hb] at h; exact absurd h.symm (hf _ _)
theorem eqKindB_some {t:TypeId} {k:EqKind} (h:eqKindB P t=k) (hk:k ≠ .no) :
  (k=.pointer∧∃ e n,P.underlying t=some (.pointer e)∧szOf P e=some (n + 1))∨(k=.slice∧∃ e,P.underlying t=some (.slice e))∨(k=.map∧∃ a e,P.underlying t=some (.map a e)) ∨
  (k=.func∧∃ a c e,P.underlying t=some (.func a c e))∨(k=.iface∧∃ ms,P.underlying t=some (.interface ms)):=by
 unfold eqKindB at h
 split at h
 ·rename_i e hu
  split at h
  ·rename_i n hs
   exact .inl ⟨h.symm,e,n,hu,hs⟩
  ·exact absurd h.symm hk
 ·rename_i e hu; exact .inr (.inl ⟨h.symm,e,hu⟩)
 ·rename_i a e hu; exact .inr (.inr (.inl ⟨h.symm,a,e,hu⟩))
 ·rename_i a c e hu; exact .inr (.inr (.inr (.inl ⟨h.symm,a,c,e,hu⟩)))
 ·rename_i ms hu; exact .inr (.inr (.inr (.inr ⟨h.symm,ms,hu⟩)))
 ·exact absurd h.symm hk
theorem eqDyn_run (hM:MR P φ A w) {t:TypeId} {x x' y y':Value} (hx:VR φ x x') (hy:VR φ y y') {b:Bool} (h:eqDyn P A t x y=some b) (D:Nat) (hD:8≤D) :
  (∃ i,P.info? t=some i∧i.comparable=true)∧(Op.equalIn (D + 1) t x' y').run P w=.ok b w:=by
 have hcan:canEq P t=true→∃ i,P.info? t=some i∧i.comparable=true:=by
  intro h
  unfold canEq at h
  cases hi:P.info? t with
  | none=>rw [hi] at h; cases h
  | some i=>rw [hi] at h; exact ⟨i,rfl,h⟩
 unfold eqDyn at h
 cases hk:eqKind P t with
 | flat g ks =>
  rw [hk] at h
  simp only at h
  cases hc:canEq P t with
  | false=>rw [hc] at h; cases h
  | true =>
   rw [hc] at h
   obtain ⟨h1,h2,_⟩:=eqKind_flat hk
   exact ⟨hcan hc,eqFlat_run 8 t ks h1 g h2 (D + 1) (by omega) x' y' b (eqFlat_VR h hx hy) w⟩
 | pointer =>
  rw [hk] at h
  simp only at h
  cases hc:canEq P t with
  | false=>rw [hc] at h; cases h
  | true =>
   rw [hc] at h
   rcases eqKindB_some (eqKind_other hk (by simp) (by simp)) (by simp) with ⟨_,e,n,hu,hs⟩ | ⟨h,_⟩ | ⟨h,_⟩ | ⟨h,_⟩ | ⟨h,_⟩
   ·exact ⟨hcan hc,(eqPtr_run hM hu hs hx hy h D).1⟩
   all_goals cases h
 | _=>rw [hk] at h; cases h
theorem eqT_gives (hM:MR P φ A w) {c:Bool} {t:TypeId} {x x' y y':Value} (hx:VR φ x x') (hy:VR φ y y') {b:Bool} (h:eqT P A c t x y=some b):EqGives P w c t x' y' b:=by
 unfold eqT at h
 cases hk:eqKind P t with
 | flat g ks =>
  rw [hk] at h
  obtain ⟨h1,h2,h3⟩:=eqKind_flat hk
  exact eqFlat_gives h1 (Nat.le_refl _) h2 h3 (eqFlat_VR h hx hy)
 | pointer =>
  rw [hk] at h
  rcases eqKindB_some (eqKind_other hk (by simp) (by simp)) (by simp) with ⟨_,e,n,hu,hs⟩ | ⟨h,_⟩ | ⟨h,_⟩ | ⟨h,_⟩ | ⟨h,_⟩
  ·have h1:=fun D (_:9≤D)=>(eqPtr_run hM hu hs hx hy h D).1
   obtain ⟨_,p,q,rfl,rfl⟩:=eqPtr_run hM hu hs hx hy h 0
   exact .of h1 rfl rfl fun op xo yo _=>guard_plain (fun op xo yo=>rfl) op xo yo
  all_goals cases h
 | slice =>
  rw [hk] at h
  rcases eqKindB_some (eqKind_other hk (by simp) (by simp)) (by simp) with ⟨h,_⟩ | ⟨_,e,hu⟩ | ⟨h,_⟩ | ⟨h,_⟩ | ⟨h,_⟩
  ·cases h
  ·have key:∀ (p q:Option Addr) (l k m n:Nat),x'=.slice p l k→y'=.slice q m n→(p=none∧b=q.isNone∨q=none∧b=p.isNone)→EqGives P w c t x' y' b:=by
    rintro p q l k m n rfl rfl hpq
    refine .of (fun D hD=>?_) rfl rfl fun op xo yo _=>guard_plain (fun op xo yo=>rfl) op xo yo
    rcases hpq with ⟨rfl,rfl⟩ | ⟨rfl,rfl⟩
    ·simp [Op.equalIn,run_underlying' hu]
    ·cases p <;> simp [Op.equalIn,run_underlying' hu]
   cases hx with
   | slNil=>cases hy with
    | slNil=>cases h; exact key _ _ _ _ _ _ rfl rfl (.inl ⟨rfl,rfl⟩)
    | sl=>cases h; exact key _ _ _ _ _ _ rfl rfl (.inl ⟨rfl,rfl⟩)
    | sl0=>cases h; exact key _ _ _ _ _ _ rfl rfl (.inl ⟨rfl,rfl⟩)
    | _=>cases h
   | sl=>cases hy with
    | slNil=>cases h; exact key _ _ _ _ _ _ rfl rfl (.inr ⟨rfl,rfl⟩)
    | _=>cases h
   | sl0=>cases hy with
    | slNil=>cases h; exact key _ _ _ _ _ _ rfl rfl (.inr ⟨rfl,rfl⟩)
    | _=>cases h
   | _=>cases h
  all_goals cases h
 | map =>
  rw [hk] at h
  rcases eqKindB_some (eqKind_other hk (by simp) (by simp)) (by simp) with ⟨h,_⟩ | ⟨h,_⟩ | ⟨_,a,e,hu⟩ | ⟨h,_⟩ | ⟨h,_⟩
  ·cases h
  ·cases h
  ·cases hx with
   | mapNil=>cases hy with
    | mapNil=>cases h; exact .of (fun D _=>by simp [Op.equalIn,run_underlying' hu]) rfl rfl fun op xo yo _=>guard_plain (fun op xo yo=>rfl) op xo yo
    | map=>cases h; exact .of (fun D _=>by simp [Op.equalIn,run_underlying' hu]) rfl rfl fun op xo yo _=>guard_plain (fun op xo yo=>rfl) op xo yo
    | _=>cases h
   | map=>cases hy with
    | mapNil=>cases h; exact .of (fun D _=>by simp [Op.equalIn,run_underlying' hu]) rfl rfl fun op xo yo _=>guard_plain (fun op xo yo=>rfl) op xo yo
    | _=>cases h
   | _=>cases h
  all_goals cases h
 | func =>
  rw [hk] at h
  rcases eqKindB_some (eqKind_other hk (by simp) (by simp)) (by simp) with ⟨h,_⟩ | ⟨h,_⟩ | ⟨h,_⟩ | ⟨_,a,c',e,hu⟩ | ⟨h,_⟩
  ·cases h
  ·cases h
  ·cases h
  ·cases hx with
   | nilFunc=>cases hy with
    | nilFunc=>cases h; exact .of (fun D _=>by simp [Op.equalIn,run_underlying' hu]) rfl rfl fun op xo yo _=>guard_plain (fun op xo yo=>rfl) op xo yo
    | func=>cases h; exact .of (fun D _=>by simp [Op.equalIn,run_underlying' hu]) rfl rfl fun op xo yo _=>guard_plain (fun op xo yo=>rfl) op xo yo
    | _=>cases h
   | func=>cases hy with
    | nilFunc=>cases h; exact .of (fun D _=>by simp [Op.equalIn,run_underlying' hu]) rfl rfl fun op xo yo _=>guard_plain (fun op xo yo=>rfl) op xo yo
    | _=>cases h
   | _=>cases h
  ·cases h
 | iface =>
  rw [hk] at h
  rcases eqKindB_some (eqKind_other hk (by simp) (by simp)) (by simp) with ⟨h,_⟩ | ⟨h,_⟩ | ⟨h,_⟩ | ⟨h,_⟩ | ⟨_,ms,hu⟩
  ·cases h
  ·cases h
  ·cases h
  ·cases h
  ·cases hx with
   | nilIface=>cases hy with
    | nilIface =>
     have h:(bif c then some true else none)=some b:=h
     cases c with
     | false=>cases h
     | true =>
      cases h
      refine .of (fun D _=>by simp [Op.equalIn,run_underlying' hu]) rfl rfl fun op xo yo hc=>?_
      have hor:(∃ v,xo=.const v)∨(∃ v,yo=.const v):=by
       cases xo with
       | const v=>exact .inl ⟨v,rfl⟩
       | _=>cases yo with
        | const v=>exact .inr ⟨v,rfl⟩
        | _=>cases hc
      rcases hor with ⟨v,rfl⟩ | ⟨v,rfl⟩
      ·cases op <;> rfl
      ·cases op <;> cases xo <;> rfl
    | iface=>cases h; exact .of (fun D _=>by simp [Op.equalIn,run_underlying' hu]) rfl rfl fun op xo yo _=>guard_plain (fun op xo yo=>rfl) op xo yo
    | _=>cases h
   | iface tx hv=>cases hy with
    | nilIface=>cases h; exact .of (fun D _=>by simp [Op.equalIn,run_underlying' hu]) rfl rfl fun op xo yo _=>guard_plain (fun op xo yo=>rfl) op xo yo
    | iface ty hv' =>
     have h5:(bif Nat.beq tx ty then eqDyn P A tx _ _ else some false)=some b:=h
     clear h
     refine .of (fun D hD=>?_) rfl rfl fun op xo yo _=>guard_plain (fun op xo yo=>rfl) op xo yo
     cases hb:Nat.beq tx ty with
     | false =>
      rw [hb] at h5
      cases h5
      have hne:tx ≠ ty:=by rintro rfl; simp at hb
      simp [Op.equalIn,run_underlying' hu,hne]
     | true =>
      rw [hb] at h5
      have:=Nat.eq_of_beq_eq_true hb
      subst this
      obtain ⟨D',rfl⟩:∃ D',D=D' + 1:=⟨D - 1,by omega⟩
      obtain ⟨⟨i,h1,h2⟩,h3⟩:=eqDyn_run hM hv hv' h5 D' (by omega)
      have h4:∀ {x y:Value},(Op.equalIn (D' + 1 + 1) t (.iface tx x) (.iface tx y)).run P w=(Op.equalIn (D' + 1) tx x y).run P w:=by
       intro x y
       conv=>lhs; rw [Op.equalIn]
       simp [run_underlying' hu,typeInfo,h1,h2]
      rw [h4]
      exact h3
    | _=>cases h
   | _=>cases h
 | no=>rw [hk] at h; cases h
theorem binW_ok (hM:MR P φ A w) (op:BinOp) (t:TypeId) (xo yo:Operand) {x x' y y':Value} (hx:VR φ x x') (hy:VR φ y y') :
  OpOk P φ A w ((binW P op t (isConst xo || isConst yo)).val x y A) ((do pure (.value (← (do eqGuard op t xo yo x' y'; binOp op t x' y'))):Sem Next).run P w):=by
 have hother:op ≠ .eql∧op ≠ .neq→OpOk P φ A w (vR A ((binS op).val x y)) ((do pure (.value (← (do eqGuard op t xo yo x' y'; binOp op t x' y'))):Sem Next).run P w):=by
  intro hop
  cases hb:(binS op).val x y with
  | none=>exact trivial
  | some v =>
   obtain ⟨v',h1,h2⟩:=bin_ok (P:=P) (w:=w) op hop t xo yo hx hy hb
   exact OpOk.same hM h1 (run_v h2)
 cases op with
 | eql =>
  show OpOk P φ A w (vR A (eqlA P A _ t x y)) _
  unfold eqlA
  cases he:eqT P A (isConst xo || isConst yo) t x y with
  | none=>exact trivial
  | some b =>
   obtain ⟨h1,h2,h3⟩:=eqT_gives hM hx hy he
   exact OpOk.same hM (.bool b) (run_v (by simp [h3 .eql xo yo rfl,h1]))
 | neq =>
  show OpOk P φ A w (vR A (neqA P A _ t x y)) _
  unfold neqA
  cases he:eqT P A (isConst xo || isConst yo) t x y with
  | none=>exact trivial
  | some b =>
   obtain ⟨h1,h2,h3⟩:=eqT_gives hM hx hy he
   exact OpOk.same hM (.bool !b) (run_v (by simp [h3 .neq xo yo rfl,h2]))
 | _=>exact hother (by simp)
end Go.Sh
