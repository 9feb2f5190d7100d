import Derived.Test.YtjoblhlkfmeckaaGreatDoorQ13
import Derived.Deep.RegionLaw
import Derived.Deep.AppendLies
import Derived.Deep.DrawnRows
import Derived.Deep.Upon
import Derived.Test.YtjoblhlkfmeckaaGreatDoorODec
set_option maxHeartbeats 4000000
set_option maxRecDepth 8000
set_option linter.unusedVariables false
set_option linter.unusedSimpArgs false
open Option renaming some → lp,none → od
open Go.Proofs.Tryz renaming prog → ly,underlying9 → fy
open Go.RowKit renaming Below → ug
open Go renaming World → qq,Calls → xi,heap_alloc_new → tw,Value → tj,leftOf → b8,TypeId → s8
open Go.RowKit.Below renaming heap_alloc → q8
open Bool renaming true → s7,false → vp
open Go.World renaming cell?_alloc_lt → je
open Array renaming toList_filter → di
open Go.WideMaps renaming keyOf_string_mk → oq
open Go.Region renaming wanted → br
open Go.Instr renaming lookup → ry
open Go.MapKept renaming Stamped → wj
open Go.Builtin renaming append_ → yb
open Go.Value renaming int → rl,string → pt,pointer → om,slice → cf,bool → gf,tuple → fh,agg → lx
open Go.Obj renaming cells → ye
open Go.IntKind renaming i64 → tz
open Go.Ending renaming returned → pd
open Go.Proofs.Tryz
theorem Hd7{p q:Prop}(k:q)(h:Hd q->p:=by
 intro kz
 have hk0:(On w kind m p d n ver wt z).cell? ⟨w.heap.size,0,none⟩=some (.int .i64 kind):=by
  unfold On;rw [World.cell?_alloc_lt _ _ _ Ae];exact cellOf (heap_alloc_new w _) rfl
 revert hk0
 exact kz.1):p:=h ⟨k⟩
theorem Dwd{p:Prop}(h:p:=by
 go_enter Tryz.func99,Tryz.ntmps99
 go_wp2
 go_region_law (fail)
 all_goals go_wp2
 all_goals exact⟨rfl,.tuple #[],by simp [results,Tryz.results99,go_sem],rfl,by first|exact HH.out.drew|exact HH.out|exact HH.out.drew.drew⟩):p:=h
theorem Z4x{p:Prop}(h:p:=by
 have:=Ue W m ((hW.cell (p:=⟨1,0,none⟩) h1).trans hm) path Ab
 rw [hp] at this
 exact this):p:=h
theorem Gf1{p q:Prop}(k:q)(h:Hd q->p:=by
 intro kz
 have HV:Hid (∀W,Calls Tryz.prog 170 #[.agg #[.string xp,.string xd,.string xn,.int .i64 xm,.int .i64 xc,.int .i64 xv],.int .i64 v] W fun e w'=>(∃b,e=.returned (.bool b))/\Below W.heap.size W w'):=fun W=>Mz W xp xd xn xm xc xv v
 revert HV
 exact kz.1):p:=h ⟨k⟩
theorem Uzs{p q:Prop}(k:q)(h:Hd q->p:=by
 intro kz
 have HA:=Bc (heap_alloc_new w (.cells #[.int .i64 kind,.string p,.string d,.string n,.int .i64 v] 130))
 revert HA
 exact kz.1):p:=h ⟨k⟩
theorem Z0l{p:Prop}(h:p:=by
 go_enter Tryz.func170,Tryz.ntmps170
 go_wp2
 go_ret
 exact⟨⟨_,rfl⟩,Bh _ _⟩):p:=h
namespace Go.Proofs.YtjoblhlkfmeckaaGreatDoor
open Go.RowKit Go.Maps
open Go.ChangeMaps (setBlock)
theorem Zk{l:List MapEntry}(hn:(l.map (·.born)).Nodup){e:MapEntry}(he:e∈l):(e :: l.filter fun x=>!(x.born == e.born)).Perm l:=by
 induction l with
 | nil=>cases he
 | cons y l ih=>
  rw [bY,List.nodup_cons] at hn
  rcases bI.1 he with rfl|he
  ·have e1:(e :: l).filter (fun x=>!(x.born == e.born))=l:=by
    rw [List.filter_cons_of_neg Ae]
    refine List.filter_eq_self.2 fun x hx=>?_
    have:x.born≠e.born:=fun h=>hn.1 (bE.2 ⟨x,hx,h⟩)
    simpa using this
   rw [e1]
  ·have Cu:y.born≠e.born:=fun h=>hn.1 (bE.2 ⟨e,he,h.symm⟩)
   rw [List.filter_cons_of_pos (by simpa using Cu)]
   exact(List.Perm.swap y e _).trans ((ih hn.2 he).cons y)
theorem IS{es:Array MapEntry}{clock:Nat}(hs:wj es clock)(seen:Array Nat){e:MapEntry}(he:e∈(b8 es seen).toList):(e :: (b8 es (seen.push e.born)).toList).Perm (b8 es seen).toList:=by
 have e1:(b8 es (seen.push e.born)).toList=(b8 es seen).toList.filter fun x=>!(x.born == e.born):=by
  simp only [b8,di,List.filter_filter]
  congr 1
  funext x
  simp only [Array.contains_push,Bool.not_or]
  rw [Bool.and_comm]
 rw [e1]
 refine Zk ?_ he
 have:((b8 es seen).toList.map (·.born)).Sublist (es.toList.map (·.born)):=by
  simp only [b8,di]
  exact List.Sublist.map _ (List.filter_sublist)
 exact this.nodup hs.2.1
structure Om(w:qq)(b r:Nat)(m R:List (tj×tj)):Prop where
 ex:∃es clock since seen c0,w.heap[b]? = lp (.map es clock)/\wj es clock/\es.toList.map kv=m/\w.heap[r]? = lp (.mapIter (lp b) since seen c0)/\(∀x∈es.toList,x.born<since)/\(b8 es seen).toList.map kv=R/\since<=c0/\since<=clock
section
variable {P:Program} {k t e:s8} {w:qq} {b r:Nat} {m R:List (tj×tj)}
theorem Bm.rangeL(h:Bm P k w b m)(ht:P.underlying t=lp (.map k e)) :
  ∃o,(Instr.range t (.map (lp b))).run P w=.ok (om (lp ⟨w.heap.size,0,od⟩)) (w.alloc o)/\Om (w.alloc o) b w.heap.size m m:=by
 have Cg:=h.lt
 obtain⟨es,clock,hb,hs,rfl⟩:=h.ex
 refine⟨_,run_range_map w t k e b es clock ht hb,⟨es,clock,clock,#[],clock,(q8 _ _ _ Cg).trans hb,hs,rfl,tw _ _,hs.1,?_,aA _,aA _⟩⟩
 simp only [b8,di]
 congr 1
 exact List.filter_eq_self.2 Ae
theorem Om.ne(h:Om w b r m R):r≠b:=by
 exact Ggv
theorem Om.keep{w':qq}(h:Om w b r m R)(hb:w'.heap[b]? = w.heap[b]?)(hr:w'.heap[r]? = w.heap[r]?):Om w' b r m R:=by
 exact Azp
theorem Om.next(h:Om w b r m R)(ty:s8) :
  (R = []/\(Instr.next (om (lp ⟨r,0,od⟩)) vp ty).run P w=.ok (fh #[gf vp]) w) ∨
  ∃p R',(p :: R').Perm R/\∃w',(Instr.next (om (lp ⟨r,0,od⟩)) vp ty).run P w=.ok (fh #[gf s7,p.1,p.2]) w'/\Om w' b r m R'/\w.grownBy w' (lp r)/\w'.heap.size=w.heap.size/\∀x:qq,x.heap[b]? = w'.heap[b]?->x.heap[r]? = w'.heap[r]?->(Instr.entry (om (lp ⟨r,0,od⟩))).run P x=.ok (fh #[p.1,p.2]) x:=by
 have Cu:=h.ne
 obtain⟨es,clock,since,seen,c0,hb,hs,rfl,hr,hold,rfl,hsc,hsk⟩:=h.ex
 rcases run_next_at (P:=P) w ty r b since c0 seen es clock hr hb hold hsc with⟨h0,D1⟩|⟨e,he,w1,hal,D1⟩
 ·refine Or.inl ⟨?_,D1⟩
  rw [List.map_eq_nil_iff,←bP]
  exact h0
 ·obtain⟨hem,Hf⟩:=mem_left he
  have F7:w1.heap[r]? = lp (.mapIter (lp b) since seen c0):=by rcases hal with rfl|rfl <;> exact hr
  have B9:w1.heap[b]? = lp (.map es clock):=by rcases hal with rfl|rfl <;> exact hb
  refine Tuu ?_;intro hset1 hset2 Es
  refine Or.inr ⟨kv e,(b8 es (seen.push e.born)).toList.map kv,(IS hs seen he).map kv,_,D1,⟨es,clock,since,seen.push e.born,clock,Es,hs,rfl,hset1,hold,rfl,hsk,hsk⟩,?_,?_,fun x hxb hxr=>run_entry_at _ r b since seen es clock e (hxr.trans hset1) (hxb.trans Es) hem hs.2.1⟩
  ·exact Sga
  ·rcases hal with rfl|rfl <;> simp [setBlock]
end
attribute [local go_sem ↓] Go.wp_at_zero Go.wp_at_succ
theorem Rf{P:Program}{ops:Array Oper}{o:Oper}{a:Act}{w:qq}{K:Act->qq->Prop}{Q:Exit->Act->qq->Prop}{E:Prop}(hgd:o.guard=od)(s x:Operand)(t:s8)(ho:o.op=.call { callee:=.builtin .append,args:=#[s,x],argTypes:=#[t,t] })(v u:tj)(hs:a.eval s=v)(hx:a.eval x=u)(F:tj->qq->Prop)(hr:∃v' w',(yb #[t,t] o.type #[v,u]).run P w=.ok v' w'/\F v' w')(h:∀v' w',F v' w'->K (a.put o.dst v') w') :
  if br o (yielded ops a.tmps)=s7 then Oper.wp P o a w K Q else E:=by
 have hw:br o (yielded ops a.tmps)=s7:=by simp [br,hgd]
 rw [aQ hw]
 obtain⟨v',w',hr,hF⟩:=hr
 unfold Oper.wp execOp
 simp only [ho,resolve,invoke,builtin,Sem.run_bind,Sem.run_pure,Result.andThen_ok,dG,bY,dR,hs,hx,hr]
 exact h _ _ hF
inductive D5(W0:qq):qq->Prop
 | refl:D5 W0 W0
 | step {W:qq} (h:D5 W0 W):D5 W0 W.drew
theorem D5.heap{W0 W:qq}(h:D5 W0 W):W.heap=W0.heap:=by
 induction h with
 | refl=>rfl
 | step h ih=>exact ih
def On(w:qq)(kind m:Int)(p d n:ByteArray)(ver:Int)(wt:Bool)(z:Int):qq:=(w.alloc (ye #[rl tz kind,rl tz m,pt p,pt d,pt n,rl tz ver,gf wt] 119)).alloc (ye #[rl tz m,pt ⟨#[]⟩,cf od 0 0,rl tz z,pt ⟨#[]⟩,cf od 0 0,rl tz 0,pt ⟨#[]⟩,cf od 0 0] 164)
theorem LU(w:qq)(kind:Nat)(m:Int)(p d n:ByteArray)(ver:Int)(wt:Bool)(z:Int)(hk:kind<8)(sch:ByteArray)(ma:Option Addr)(mn mc:Nat)(R:Option Addr->Nat->Nat->qq->Prop)(T:tj->qq->Prop)(hs:w.cell? ⟨3,kind * 3+1,od⟩=lp (pt sch))(h3:3<w.heap.size)(HA:Hid (∀W,D5 (On w kind m p d n ver wt z) W->∃v' W1,(yb #[158,158] 158 #[cf (lp ⟨w.heap.size+1,0,od⟩) 3 3,cf ma mn mc]).run ly W=.ok v' W1/\∃a i c,v'=cf a i c/\W1.cell? ⟨w.heap.size,0,od⟩=lp (rl tz kind)/\W1.cell? ⟨3,kind * 3+1,od⟩=lp (pt sch)/\Hid (R a i c W1)))(HP:Hid (∀a i c W1,R a i c W1->∀W,D5 W1 W->xi ly 105 #[pt sch,cf a i c] W fun e w'=>∃ov,e=pd ov/\Hid (T ov w'))) :
  xi ly 155 #[rl tz 1,Mv kind m p d n ver wt,rl tz z,cf ma mn mc] w fun e w'=>∃ov,e=pd ov/\T ov w':=by
 have hs0:(On w kind m p d n ver wt z).cell? ⟨3,kind * 3+1,od⟩=lp (pt sch):=by
  unfold On;rw [je _ _ _ Ag,je _ _ _ (by simpa using h3)];exact hs
 refine Hd7 ?_;intro hk0
 have hk8:(kind:Int)<8:=Ab
 go_enter func155,ntmps155
 go_wp2
 rw [show(w.alloc (ye #[rl tz kind,rl tz m,pt p,pt d,pt n,rl tz ver,gf wt] 119)).alloc (ye #[rl tz m,pt ⟨#[]⟩,cf od 0 0,rl tz z,pt ⟨#[]⟩,cf od 0 0,rl tz 0,pt ⟨#[]⟩,cf od 0 0] 164)=On w kind m p d n ver wt z from rfl]
 generalize On w kind m p d n ver wt z=W0 at *
 go_region_law (first
  | (refine Rf rfl (.tmp 23) (.tmp 24) 158 Ac (cf (lp ⟨w.heap.size+1,0,od⟩) 3 3) (cf ma mn mc) Ac Ac _ (HA.out _ (by(first|exact D5.refl|exact D5.step D5.refl|exact D5.step (D5.step D5.refl)|exact D5.step (D5.step (D5.step D5.refl))|exact D5.step (D5.step (D5.step (D5.step D5.refl)))))) ?_;rintro _ W1 ⟨a,i,c,rfl,c1,s1,HR⟩)
  | (go_simp;refine(HP.out a i c W1 HR.out _ (by(first|exact D5.refl|exact D5.step D5.refl|exact D5.step (D5.step D5.refl)|exact D5.step (D5.step (D5.step D5.refl))|exact D5.step (D5.step (D5.step (D5.step D5.refl)))))).mono ?_;rintro e w' ⟨ov,rfl,HT⟩))
 all_goals (go_wp2;go_ret;exact⟨_,rfl,HT.out⟩)
theorem D5.under{W0 W:qq}(h:D5 W0 W){B:Nat}{a:qq}(hb:ug B a W0):ug B a W:=by
 induction h with
 | refl=>exact hb
 | step h ih=>exact ih.drew
theorem D5.cell{W0 W:qq}(h:D5 W0 W)(a:Addr):W.cell? a=W0.cell? a:=by unfold World.cell?;rw [h.heap]
section
variable {valid:ByteArray->Bool} {Tabs:qq->Prop}
abbrev TJ(m z:Int):List (Orch.V×tj):=[(Orch.num m,cf od 0 0),(Orch.num z,cf od 0 0),(Orch.num 0,cf od 0 0)]
theorem BQ(U:Jk valid Tabs)(w:qq)(hT:Tabs w)(hL:Table w)(kind:Nat)(hk:kind<8)(m:Int)(p d n:ByteArray)(ver:Int)(wt:Bool)(z:Int)(sch:ByteArray)(hs:w.cell? ⟨3,kind * 3+1,od⟩=lp (pt sch))(h3:3<w.heap.size)(l:List Orch.V)(lv:tj)(hl0:l = []->lv=cf od 0 0)(hl9:l.length<=100)(hvs:Er w (fun b=>b<w.heap.size) l lv)(t:Orch.Ty)(hp:Orch.parse sch.data.toList=lp t)(body:List UInt8)(hq:Orch.put valid 9 [] t (.mk 0 ⟨#[]⟩ ([Orch.num m,Orch.num z,Orch.num 0]++l))=lp body)(h0:0<body.length)(hl:body.length<=1000) :
  xi ly 155 #[rl tz 1,Mv kind m p d n ver wt,rl tz z,lv] w fun e w'=>Fr w.heap.size w' e body/\ug w.heap.size w w':=by
 obtain⟨ma,mc,hlv⟩:=hvs.shape
 have hbw:ug w.heap.size w (On w kind m p d n ver wt z):=(Bh w _).alloc Ae _
 have Di:(On w kind m p d n ver wt z).heap.size=w.heap.size+2:=by simp [On]
 have hg:(On w kind m p d n ver wt z).heap[w.heap.size+1]? = lp (ye #[rl tz m,pt ⟨#[]⟩,cf od 0 0,rl tz z,pt ⟨#[]⟩,cf od 0 0,rl tz 0,pt ⟨#[]⟩,cf od 0 0] 164):=by
  have:=tw (w.alloc (ye #[rl tz kind,rl tz m,pt p,pt d,pt n,rl tz ver,gf wt] 119)) (ye #[rl tz m,pt ⟨#[]⟩,cf od 0 0,rl tz z,pt ⟨#[]⟩,cf od 0 0,rl tz 0,pt ⟨#[]⟩,cf od 0 0] 164)
  simpa [On] using this
 refine Hd7 ?_;intro hk0
 have hs0:(On w kind m p d n ver wt z).cell? ⟨3,kind * 3+1,od⟩=lp (pt sch):=(hbw.cell (p:=⟨3,kind * 3+1,od⟩) h3).trans hs
 obtain⟨i0,hi0,hz0,hz1,hz2⟩:=info_parts Tryz.info164
 have hun:=underlying158
 generalize hln:l.length=ln at hlv hl9
 subst hlv
 generalize hA:On w kind m p d n ver wt z=W0 at *
 refine(LU w kind m p d n ver wt z hk sch ma ln mc (fun a i c W1=>Er W1 (fun b=>b<W1.heap.size) ([Orch.num m,Orch.num z,Orch.num 0]++l) (cf a i c)/\ug w.heap.size w W1) (fun ov w'=>Fr w.heap.size w' (pd ov) body/\ug w.heap.size w w') hs h3 ?_ ?_).mono ?_
 ·rw [hA]
  intro W hW
  have hWh:=hW.heap
  have hbW:=hW.under hbw
  cases hvs with
  | nil=>
   have e:=hl0 rfl
   cases e
   refine⟨_,W,run_append_nothing W 158 158 158 164 i0 hun hi0 _ 3 3 (aA _) _ (Src.ofNil W hun 0),_,_,_,rfl,(hW.cell _).trans hk0,(hW.cell _).trans hs0,?_,hbW⟩
   refine .row (TJ m z) _ _ Ae (aA _) (by rw [hWh,Di];omega) (fun j u hj=>?_) (fun q hq=>?_)
   ·exact(hW.cell _).trans (cellOf hg (by simpa [Fe,Orch.V.n,Orch.V.s] using hj))
   ·simp at hq
    rcases hq with rfl|rfl|rfl <;> exact .nil od 0
  | row ps g cap Cu Ea hS hc hr=>
   have Db:W.ownsRow w.heap.size 164 3 (cf (lp ⟨w.heap.size+1,0,od⟩) 3 3) 3 ((TJ m z).flatMap Fe):=
    ⟨rfl,.inr ⟨w.heap.size+1,3,_,rfl,Ab,by rw [hWh];exact hg,Ab,by unfold maxLen;omega,Ac,Ac⟩⟩
   obtain⟨g',cap',W1,D1,ho,hgr,hat,Cg⟩:=run_append_lies (P:=ly) W 158 158 w.heap.size 164 i0 _ 3 _ hun hi0 hz0 hz1 hz2 rfl Ad _ 3 _ Db ⟨g,0,od⟩ ps.length mc (ps.flatMap Fe) (NT Fe 3 (fun _=>rfl) ps)
    (fun j u hj=>by
     have:Addr.add ⟨g,0,od⟩ j=⟨g,j,od⟩:=by cases j <;> simp [Addr.add]
     rw [this]
     exact(hbW.cell (p:=⟨g,j,od⟩) hS).trans (hc j u hj))
    (fun u hu=>by
     obtain⟨q,hq,hu⟩:=List.mem_flatMap.1 hu
     have:=hr q hq
     obtain⟨a,c,e⟩:=this.shape
     simp only [Fe,bI,cF,or_false] at hu
     rcases hu with rfl|rfl|rfl
     ·rfl
     ·rfl
     ·rw [e];rfl)
    (List.length_pos_iff.2 Cu) (by unfold maxLen;omega) Ab hbW.size _ rfl
   have hbW1:ug w.heap.size w W1:=hbW.grown hgr (by rw [hWh,Di];omega) (fun j hj=>by simp [Value.ownBlock] at hj;omega)
   refine⟨_,W1,D1,_,_,_,rfl,?_,?_,?_,hbW1⟩
   ·rw [World.cell?_of_block (w:=W) (hgr.block _ (by rw [hWh,Di];show w.heap.size<_;omega) (fun e=>by simp [Value.ownBlock] at e))]
    exact(hW.cell _).trans hk0
   ·exact(hbW1.cell (p:=⟨3,kind * 3+1,od⟩) h3).trans hs
   ·have hcells:∀j u,((TJ m z++ps).flatMap Fe)[j]? = lp u->W1.cell? ⟨g',j,od⟩=lp u:=fun j u hj=>by
     rw [List.flatMap_append] at hj
     rcases ho.2 with⟨e,_⟩|⟨g2,cap2,cur,e,_,h2,h3',h4,h5,h6⟩
     ·cases e
     ·cases e
      rw [←h6,dI] at hj
      split at hj
      ·exact cellOf h2 (by simpa using hj)
      ·cases hj
    have:=Er.row (w:=W1) (S:=fun b=>b<W1.heap.size) (TJ m z++ps) g' cap' Ae (by
      rcases ho.2 with⟨e,_⟩|⟨g2,cap2,cur,e,_,h2,h3',h4,h5,h6⟩
      ·cases e
      ·cases e;simp;omega) Cg hcells (fun q hq=>by
      rcases cH.1 hq with hq|hq
      ·simp at hq
       rcases hq with rfl|rfl|rfl <;> exact .nil od 0
      ·exact(hr q hq).congr (fun b hb=>aB hb hbW1.size) (fun b hb=>hbW1.block b hb))
    simp only [aH,cI] at this
    exact this
 ·intro a i c W1 hR W hW
  have B9:=hW.under hR.2
  refine(Qf U W (U.kept (U.size hT) B9 hT) (hL.below B9 hL.pos) sch _ (fun b=>b<W.heap.size) _ (hR.1.congr (fun b h=>by rw [hW.heap];exact h) (fun b _=>by rw [hW.heap])) (fun _ h=>h) t hp body hq h0 hl).mono ?_
  rintro e w' ⟨⟨ov,rfl,ho⟩,hb⟩
  exact⟨ov,rfl,Fr.low ⟨ov,rfl,ho⟩ B9.size,B9.trans (hb.mono B9.size)⟩
 ·rintro e w' ⟨ov,rfl,h⟩
  exact h
end
end Go.Proofs.YtjoblhlkfmeckaaGreatDoor
namespace Go.Proofs.YtjoblhlkfmeckaaGreatDoor
open Go.RowKit
theorem Abe(w:qq)(str:ByteArray)(ba:Option Addr)(bn bc:Nat)(sg sh sz:Nat)(lo hi:Int)(tx:Bool)(fn:Nat)(q:Option Addr->Nat->Nat->qq->Prop)(r:qq->Option Addr->Nat->Nat->qq->Prop)(HC:Hid (xi ly 121 #[pt str] w fun e w'=>(∃p m n,e=pd (fh #[Gl sg sh sz lo hi tx fn (cf p m n),gf s7])/\q p m n w')/\ug w.heap.size w w'))(HE:Hid (∀wb W p m n,q p m n wb->ug wb.heap.size wb W->ug w.heap.size w W->xi ly 122 #[Gl sg sh sz lo hi tx fn (cf p m n),cf ba bn bc] W fun e w'=>(∃vn vs a i j,e=pd (fh #[vv vn vs (cf a i j),gf s7])/\r W a i j w')/\ug W.heap.size W w')) :
  xi ly 98 #[pt str,cf ba bn bc] w fun e w'=>(∃a i j W W',e=pd (fh #[cf a i j,gf s7])/\r W a i j W'/\ug W'.heap.size W' w'/\w.heap.size<=W.heap.size)/\ug w.heap.size w w':=by
 go_enter func98,ntmps98
 go_wp2_with (first
  | (go_at_call 121;refine HC.out.mono ?_;rintro e w1 ⟨⟨p,m,n,rfl,hq⟩,B9⟩;have HQ:=Bc hq;have Cs:Hid (ug w.heap.size w w1):=B9;clear B9 hq)
  | (go_at_call 122;refine(HE.out w1 _ p m n HQ.out (Bh _ _) (Cs.out.alloc Cs.out.size _)).mono ?_;rintro e w2 ⟨⟨vn,vs,a,i,j,rfl,hr⟩,Fs⟩;have HR:=Bc hr;have Fh:Hid (ug w.heap.size w w2):=(Cs.out.alloc Cs.out.size _).trans (Fs.mono (by have:=Cs.out.size;simp;omega));clear Fs hr))
 go_ret2
 exact⟨⟨_,_,_,_,_,rfl,HR.out,Bh _ _,by have:=Cs.out.size;simp;omega⟩,Fh.out.alloc Fh.out.size _⟩
section
variable {valid:ByteArray->Bool} {Tabs:qq->Prop}
theorem Tz(U:Jk valid Tabs)(w:qq)(hT:Tabs w)(hL:Table w)(str:ByteArray)(t:Orch.Ty)(hp:Orch.parse str.data.toList=lp t)(bv:tj)(l:List UInt8)(hl:l.length<=1000)(hbv:Gz w bv l)(v:Orch.V)(hd:AQ valid t l=lp v) :
  xi ly 98 #[pt str,bv] w fun e w'=>(∃lv,e=pd (fh #[lv,gf s7])/\Er w' (fun b=>w.heap.size<=b/\b<w'.heap.size) v.l lv)/\ug w.heap.size w w':=by
 have hbv0:=hbv
 obtain⟨b,off,cap,rfl,Ea,Cg,hb⟩:=hbv
 have E6:=Ut hp
 have hc:=Q9 w str hL
 rw [hp] at hc
 refine(Abe w str _ _ _ t.l.sign.toNat t.l.shape t.l.size t.l.least t.l.most t.l.text t.l.fin.toNat (fun p m n w'=>El w' (fun b=>b<w'.heap.size) t.ps (cf p m n)) (fun W a i j w'=>Er w' (fun b=>W.heap.size<=b/\b<w'.heap.size) v.l (cf a i j)) (hc.mono ?_) (fun wb W p m n hts hbW hbw=>?_)).mono ?_
 ·exact Lfx
 ·have:=Aac U W (U.kept (U.size hT) hbw hT) t E6 (fun b=>b<W.heap.size) _ (hts.congr (fun b h=>aB h hbW.size) (fun b hb=>hbW.block b hb)) (fun _ h=>h) _ l Ab (hbv0.below hbw (aA _))
  rw [hd] at this
  refine this.mono ?_
  rintro e w' ⟨⟨lv,rfl,ho⟩,hb⟩
  obtain⟨a,c,rfl⟩:=Tb.shape ho
  exact⟨⟨_,_,_,_,_,rfl,Tb.vs ho⟩,hb⟩
 ·rintro e w' ⟨⟨a,i,j,W,W',rfl,hv,hbW',hs⟩,hb⟩
  exact⟨⟨_,rfl,hv.congr (fun b hb=>⟨aE hs hb.1,aB hb.2 hbW'.size⟩) (fun b hb=>hbW'.block b hb.2)⟩,hb⟩
theorem AS{w:qq}{S:Nat->Prop}{v:Orch.V}{vs:List Orch.V}{lv:tj}(h:Er w S (v :: vs) lv) :
  ∃g cap,lv=cf (lp ⟨g,0,od⟩) (vs.length+1) cap/\vs.length+1<=cap/\S g/\∀j (x:Orch.V),(v :: vs)[j]? = lp x->w.cell? ⟨g,j * 3,od⟩=lp (rl tz x.n)/\w.cell? ⟨g,j * 3+1,od⟩=lp (pt x.s):=by
 generalize hq:v :: vs=L at h
 cases h with
 | nil=>cases hq
 | row ps g cap h0 Ea hS hc hr=>
  have hlen:ps.length=vs.length+1:=by have:=aG List.length hq;simpa using this.symm
  refine⟨g,cap,by rw [hlen],Ab,hS,fun j x hx=>?_⟩
  rw [bX] at hx
  cases hp:ps[j]? with
  | none=>rw [hp] at hx;cases hx
  | some q=>
   rw [hp] at hx
   simp only [bA,aL] at hx
   subst hx
   refine⟨hc _ _ ?_,hc _ _ ?_⟩
   ·have:=P3 Fe 3 (fun _=>rfl) ps j 0 Ab
    rw [Nat.add_zero] at this
    rw [this,hp];rfl
   ·have:=P3 Fe 3 (fun _=>rfl) ps j 1 Ab
    rw [this,hp];rfl
theorem Vt(U:Jk valid Tabs)(w:qq)(hT:Tabs w)(hL:Table w)(bv:tj)(l:List UInt8)(hl:l.length<=1000)(hbv:Gz w bv l)(n:Int)(hd:AQ valid (.mk Orch.lr [Orch.t4]) l=lp (.mk 0 ⟨#[]⟩ [Orch.num n])) :
  xi ly 95 #[bv] w fun e w'=>e=pd (fh #[rl tz n,gf s7])/\ug w.heap.size w w':=by
 have hf:=Tz U w hT hL ⟨#[40,52,41]⟩ _ Orch.parse_hello bv l hl hbv _ hd
 obtain⟨b,off,cap,rfl,Ea,Cg,hb⟩:=hbv
 have HF:Hid (xi ly 98 #[pt ⟨#[40,52,41]⟩,cf (lp ⟨b,off,od⟩) l.length cap] w fun e w'=>∃g c,e=pd (fh #[cf (lp ⟨g,0,od⟩) 1 c,gf s7])/\w'.cell? ⟨g,0,od⟩=lp (rl tz n)/\ug w.heap.size w w'):=hf.mono (by
  rintro e w' ⟨⟨lv,rfl,hv⟩,hbl⟩
  obtain⟨g,c,rfl,_,_,hc⟩:=AS hv
  exact⟨g,c,rfl,(hc 0 _ rfl).1,hbl⟩)
 clear hf hb hd
 go_enter func95,ntmps95
 go_wp2_with (go_at_call 98;refine HF.out.mono ?_;rintro e w1 ⟨g,c,rfl,c0,hbl⟩;have HB:=Bc hbl;clear hbl)
 go_ret2
 exact⟨rfl,HB.out⟩
theorem X3(w:qq)(bv:tj)(l:List UInt8)(h4:4<=l.length)(hl:l.length<=1000)(hbv:Gz w bv l)(k:Int)(hk:Orch.sgn (l.take 4)=k)(h1:1<=k)(h7:k<=7) :
  xi ly 97 #[bv] w fun e w'=>e=pd (fh #[rl tz k,gf s7])/\w'=w:=by
 obtain⟨b,off,cap,rfl,Ea,Cg,hb⟩:=hbv
 have HS:Hid (xi ly 142 #[cf (lp ⟨b,off,od⟩) 4 cap] w fun e w'=>e=pd (rl tz k)/\w'=w):=by
  have:=AK w b off cap (l.take 4) (by rw [bL];omega) (hb.take (n:=4))
  rw [hk] at this
  exact this
 have hn:¬((l.length:Int)<4):=Ab
 have hc4:(4:Int)<=(cap:Int):=Ab
 clear hb hk
 go_enter func97,ntmps97
 go_wp2_with (go_at_call 142;refine HS.out.mono ?_;rintro e w1 ⟨rfl,rfl⟩)
 go_ret2
 exact⟨rfl,rfl⟩
end
attribute [local go_sem ↓] Go.wp_at_zero Go.wp_at_succ
structure Bn(w w':qq)(g:Nat)(cs:Array tj)(t:s8):Prop where
 blk:w'.heap[g]? = lp (ye cs t)
 grown:w.grownBy w' (lp g)
theorem Bn.refl{w:qq}{g:Nat}{cs:Array tj}{t:s8}(h:w.heap[g]? = lp (ye cs t)):Bn w w g cs t:=⟨h,⟨rfl,rfl,rfl,aA _,fun _ _ _=>rfl⟩⟩
theorem Bn.set{w w':qq}{g:Nat}{cs:Array tj}{t:s8}(h:Bn w w' g cs t)(j:Nat)(v:tj):Bn w (w'.setCell ⟨g,j,od⟩ v) g (cs.setIfInBounds j v) t:=
 ⟨heap_setCell_same _ _ _ _ _ _ h.blk,h.grown.os,h.grown.tape,h.grown.output,by simp only [World.setCell];split <;> simp [h.grown.size],fun k hk Cu=>(heap_setCell_other _ _ _ _ (fun e=>Cu (by rw [e]))).trans (h.grown.block k hk Cu)⟩
theorem Bn.drew{w w':qq}{g:Nat}{cs:Array tj}{t:s8}(h:Bn w w' g cs t):Bn w w'.drew g cs t:=⟨h.blk,h.grown.os,h.grown.tape,h.grown.output,h.grown.size,h.grown.block⟩
theorem Zh(w:qq)(rb m g off cap:Nat)(mk:Int)(p d:ByteArray)(hr:w.heap[rb]? = lp (ye (Bb 1 mk ⟨#[]⟩ ⟨#[]⟩ ⟨#[]⟩ 0 vp) 119))(h1:w.cell? ⟨g,off+1,od⟩=lp (pt p))(h2:w.cell? ⟨g,off+4,od⟩=lp (pt d))(Cu:g≠rb) :
  xi ly 99 #[om (lp ⟨rb,0,od⟩),cf (lp ⟨g,off,od⟩) 2 cap] w fun e w'=>e=pd (fh #[])/\Bn w w' rb (Bb 1 mk p d ⟨#[]⟩ 0 vp) 119:=by
 obtain⟨c0,c2,c3⟩:=Ld 0 2 3 hr
 have f2:=Ay (j:=2) hr
 have f3:=Ay (j:=3) hr
 have HR:=Bc hr
 clear hr
 have HH:=Bc (((Bn.refl HR.out).set 2 (pt p)).set 3 (pt d))
 exact Dwd
theorem Zi(w:qq)(rb m g off cap:Nat)(mk:Int)(p:ByteArray)(v:Int)(hr:w.heap[rb]? = lp (ye (Bb 2 mk ⟨#[]⟩ ⟨#[]⟩ ⟨#[]⟩ 0 vp) 119))(h1:w.cell? ⟨g,off+1,od⟩=lp (pt p))(h2:w.cell? ⟨g,off+3,od⟩=lp (rl tz v))(Cu:g≠rb) :
  xi ly 99 #[om (lp ⟨rb,0,od⟩),cf (lp ⟨g,off,od⟩) 2 cap] w fun e w'=>e=pd (fh #[])/\Bn w w' rb (Bb 2 mk p ⟨#[]⟩ ⟨#[]⟩ v vp) 119:=by
 obtain⟨c0,c2,c5⟩:=Ld 0 2 5 hr
 have f2:=Ay (j:=2) hr
 have f5:=Ay (j:=5) hr
 have HR:=Bc hr
 clear hr
 have HH:=Bc (((Bn.refl HR.out).set 2 (pt p)).set 5 (rl tz v))
 exact Dwd
theorem NO(w:qq)(rb m g off cap:Nat)(mk:Int)(p d:ByteArray)(v:Int)(hr:w.heap[rb]? = lp (ye (Bb 3 mk ⟨#[]⟩ ⟨#[]⟩ ⟨#[]⟩ 0 vp) 119))(h1:w.cell? ⟨g,off+1,od⟩=lp (pt p))(h2:w.cell? ⟨g,off+4,od⟩=lp (pt d))(h3:w.cell? ⟨g,off+6,od⟩=lp (rl tz v))(Cu:g≠rb) :
  xi ly 99 #[om (lp ⟨rb,0,od⟩),cf (lp ⟨g,off,od⟩) 3 cap] w fun e w'=>e=pd (fh #[])/\Bn w w' rb (Bb 3 mk p d ⟨#[]⟩ v vp) 119:=by
 obtain⟨c0,c2,c3,c5⟩:=Ck4 0 2 3 5 hr
 have f2:=Ay (j:=2) hr
 have f3:=Ay (j:=3) hr
 have f5:=Ay (j:=5) hr
 have HR:=Bc hr
 clear hr
 have HH:=Bc ((((Bn.refl HR.out).set 2 (pt p)).set 3 (pt d)).set 5 (rl tz v))
 exact Dwd
theorem Zj(w:qq)(rb m g off cap:Nat)(mk:Int)(p:ByteArray)(hr:w.heap[rb]? = lp (ye (Bb 5 mk ⟨#[]⟩ ⟨#[]⟩ ⟨#[]⟩ 0 vp) 119))(h1:w.cell? ⟨g,off+1,od⟩=lp (pt p))(h2:w.cell? ⟨g,off+3,od⟩=lp (rl tz 1))(Cu:g≠rb) :
  xi ly 99 #[om (lp ⟨rb,0,od⟩),cf (lp ⟨g,off,od⟩) 2 cap] w fun e w'=>e=pd (fh #[])/\Bn w w' rb (Bb 5 mk p ⟨#[]⟩ ⟨#[]⟩ 0 s7) 119:=by
 obtain⟨c0,c2,c6⟩:=Ld 0 2 6 hr
 have f2:=Ay (j:=2) hr
 have f6:=Ay (j:=6) hr
 have HR:=Bc hr
 clear hr
 have HH:=Bc (((Bn.refl HR.out).set 2 (pt p)).set 6 (gf s7))
 exact Dwd
end Go.Proofs.YtjoblhlkfmeckaaGreatDoor
namespace Go.Proofs.YtjoblhlkfmeckaaGreatDoor
open Go.RowKit
theorem UL{w2 w4:qq}{o:Obj}{k:Nat}{cs cs':Array tj}{t t':s8}(ht:Bn (w2.alloc o) w4 w2.heap.size cs t)(h:w2.heap[k]? = lp (ye cs' t')):w4.heap[k]? = lp (ye cs' t'):=by
 have hk:=ltOf h
 rw [ht.grown.block k Ag Ag,q8 _ _ _ hk]
 exact h
theorem Abx(w:qq)(kind:Nat)(h8:kind<8)(ba:Option Addr)(bn bc fn:Nat)(h2:4<=fn)(sch:ByteArray)(mk:Int)(hmk:¬mk<0)(p d nt:ByteArray)(ver:Int)(wt:Bool)(R:Nat->Nat->qq->Prop)(hs:w.cell? ⟨0,kind * 3+1,od⟩=lp (pt sch))(h0:0<w.heap.size)(HK:Hid (∀W,ug w.heap.size w W->xi ly 97 #[cf ba bn bc] W fun e w'=>e=pd (fh #[rl tz kind,gf s7])/\w'=W))(HF:Hid (∀W,ug w.heap.size w W->xi ly 98 #[pt sch,cf ba bn bc] W fun e w'=>∃g c,e=pd (fh #[cf (lp ⟨g,0,od⟩) fn c,gf s7])/\fn<=c/\w'.cell? ⟨g,3,od⟩=lp (rl tz mk)/\Hid (R g c w'/\g<w'.heap.size/\ug W.heap.size W w')))(HL:Hid (∀g c W',R g c W'->g<W'.heap.size->∀W'',ug W'.heap.size W' W''->W''.heap[W'.heap.size]? = lp (ye (Bb kind mk ⟨#[]⟩ ⟨#[]⟩ ⟨#[]⟩ 0 vp) 119) ->
   xi ly 99 #[om (lp ⟨W'.heap.size,0,od⟩),cf (lp ⟨g,6,od⟩) (fn - 2) (c - 2)] W'' fun e w'=>e=pd (fh #[])/\Bn W'' w' W'.heap.size (Bb kind mk p d nt ver wt) 119)) :
  xi ly 52 #[rl tz 1,cf ba bn bc] w fun e w'=>e=pd (fh #[Mv kind mk p d nt ver wt,gf s7])/\ug w.heap.size w w':=by
 have HA:=Bc (tw w (ye (Bb 0 0 ⟨#[]⟩ ⟨#[]⟩ ⟨#[]⟩ 0 vp) 119))
 have hs1:(w.alloc (ye (Bb 0 0 ⟨#[]⟩ ⟨#[]⟩ ⟨#[]⟩ 0 vp) 119)).cell? ⟨0,kind * 3+1,od⟩=lp (pt sch):=(je _ _ _ h0).trans hs
 have hk8:(kind:Int)<8:=Ab
 have hfn:(1:Int)<(fn:Int):=Ab
 have hfn2:(2:Int)<=(fn:Int):=Ab
 clear hs
 go_enter func52,ntmps52
 go_wp2_with (first
  | (go_at_call 97;refine(HK.out _ (Bh _ _)).mono ?_;rintro e w1 ⟨rfl,rfl⟩)
  | (go_at_call 98;refine(HF.out _ (Bh _ _)).mono ?_;rintro e w2 ⟨g,c,rfl,hc,c3,HR⟩;have hc2:c≠2:=Ab;have hc3:(2:Int)<(c:Int):=Ab;have Fh:Hid (ug w.heap.size w w2):=(Bh _ _).trans (HR.out.2.2.mono Ae);have Hl:Hid (w2.heap[w.heap.size]? = _):=(HR.out.2.2.block _ (ltOf HA.out)).trans HA.out))
 refine(HL.out g c w2 HR.out.1 HR.out.2.1 _ (Bh _ _) (tw _ _)).mono ?_
 rintro e w4 ⟨rfl,ht⟩
 have HT:=Bc ht
 have HA4:Hid (w4.heap[w.heap.size]? = lp (ye (Bb 0 0 ⟨#[]⟩ ⟨#[]⟩ ⟨#[]⟩ 0 vp) 119)):=(by exact UL ht Hl.out)
 clear ht
 obtain⟨b0,b1,b2,b3,b4,b5,b6⟩:=LD (w:=w4) 0 1 2 3 4 5 6 HT.out.blk
 obtain⟨a0,a1,a2,a3,a4,a5,a6⟩:=LD (w:=w4) 0 1 2 3 4 5 6 HA4.out
 have f0:=Ay (j:=0) HA4.out
 have f1:=Ay (j:=1) HA4.out
 have f2:=Ay (j:=2) HA4.out
 have f3:=Ay (j:=3) HA4.out
 have f4:=Ay (j:=4) HA4.out
 have f5:=Ay (j:=5) HA4.out
 have f6:=Ay (j:=6) HA4.out
 have Cu:w.heap.size≠w2.heap.size:=(by have:=ltOf Hl.out;omega)
 clear HK HF HL c3 hc hc2 hc3 hs1 hfn hfn2 hk8 hmk
 have HBW:Hid (∀W9 cs t,Bn w4 W9 w.heap.size cs t->ug w.heap.size w W9):=fun W9 cs t h9=>by
  have hb4:ug w.heap.size w w4:=(Fh.out.alloc Fh.out.size _).grown HT.out.grown (by have:=Fh.out.size;simp;omega) (fun j hj=>by cases hj;exact Fh.out.size)
  exact hb4.grown h9.grown hb4.size (fun j hj=>by cases hj;exact aA _)
 have HEND:=Bc ((((((((Bn.refl HA4.out).set 0 (rl tz kind)).set 1 (rl tz mk)).set 2 (pt p)).set 3 (pt d)).set 4 (pt nt)).set 5 (rl tz ver)).set 6 (gf wt))
 generalize w2.heap.size=bb at *
 go_wp2
 have T9:Bn w4 _ w.heap.size (Bb kind mk p d nt ver wt) 119:=HEND.out
 generalize ((((((w4.setCell ⟨w.heap.size,0,od⟩ (rl tz kind)).setCell ⟨w.heap.size,1,od⟩ (rl tz mk)).setCell ⟨w.heap.size,2,od⟩ (pt p)).setCell ⟨w.heap.size,3,od⟩ (pt d)).setCell ⟨w.heap.size,4,od⟩ (pt nt)).setCell ⟨w.heap.size,5,od⟩ (rl tz ver)).setCell ⟨w.heap.size,6,od⟩ (gf wt)=W9 at T9 ⊢
 obtain⟨z0,z1,z2,z3,z4,z5,z6⟩:=LD (w:=W9) 0 1 2 3 4 5 6 T9.blk
 exact⟨rfl,fh #[Mv kind mk p d nt ver wt,gf s7],by simp [results,results52,go_sem,z0,z1,z2,z3,z4,z5,z6],rfl,HBW.out _ _ _ T9⟩
open Go.Maps
structure Nd where
 path:ByteArray
 data:ByteArray
 note:ByteArray
 made:Int
 changed:Int
 version:Int
abbrev Nd.cs(x:Nd):Array tj:=#[pt x.path,pt x.data,pt x.note,rl tz x.made,rl tz x.changed,rl tz x.version]
abbrev Nd.val(x:Nd):tj:=lx x.cs
abbrev Nd.zero:Nd:=⟨⟨#[]⟩,⟨#[]⟩,⟨#[]⟩,0,0,0⟩
abbrev KR(p:ByteArray×Nd):tj×tj:=(pt p.1,p.2.val)
theorem Xm:Keyed ly 9:=string_keyed fy
theorem QZ(w:qq):(zeroValue 96).run ly w=.ok Nd.zero.val w:=Aa
structure Ca(w:qq)(tb mb:Nat)(num:Int)(ns:List (ByteArray×Nd)):Prop where
 blk:w.heap[tb]? = lp (ye #[rl tz num,.map (lp mb)] 94)
 map:Bm ly 9 w mb (ns.map KR)
theorem Ca.below{w w':qq}{B tb mb:Nat}{num:Int}{ns:List (ByteArray×Nd)}(h:Ca w tb mb num ns)(hb:ug B w w')(h1:tb<B)(h2:mb<B):Ca w' tb mb num ns:=
 ⟨(hb.block tb h1).trans h.blk,h.map.of_block (hb.block mb h2)⟩
theorem Kb(w:qq)(tb mb:Nat)(num:Int)(ns:List (ByteArray×Nd))(h:Ca w tb mb num ns) :
  xi ly 31 #[om (lp ⟨tb,0,od⟩)] w fun e w'=>e=pd (rl tz num)/\w'=w:=by
 have c0:=Kl (w:=w) 0 h.blk
 clear h
 go_enter func31,ntmps31
 go_wp2
 go_ret
 exact⟨rfl,rfl⟩
theorem CP(w:qq)(tb mb:Nat)(path:ByteArray)(xp xd xn:ByteArray)(xm xc xv:Int)(c1:w.cell? ⟨tb,1,od⟩=lp (.map (lp mb)))(Cg:tb<w.heap.size)(HP:Hid (∀W,ug w.heap.size w W->xi ly 180 #[pt path] W fun e w'=>e=pd (gf s7)/\ug W.heap.size W w'))(HL:Hid (∀W,ug w.heap.size w W->(ry 92 (.map (lp mb)) (pt path) s7).run ly W=.ok (fh #[lx #[pt xp,pt xd,pt xn,rl tz xm,rl tz xc,rl tz xv],gf s7]) W)) :
  xi ly 147 #[om (lp ⟨tb,0,od⟩),pt path] w fun e w'=>e=pd (fh #[lx #[pt xp,pt xd,pt xn,rl tz xm,rl tz xc,rl tz xv],rl tz 0])/\ug w.heap.size w w':=by
 have HA:=Bc (tw w (ye Nd.zero.cs 96))
 go_enter func147,ntmps147
 go_wp2_with (go_at_call 180;refine(HP.out _ (Bh _ _)).mono ?_;rintro e w1 ⟨rfl,B9⟩;have Cs:Hid (ug w.heap.size w w1):=(Bh _ _).trans (B9.mono Ae);have HA1:Hid (w1.heap[w.heap.size]? = lp (ye Nd.zero.cs 96)):=(B9.block _ (ltOf HA.out)).trans HA.out;have d1:=(Cs.out.cell (p:=⟨tb,1,od⟩) Cg).trans c1;have hl1:=HL.out w1 Cs.out;obtain⟨W2,hW2⟩:∃W2,w1.alloc (ye #[pt xp,pt xd,pt xn,rl tz xm,rl tz xc,rl tz xv] 96)=W2:=⟨_,rfl⟩;have Hl:Hid (W2.heap[w.heap.size]? = lp (ye Nd.zero.cs 96)):=(by rw [←hW2];exact(q8 _ _ _ (ltOf HA1.out)).trans HA1.out);have HX2:Hid (W2.heap[w1.heap.size]? = lp (ye #[pt xp,pt xd,pt xn,rl tz xm,rl tz xc,rl tz xv] 96)):=(by rw [←hW2];exact tw _ _);have Fh:Hid (ug w.heap.size w W2):=(by rw [←hW2];exact Cs.out.alloc Cs.out.size _);have Cu:w.heap.size≠w1.heap.size:=(by have:=ltOf HA1.out;omega);have a0:W2.cell? ⟨w.heap.size,0,od⟩=lp (pt ⟨#[]⟩):=cellOf (j:=0) Hl.out rfl;have f0:=Ay (j:=0) Hl.out;have b0:W2.cell? ⟨w1.heap.size,0,od⟩=lp (pt xp):=cellOf (j:=0) HX2.out rfl;have a1:W2.cell? ⟨w.heap.size,1,od⟩=lp (pt ⟨#[]⟩):=cellOf (j:=1) Hl.out rfl;have f1:=Ay (j:=1) Hl.out;have b1:W2.cell? ⟨w1.heap.size,1,od⟩=lp (pt xd):=cellOf (j:=1) HX2.out rfl;have a2:W2.cell? ⟨w.heap.size,2,od⟩=lp (pt ⟨#[]⟩):=cellOf (j:=2) Hl.out rfl;have f2:=Ay (j:=2) Hl.out;have b2:W2.cell? ⟨w1.heap.size,2,od⟩=lp (pt xn):=cellOf (j:=2) HX2.out rfl;have a3:W2.cell? ⟨w.heap.size,3,od⟩=lp (rl tz 0):=cellOf (j:=3) Hl.out rfl;have f3:=Ay (j:=3) Hl.out;have b3:W2.cell? ⟨w1.heap.size,3,od⟩=lp (rl tz xm):=cellOf (j:=3) HX2.out rfl;have a4:W2.cell? ⟨w.heap.size,4,od⟩=lp (rl tz 0):=cellOf (j:=4) Hl.out rfl;have f4:=Ay (j:=4) Hl.out;have b4:W2.cell? ⟨w1.heap.size,4,od⟩=lp (rl tz xc):=cellOf (j:=4) HX2.out rfl;have a5:W2.cell? ⟨w.heap.size,5,od⟩=lp (rl tz 0):=cellOf (j:=5) Hl.out rfl;have f5:=Ay (j:=5) Hl.out;have b5:W2.cell? ⟨w1.heap.size,5,od⟩=lp (rl tz xv):=cellOf (j:=5) HX2.out rfl;clear B9)
 have T9:Bn W2 ((((((W2.setCell ⟨w.heap.size,0,od⟩ (pt xp)).setCell ⟨w.heap.size,1,od⟩ (pt xd)).setCell ⟨w.heap.size,2,od⟩ (pt xn)).setCell ⟨w.heap.size,3,od⟩ (rl tz xm)).setCell ⟨w.heap.size,4,od⟩ (rl tz xc)).setCell ⟨w.heap.size,5,od⟩ (rl tz xv)) w.heap.size #[pt xp,pt xd,pt xn,rl tz xm,rl tz xc,rl tz xv] 96:=(((((((Bn.refl Hl.out).set 0 (pt xp)).set 1 (pt xd)).set 2 (pt xn)).set 3 (rl tz xm)).set 4 (rl tz xc)).set 5 (rl tz xv))
 generalize ((((((W2.setCell ⟨w.heap.size,0,od⟩ (pt xp)).setCell ⟨w.heap.size,1,od⟩ (pt xd)).setCell ⟨w.heap.size,2,od⟩ (pt xn)).setCell ⟨w.heap.size,3,od⟩ (rl tz xm)).setCell ⟨w.heap.size,4,od⟩ (rl tz xc)).setCell ⟨w.heap.size,5,od⟩ (rl tz xv))=W9 at T9 ⊢
 obtain⟨z0,z1,z2,z3,z4,z5⟩:=WO (w:=W9) 0 1 2 3 4 5 T9.blk
 exact⟨rfl,fh #[lx #[pt xp,pt xd,pt xn,rl tz xm,rl tz xc,rl tz xv],rl tz 0],by simp [results,results147,go_sem,z0,z1,z2,z3,z4,z5],rfl,Fh.out.grown T9.grown Fh.out.size (fun j hj=>by cases hj;exact aA _)⟩
theorem CO(w:qq)(tb mb:Nat)(path:ByteArray)(xp xd xn:ByteArray)(xm xc xv:Int)(c1:w.cell? ⟨tb,1,od⟩=lp (.map (lp mb)))(Cg:tb<w.heap.size)(HP:Hid (∀W,ug w.heap.size w W->xi ly 180 #[pt path] W fun e w'=>e=pd (gf s7)/\ug W.heap.size W w'))(HL:Hid (∀W,ug w.heap.size w W->(ry 92 (.map (lp mb)) (pt path) s7).run ly W=.ok (fh #[lx #[pt xp,pt xd,pt xn,rl tz xm,rl tz xc,rl tz xv],gf vp]) W)) :
  xi ly 147 #[om (lp ⟨tb,0,od⟩),pt path] w fun e w'=>e=pd (fh #[lx #[pt ⟨#[]⟩,pt ⟨#[]⟩,pt ⟨#[]⟩,rl tz 0,rl tz 0,rl tz 0],rl tz 10])/\ug w.heap.size w w':=by
 have HA:=Bc (tw w (ye Nd.zero.cs 96))
 go_enter func147,ntmps147
 go_wp2_with (go_at_call 180;refine(HP.out _ (Bh _ _)).mono ?_;rintro e w1 ⟨rfl,B9⟩;have Cs:Hid (ug w.heap.size w w1):=(Bh _ _).trans (B9.mono Ae);have HA1:Hid (w1.heap[w.heap.size]? = lp (ye Nd.zero.cs 96)):=(B9.block _ (ltOf HA.out)).trans HA.out;have d1:=(Cs.out.cell (p:=⟨tb,1,od⟩) Cg).trans c1;have hl1:=HL.out w1 Cs.out;obtain⟨W2,hW2⟩:∃W2,w1.alloc (ye #[pt xp,pt xd,pt xn,rl tz xm,rl tz xc,rl tz xv] 96)=W2:=⟨_,rfl⟩;have Hl:Hid (W2.heap[w.heap.size]? = lp (ye Nd.zero.cs 96)):=(by rw [←hW2];exact(q8 _ _ _ (ltOf HA1.out)).trans HA1.out);have HX2:Hid (W2.heap[w1.heap.size]? = lp (ye #[pt xp,pt xd,pt xn,rl tz xm,rl tz xc,rl tz xv] 96)):=(by rw [←hW2];exact tw _ _);have Fh:Hid (ug w.heap.size w W2):=(by rw [←hW2];exact Cs.out.alloc Cs.out.size _);have Cu:w.heap.size≠w1.heap.size:=(by have:=ltOf HA1.out;omega);have a0:W2.cell? ⟨w.heap.size,0,od⟩=lp (pt ⟨#[]⟩):=cellOf (j:=0) Hl.out rfl;have f0:=Ay (j:=0) Hl.out;have b0:W2.cell? ⟨w1.heap.size,0,od⟩=lp (pt xp):=cellOf (j:=0) HX2.out rfl;have a1:W2.cell? ⟨w.heap.size,1,od⟩=lp (pt ⟨#[]⟩):=cellOf (j:=1) Hl.out rfl;have f1:=Ay (j:=1) Hl.out;have b1:W2.cell? ⟨w1.heap.size,1,od⟩=lp (pt xd):=cellOf (j:=1) HX2.out rfl;have a2:W2.cell? ⟨w.heap.size,2,od⟩=lp (pt ⟨#[]⟩):=cellOf (j:=2) Hl.out rfl;have f2:=Ay (j:=2) Hl.out;have b2:W2.cell? ⟨w1.heap.size,2,od⟩=lp (pt xn):=cellOf (j:=2) HX2.out rfl;have a3:W2.cell? ⟨w.heap.size,3,od⟩=lp (rl tz 0):=cellOf (j:=3) Hl.out rfl;have f3:=Ay (j:=3) Hl.out;have b3:W2.cell? ⟨w1.heap.size,3,od⟩=lp (rl tz xm):=cellOf (j:=3) HX2.out rfl;have a4:W2.cell? ⟨w.heap.size,4,od⟩=lp (rl tz 0):=cellOf (j:=4) Hl.out rfl;have f4:=Ay (j:=4) Hl.out;have b4:W2.cell? ⟨w1.heap.size,4,od⟩=lp (rl tz xc):=cellOf (j:=4) HX2.out rfl;have a5:W2.cell? ⟨w.heap.size,5,od⟩=lp (rl tz 0):=cellOf (j:=5) Hl.out rfl;have f5:=Ay (j:=5) Hl.out;have b5:W2.cell? ⟨w1.heap.size,5,od⟩=lp (rl tz xv):=cellOf (j:=5) HX2.out rfl;clear B9)
 have T9:Bn W2 ((((((W2.setCell ⟨w.heap.size,0,od⟩ (pt ⟨#[]⟩)).setCell ⟨w.heap.size,1,od⟩ (pt ⟨#[]⟩)).setCell ⟨w.heap.size,2,od⟩ (pt ⟨#[]⟩)).setCell ⟨w.heap.size,3,od⟩ (rl tz 0)).setCell ⟨w.heap.size,4,od⟩ (rl tz 0)).setCell ⟨w.heap.size,5,od⟩ (rl tz 0)) w.heap.size #[pt ⟨#[]⟩,pt ⟨#[]⟩,pt ⟨#[]⟩,rl tz 0,rl tz 0,rl tz 0] 96:=(((((((Bn.refl Hl.out).set 0 (pt ⟨#[]⟩)).set 1 (pt ⟨#[]⟩)).set 2 (pt ⟨#[]⟩)).set 3 (rl tz 0)).set 4 (rl tz 0)).set 5 (rl tz 0))
 generalize ((((((W2.setCell ⟨w.heap.size,0,od⟩ (pt ⟨#[]⟩)).setCell ⟨w.heap.size,1,od⟩ (pt ⟨#[]⟩)).setCell ⟨w.heap.size,2,od⟩ (pt ⟨#[]⟩)).setCell ⟨w.heap.size,3,od⟩ (rl tz 0)).setCell ⟨w.heap.size,4,od⟩ (rl tz 0)).setCell ⟨w.heap.size,5,od⟩ (rl tz 0))=W9 at T9 ⊢
 obtain⟨z0,z1,z2,z3,z4,z5⟩:=WO (w:=W9) 0 1 2 3 4 5 T9.blk
 exact⟨rfl,fh #[lx #[pt ⟨#[]⟩,pt ⟨#[]⟩,pt ⟨#[]⟩,rl tz 0,rl tz 0,rl tz 0],rl tz 10],by simp [results,results147,go_sem,z0,z1,z2,z3,z4,z5],rfl,Fh.out.grown T9.grown Fh.out.size (fun j hj=>by cases hj;exact aA _)⟩
theorem Pm{w:qq}{tb mb:Nat}{num:Int}{ns:List (ByteArray×Nd)}(h:Ca w tb mb num ns)(m:Int)(hm:w.cell? ⟨1,0,od⟩=lp (rl tz m))(h1:1<w.heap.size)(path:ByteArray)(hs:path.size<=1000)(hp:Hq path=s7)(x:Nd)(hx:(path,x)∈ns) :
  xi ly 147 #[om (lp ⟨tb,0,od⟩),pt path] w fun e w'=>e=pd (fh #[x.val,rl tz 0])/\ug w.heap.size w w':=by
 refine CP w tb mb path _ _ _ _ _ _ (cellOf h.blk rfl) (ltOf h.blk) (fun W hW=>?_) (fun W hW=>?_)
 ·exact Z4x
 ·exact(h.map.of_block (hW.block _ h.map.lt)).look_some s7 Xm underlying92 (oq fy (by unfold maxLen;omega)) (bE.2 ⟨_,hx,rfl⟩)
theorem T5{w:qq}{tb mb:Nat}{num:Int}{ns:List (ByteArray×Nd)}(h:Ca w tb mb num ns)(m:Int)(hm:w.cell? ⟨1,0,od⟩=lp (rl tz m))(h1:1<w.heap.size)(path:ByteArray)(hs:path.size<=1000)(hp:Hq path=s7)(hno:∀q∈ns,q.1≠path) :
  xi ly 147 #[om (lp ⟨tb,0,od⟩),pt path] w fun e w'=>e=pd (fh #[Nd.zero.val,rl tz 10])/\ug w.heap.size w w':=by
 refine CO w tb mb path ⟨#[]⟩ ⟨#[]⟩ ⟨#[]⟩ 0 0 0 (cellOf h.blk rfl) (ltOf h.blk) (fun W hW=>?_) (fun W hW=>?_)
 ·exact Z4x
 ·refine(h.map.of_block (hW.block _ h.map.lt)).look_none s7 Xm underlying92 (QZ W) (oq fy (by unfold maxLen;omega)) (fun p hp=>?_)
  obtain⟨q,hq,rfl⟩:=bE.1 hp
  intro e
  injection e with e
  exact hno q hq e
abbrev Dc(kind:Int)(p d n:ByteArray)(v:Int):Array tj:=#[rl tz kind,pt p,pt d,pt n,rl tz v]
abbrev J4(kind:Int)(p d n:ByteArray)(v:Int):tj:=lx (Dc kind p d n v)
theorem Mz(w:qq)(xp xd xn:ByteArray)(xm xc xv v:Int) :
  xi ly 170 #[lx #[pt xp,pt xd,pt xn,rl tz xm,rl tz xc,rl tz xv],rl tz v] w fun e w'=>(∃b,e=pd (gf b))/\ug w.heap.size w w':=by
 by_cases h:v = -1
 ·subst h
  exact Z0l
 ·exact Z0l
theorem Ox(w:qq)(tb:Nat)(kind:Int)(p d n:ByteArray)(v:Int)(xp xd xn:ByteArray)(xm xc xv:Int)(code:Int)(hcode:code=0∨code=10)(hd:¬(40:Int)<(d.size:Int))(HF:Hid (∀W,ug w.heap.size w W->xi ly 147 #[om (lp ⟨tb,0,od⟩),pt p] W fun e w'=>e=pd (fh #[lx #[pt xp,pt xd,pt xn,rl tz xm,rl tz xc,rl tz xv],rl tz code])/\ug W.heap.size W w')) :
  xi ly 125 #[om (lp ⟨tb,0,od⟩),J4 kind p d n v] w fun e w'=>(∃c:Int,e=pd (rl tz c)/\(c=code∨c=14))/\ug w.heap.size w w':=by
 refine Gf1 ?_;intro HV
 refine Uzs ?_;intro HA
 rcases hcode with rfl|rfl
 all_goals (
  go_enter func125,ntmps125
  go_wp2_with (first
   | (go_at_call 147;refine(HF.out _ (Bh _ _)).mono ?_;rintro e w1 ⟨rfl,B9⟩;have Cs:Hid (ug w.heap.size w w1):=(Bh _ _).trans (B9.mono Ae);have HA1:Hid (w1.heap[w.heap.size]? = lp (ye #[rl tz kind,pt p,pt d,pt n,rl tz v] 130)):=(B9.block _ (ltOf HA.out)).trans HA.out;obtain⟨W2,hW2⟩:∃W2,w1.alloc (ye #[pt xp,pt xd,pt xn,rl tz xm,rl tz xc,rl tz xv] 96)=W2:=⟨_,rfl⟩;have Hl:Hid (W2.heap[w.heap.size]? = lp (ye #[rl tz kind,pt p,pt d,pt n,rl tz v] 130)):=(by rw [←hW2];exact(q8 _ _ _ (ltOf HA1.out)).trans HA1.out);have HX2:Hid (W2.heap[w1.heap.size]? = lp (ye #[pt xp,pt xd,pt xn,rl tz xm,rl tz xc,rl tz xv] 96)):=(by rw [←hW2];exact tw _ _);have Fh:Hid (ug w.heap.size w W2):=(by rw [←hW2];exact Cs.out.alloc Cs.out.size _);have a2:W2.cell? ⟨w.heap.size,2,od⟩=lp (pt d):=cellOf Hl.out rfl;have a4:W2.cell? ⟨w.heap.size,4,od⟩=lp (rl tz v):=cellOf Hl.out rfl;have b0:W2.cell? ⟨w1.heap.size,0,od⟩=lp (pt xp):=cellOf HX2.out rfl;have b1:W2.cell? ⟨w1.heap.size,1,od⟩=lp (pt xd):=cellOf HX2.out rfl;have b2:W2.cell? ⟨w1.heap.size,2,od⟩=lp (pt xn):=cellOf HX2.out rfl;have b3:W2.cell? ⟨w1.heap.size,3,od⟩=lp (rl tz xm):=cellOf HX2.out rfl;have b4:W2.cell? ⟨w1.heap.size,4,od⟩=lp (rl tz xc):=cellOf HX2.out rfl;have b5:W2.cell? ⟨w1.heap.size,5,od⟩=lp (rl tz xv):=cellOf HX2.out rfl;clear B9)
   | (go_at_call 170;refine(HV.out _).mono ?_;rintro e w3 ⟨⟨b,rfl⟩,hb3⟩;have HB3:Hid (ug w.heap.size w w3):=Fh.out.trans (hb3.mono Fh.out.size);clear hb3)))
 all_goals go_ret
 all_goals first|exact⟨⟨_,rfl,.inl rfl⟩,HB3.out⟩|exact⟨⟨_,rfl,.inr rfl⟩,HB3.out⟩|exact⟨⟨_,rfl,.inl rfl⟩,Fh.out⟩
theorem Xb.left_eq{w:qq}{b r cnt:Nat}{m:List (tj×tj)}(h:Xb w b r m cnt):w.rangeLeft b r=cnt:=by
 obtain⟨es,clock,since,seen,c0,h1,_,_,h4,_,h6,_⟩:=h.ex
 unfold World.rangeLeft
 rw [h1,h4]
 exact h6
theorem Xl(w:qq)(s:ByteArray)(hs:s.size<=1000)(hsl:Dj s=s7):xi ly 181 #[pt s] w fun e w'=>(∃t:ByteArray,e=pd (pt t))/\w'=w:=by
 obtain⟨h0,h1⟩:=Wk hsl
 have hp:=Pn _ h0 s.size h1
 have hle:=(Q5 s.data.toList s.size).2
 have HL:=Bc (P7 w s Ab)
 obtain⟨i,hi⟩:∃i:Nat,E8 s.data.toList s.size=(i:Int):=⟨(E8 s.data.toList s.size).toNat,Ab⟩
 rw [hi] at HL hle
 have hi1:(i:Int)+1<=(s.size:Int):=Ab
 clear hp h0 h1 hi
 go_enter func181,ntmps181
 go_wp2_with (go_at_call 191;refine HL.out.mono ?_;rintro e w1 ⟨rfl,rfl⟩)
 go_ret
 exact⟨⟨_,rfl⟩,rfl⟩
end Go.Proofs.YtjoblhlkfmeckaaGreatDoor
namespace Orch
variable (valid:ByteArray->Bool)
theorem put_len{k:Nat}{out:List UInt8}{t:Ty}{v:V}{o:List UInt8}(h:put valid k out t v=lp o):o.length<=1000:=by
 cases k with
 | zero=>simp [put] at h
 | succ k=>
  unfold put at h
  exact Ikj
theorem puts_b{k:Nat}{s:ByteArray}(h1:s.size<=200):Yp valid (k+1) tb (txt s) (be s.size 4++s.data.toList):=
 Ma valid (t:=tb) (v:=txt s) (by simp [fits,Ty.l,V.n,V.s,V.l,h1]) rfl
theorem YW{k:Nat}{n:Int}(h1:0<=n)(h2:n<=1):Yp valid (k+1) tq (num n) (be n 1):=by
 have hs:(ByteArray.mk #[]).size=0:=rfl
 exact Ma valid (t:=tq) (v:=num n) (by simp [fits,Ty.l,V.n,V.s,V.l,h1,h2,hs]) rfl
theorem parse_create:parse [40,52,52,116,98,41]=lp (.mk lr [t4,t4,tt,tb]):=Ac
theorem parse_delete:parse [40,52,52,116,52,41]=lp (.mk lr [t4,t4,tt,t4]):=Ac
theorem parse_set:parse [40,52,52,116,98,52,41]=lp (.mk lr [t4,t4,tt,tb,t4]):=Ac
theorem parse_exists:parse [40,52,52,116,63,41]=lp (.mk lr [t4,t4,tt,tq]):=Ac
abbrev fld(s:ByteArray):List UInt8:=be s.size 4++s.data.toList
section
variable {m:Int} {p d:ByteArray} (hm1:-2147483648<=m) (hm2:m<=2147483647) (hp:p.size<=200) (hv:valid p=s7)
include hm1 hm2 hp hv
theorem put_create(hd:d.size<=200):put valid 9 [] (.mk lr [t4,t4,tt,tb]) (.mk 0 ⟨#[]⟩ [num 1,num m,txt p,txt d])=lp (be 1 4++(be m 4++(fld p++(fld d ++ [])))):=by
 have h1:p.data.toList.length=p.size:=rfl
 have h2:d.data.toList.length=d.size:=rfl
 have:=puts_rec valid (k:=8) (l:=lr) rfl (.cons (puts_4 valid (n:=1) Ab Ab) (.cons (puts_4 valid hm1 hm2) (.cons (puts_t valid hp hv) (.cons (puts_b valid hd) .nil)))) [] (by simp only [aH,be_length,h1,h2,aI];omega)
 simpa using this
theorem put_delete{x:Int}(hx1:-2147483648<=x)(hx2:x<=2147483647):put valid 9 [] (.mk lr [t4,t4,tt,t4]) (.mk 0 ⟨#[]⟩ [num 2,num m,txt p,num x])=lp (be 2 4++(be m 4++(fld p++(be x 4 ++ [])))):=by
 have h1:p.data.toList.length=p.size:=rfl
 have:=puts_rec valid (k:=8) (l:=lr) rfl (.cons (puts_4 valid (n:=2) Ab Ab) (.cons (puts_4 valid hm1 hm2) (.cons (puts_t valid hp hv) (.cons (puts_4 valid hx1 hx2) .nil)))) [] (by simp only [aH,be_length,h1,aI];omega)
 simpa using this
theorem put_set(hd:d.size<=200){x:Int}(hx1:-2147483648<=x)(hx2:x<=2147483647):put valid 9 [] (.mk lr [t4,t4,tt,tb,t4]) (.mk 0 ⟨#[]⟩ [num 3,num m,txt p,txt d,num x])=lp (be 3 4++(be m 4++(fld p++(fld d++(be x 4 ++ []))))):=by
 have h1:p.data.toList.length=p.size:=rfl
 have h2:d.data.toList.length=d.size:=rfl
 have:=puts_rec valid (k:=8) (l:=lr) rfl (.cons (puts_4 valid (n:=3) Ab Ab) (.cons (puts_4 valid hm1 hm2) (.cons (puts_t valid hp hv) (.cons (puts_b valid hd) (.cons (puts_4 valid hx1 hx2) .nil))))) [] (by simp only [aH,be_length,h1,h2,aI];omega)
 simpa using this
theorem put_exists:put valid 9 [] (.mk lr [t4,t4,tt,tq]) (.mk 0 ⟨#[]⟩ [num 5,num m,txt p,num 1])=lp (be 5 4++(be m 4++(fld p++(be 1 1 ++ [])))):=by
 have h1:p.data.toList.length=p.size:=rfl
 have:=puts_rec valid (k:=8) (l:=lr) rfl (.cons (puts_4 valid (n:=5) Ab Ab) (.cons (puts_4 valid hm1 hm2) (.cons (puts_t valid hp hv) (.cons (YW valid (n:=1) Ab Ab) .nil)))) [] (by simp only [aH,be_length,h1,aI];omega)
 simpa using this
end
end Orch
namespace Go.Proofs.YtjoblhlkfmeckaaGreatDoor
open Go.RowKit
theorem AR(valid:ByteArray->Bool){s:List UInt8}{t:Orch.Ty}(hp:Orch.parse s=lp t){v:Orch.V}{body:List UInt8}(hq:Orch.put valid 9 [] t v=lp body):AQ valid t body=lp v:=by
 have hl:=Orch.put_len valid hq
 obtain⟨pre,e,h⟩:=Orch.take_put valid 9 t v [] body (Orch.parse_well hp 9) hq
 rw [aP] at e
 subst e
 have:=h []
 rw [bU] at this
 unfold AQ
 rw [aO Ab,this]
section
variable {valid:ByteArray->Bool} {Tabs:qq->Prop}
theorem St(U:Jk valid Tabs)(w:qq)(hT:Tabs w)(hL:Table w)(kind:Nat)(H0:1<=kind)(hk7:kind<=7)(sch:ByteArray)(hs:w.cell? ⟨0,kind * 3+1,od⟩=lp (pt sch))(h0:0<w.heap.size)(t:Orch.Ty)(hp:Orch.parse sch.data.toList=lp t)(mk:Int)(hmk:0<=mk)(rest:List Orch.V)(hrl:2<=rest.length)(tail:List UInt8)(hq:Orch.put valid 9 [] t (.mk 0 ⟨#[]⟩ (Orch.num kind :: Orch.num mk :: rest))=lp (Orch.be kind 4++tail))(bv:tj)(hbv:Gz w bv (Orch.be kind 4++tail))(p d nt:ByteArray)(ver:Int)(wt:Bool)(HL:∀g c rb W,(∀j (x:Orch.V),rest[j]? = lp x->W.cell? ⟨g,6+j * 3,od⟩=lp (rl tz x.n)/\W.cell? ⟨g,6+(j * 3+1),od⟩=lp (pt x.s))->g≠rb->W.heap[rb]? = lp (ye (Bb kind mk ⟨#[]⟩ ⟨#[]⟩ ⟨#[]⟩ 0 vp) 119) ->
   xi ly 99 #[om (lp ⟨rb,0,od⟩),cf (lp ⟨g,6,od⟩) rest.length c] W fun e w'=>e=pd (fh #[])/\Bn W w' rb (Bb kind mk p d nt ver wt) 119) :
  xi ly 52 #[rl tz 1,bv] w fun e w'=>e=pd (fh #[Mv kind mk p d nt ver wt,gf s7])/\ug w.heap.size w w':=by
 have hlen:=Orch.put_len valid hq
 have hd:=AR valid hp hq
 have hbl:(Orch.be (kind:Int) 4).length=4:=Orch.be_length _ _
 have hbv0:=hbv
 obtain⟨b,off,cap,rfl,Ea,Cg,hb⟩:=hbv
 refine Abx w kind Ab _ _ _ (rest.length+2) Ab sch mk Ab p d nt ver wt (fun g c W=>∀j (x:Orch.V),rest[j]? = lp x->W.cell? ⟨g,6+j * 3,od⟩=lp (rl tz x.n)/\W.cell? ⟨g,6+(j * 3+1),od⟩=lp (pt x.s)) hs h0 ?_ ?_ ?_
 ·intro W hW
  refine X3 W _ _ (by rw [aH];omega) hlen (hbv0.below hW (aA _)) kind ?_ Ab Ab
  rw [dE Ab,bO Ab]
  exact Orch.sgn_be _ _ Ab Ab
 ·intro W hW
  refine(Tz U W (U.kept (U.size hT) hW hT) (hL.below hW hL.pos) sch t hp _ _ hlen (hbv0.below hW (aA _)) _ hd).mono ?_
  rintro e w' ⟨⟨lv,rfl,hv⟩,hbl'⟩
  obtain⟨g,c,rfl,hc,hg,hcells⟩:=AS hv
  refine⟨g,c,rfl,hc,(hcells 1 _ rfl).1,fun j x hx=>?_,hg.2,hbl'⟩
  have:=hcells (j+2) x (by simpa using hx)
  rw [show(j+2) * 3=6+j * 3 by omega,show 6+j * 3+1=6+(j * 3+1) by omega] at this
  exact this
 ·intro g c W' hR hg W'' hbW hrb
  rw [Nat.add_sub_cancel]
  exact HL g (c - 2) W'.heap.size W'' (fun j x hx=>⟨(hbW.cell (p:=⟨g,_,od⟩) hg).trans (hR j x hx).1,(hbW.cell (p:=⟨g,_,od⟩) hg).trans (hR j x hx).2⟩) Ab hrb
section
variable (U:Jk valid Tabs) (w:qq) (hT:Tabs w) (hL:Table w) (h0:0<w.heap.size) (mk:Int) (hm1:0<=mk) (hm2:mk<=2147483647) (p d:ByteArray) (hp:p.size<=200) (hv:valid p=s7) (bv:tj)
include U hT hL h0 hm1 hm2 hp hv
theorem DU(hs:w.cell? ⟨0,4,od⟩=lp (pt ⟨#[40,52,52,116,98,41]⟩))(hd:d.size<=200)(hbv:Gz w bv (Orch.be 1 4++(Orch.be mk 4++(Orch.fld p++(Orch.fld d ++ []))))) :
  xi ly 52 #[rl tz 1,bv] w fun e w'=>e=pd (fh #[Mv 1 mk p d ⟨#[]⟩ 0 vp,gf s7])/\ug w.heap.size w w':=by
 refine St U w hT hL 1 Ab Ab _ hs h0 _ Orch.parse_create mk hm1 [Orch.txt p,Orch.txt d] Ae _ (Orch.put_create valid Ab hm2 hp hv hd) bv hbv p d ⟨#[]⟩ 0 vp ?_
 intro g c rb W hc Cu hrb
 exact Zh W rb 0 g 6 c mk p d hrb (hc 0 _ rfl).2 (hc 1 _ rfl).2 Cu
theorem DV(hs:w.cell? ⟨0,7,od⟩=lp (pt ⟨#[40,52,52,116,52,41]⟩))(x:Int)(hx1:-2147483648<=x)(hx2:x<=2147483647)(hbv:Gz w bv (Orch.be 2 4++(Orch.be mk 4++(Orch.fld p++(Orch.be x 4 ++ []))))) :
  xi ly 52 #[rl tz 1,bv] w fun e w'=>e=pd (fh #[Mv 2 mk p ⟨#[]⟩ ⟨#[]⟩ x vp,gf s7])/\ug w.heap.size w w':=by
 refine St U w hT hL 2 Ab Ab _ hs h0 _ Orch.parse_delete mk hm1 [Orch.txt p,Orch.num x] Ae _ (Orch.put_delete valid Ab hm2 hp hv hx1 hx2) bv hbv p ⟨#[]⟩ ⟨#[]⟩ x vp ?_
 intro g c rb W hc Cu hrb
 exact Zi W rb 0 g 6 c mk p x hrb (hc 0 _ rfl).2 (hc 1 _ rfl).1 Cu
theorem UJ(hs:w.cell? ⟨0,10,od⟩=lp (pt ⟨#[40,52,52,116,98,52,41]⟩))(hd:d.size<=200)(x:Int)(hx1:-2147483648<=x)(hx2:x<=2147483647)(hbv:Gz w bv (Orch.be 3 4++(Orch.be mk 4++(Orch.fld p++(Orch.fld d++(Orch.be x 4 ++ [])))))) :
  xi ly 52 #[rl tz 1,bv] w fun e w'=>e=pd (fh #[Mv 3 mk p d ⟨#[]⟩ x vp,gf s7])/\ug w.heap.size w w':=by
 refine St U w hT hL 3 Ab Ab _ hs h0 _ Orch.parse_set mk hm1 [Orch.txt p,Orch.txt d,Orch.num x] Ae _ (Orch.put_set valid Ab hm2 hp hv hd hx1 hx2) bv hbv p d ⟨#[]⟩ x vp ?_
 intro g c rb W hc Cu hrb
 exact NO W rb 0 g 6 c mk p d x hrb (hc 0 _ rfl).2 (hc 1 _ rfl).2 (hc 2 _ rfl).1 Cu
theorem DW(hs:w.cell? ⟨0,16,od⟩=lp (pt ⟨#[40,52,52,116,63,41]⟩))(hbv:Gz w bv (Orch.be 5 4++(Orch.be mk 4++(Orch.fld p++(Orch.be 1 1 ++ []))))) :
  xi ly 52 #[rl tz 1,bv] w fun e w'=>e=pd (fh #[Mv 5 mk p ⟨#[]⟩ ⟨#[]⟩ 0 s7,gf s7])/\ug w.heap.size w w':=by
 refine St U w hT hL 5 Ab Ab _ hs h0 _ Orch.parse_exists mk hm1 [Orch.txt p,Orch.num 1] Ae _ (Orch.put_exists valid Ab hm2 hp hv) bv hbv p ⟨#[]⟩ ⟨#[]⟩ 0 s7 ?_
 intro g c rb W hc Cu hrb
 exact Zj W rb 0 g 6 c mk p hrb (hc 0 _ rfl).2 (hc 1 _ rfl).1 Cu
end
end
open Go.Maps
attribute [local go_sem ↓] Go.wp_at_zero Go.wp_at_succ
theorem Py(w:qq)(tb:Nat)(kind:Int)(p d n:ByteArray)(v:Int)(xp xd xn:ByteArray)(xm xc xv:Int)(hd:¬(40:Int)<(d.size:Int))(hn:¬(10:Int)<(n.size:Int))(mb:Nat)(c1:w.cell? ⟨tb,1,od⟩=lp (.map (lp mb)))(htb:tb<w.heap.size)(HF:Hid (∀W,ug w.heap.size w W->xi ly 147 #[om (lp ⟨tb,0,od⟩),pt p] W fun e w'=>e=pd (fh #[lx #[pt xp,pt xd,pt xn,rl tz xm,rl tz xc,rl tz xv],rl tz 0])/\ug W.heap.size W w')) :
  xi ly 123 #[om (lp ⟨tb,0,od⟩),J4 kind p d n v] w fun e w'=>e=pd (rl tz 9)/\ug w.heap.size w w':=by
 refine Uzs ?_;intro HA
 go_enter func123,ntmps123
 go_wp2_with (go_at_call 147;refine(HF.out _ (Bh _ _)).mono ?_;rintro e w1 ⟨rfl,B9⟩;have Cs:Hid (ug w.heap.size w w1):=(Bh _ _).trans (B9.mono Ae);have HA1:Hid (w1.heap[w.heap.size]? = lp (ye #[rl tz kind,pt p,pt d,pt n,rl tz v] 130)):=(B9.block _ (ltOf HA.out)).trans HA.out;obtain⟨W2,hW2⟩:∃W2,w1.alloc (ye #[pt xp,pt xd,pt xn,rl tz xm,rl tz xc,rl tz xv] 96)=W2:=⟨_,rfl⟩;have Hl:Hid (W2.heap[w.heap.size]? = lp (ye #[rl tz kind,pt p,pt d,pt n,rl tz v] 130)):=(by rw [←hW2];exact(q8 _ _ _ (ltOf HA1.out)).trans HA1.out);have HX2:Hid (W2.heap[w1.heap.size]? = lp (ye #[pt xp,pt xd,pt xn,rl tz xm,rl tz xc,rl tz xv] 96)):=(by rw [←hW2];exact tw _ _);have Fh:Hid (ug w.heap.size w W2):=(by rw [←hW2];exact Cs.out.alloc Cs.out.size _);have w2a1:W2.cell? ⟨w.heap.size,1,od⟩=lp (pt p):=cellOf Hl.out rfl;have w2a2:W2.cell? ⟨w.heap.size,2,od⟩=lp (pt d):=cellOf Hl.out rfl;have w2a3:W2.cell? ⟨w.heap.size,3,od⟩=lp (pt n):=cellOf Hl.out rfl;have w2a4:W2.cell? ⟨w.heap.size,4,od⟩=lp (rl tz v):=cellOf Hl.out rfl;have t1:=(Fh.out.cell (p:=⟨tb,1,od⟩) htb).trans c1;clear B9)
 all_goals go_ret
 all_goals exact⟨rfl,Fh.out⟩
theorem Qv(w:qq)(tb:Nat)(kind:Int)(p d n:ByteArray)(v:Int)(xp xd xn:ByteArray)(xm xc xv:Int)(hd:¬(40:Int)<(d.size:Int))(hn:¬(10:Int)<(n.size:Int))(mb:Nat)(c1:w.cell? ⟨tb,1,od⟩=lp (.map (lp mb)))(htb:tb<w.heap.size)(q:ByteArray)(yp yd yn:ByteArray)(ym yc yv:Int)(ok:Bool)(len:Nat)(HF:Hid (∀W,ug w.heap.size w W->xi ly 147 #[om (lp ⟨tb,0,od⟩),pt p] W fun e w'=>e=pd (fh #[lx #[pt xp,pt xd,pt xn,rl tz xm,rl tz xc,rl tz xv],rl tz 10])/\ug W.heap.size W w'))(HQ:Hid (∀W,xi ly 169 #[pt p] W fun e w'=>e=pd (pt q)/\w'=W))(HL:Hid (∀W,ug w.heap.size w W->(ry 92 (.map (lp mb)) (pt q) s7).run ly W=.ok (fh #[lx #[pt yp,pt yd,pt yn,rl tz ym,rl tz yc,rl tz yv],gf ok]) W/\(Builtin.len_ #[92] 3 #[.map (lp mb)]).run ly W=.ok (rl tz len) W)) :
  xi ly 123 #[om (lp ⟨tb,0,od⟩),J4 kind p d n v] w fun e w'=>(∃c:Int,e=pd (rl tz c)/\(c=10∨c=12∨c=0/\len<32))/\ug w.heap.size w w':=by
 refine Uzs ?_;intro HA
 go_enter func123,ntmps123
 go_wp2_with (go_at_call 147;refine(HF.out _ (Bh _ _)).mono ?_;rintro e w1 ⟨rfl,B9⟩;have Cs:Hid (ug w.heap.size w w1):=(Bh _ _).trans (B9.mono Ae);have HA1:Hid (w1.heap[w.heap.size]? = lp (ye #[rl tz kind,pt p,pt d,pt n,rl tz v] 130)):=(B9.block _ (ltOf HA.out)).trans HA.out;obtain⟨W2,hW2⟩:∃W2,w1.alloc (ye #[pt xp,pt xd,pt xn,rl tz xm,rl tz xc,rl tz xv] 96)=W2:=⟨_,rfl⟩;have Hl:Hid (W2.heap[w.heap.size]? = lp (ye #[rl tz kind,pt p,pt d,pt n,rl tz v] 130)):=(by rw [←hW2];exact(q8 _ _ _ (ltOf HA1.out)).trans HA1.out);have HX2:Hid (W2.heap[w1.heap.size]? = lp (ye #[pt xp,pt xd,pt xn,rl tz xm,rl tz xc,rl tz xv] 96)):=(by rw [←hW2];exact tw _ _);have Fh:Hid (ug w.heap.size w W2):=(by rw [←hW2];exact Cs.out.alloc Cs.out.size _);have w2a1:W2.cell? ⟨w.heap.size,1,od⟩=lp (pt p):=cellOf Hl.out rfl;have w2a2:W2.cell? ⟨w.heap.size,2,od⟩=lp (pt d):=cellOf Hl.out rfl;have w2a3:W2.cell? ⟨w.heap.size,3,od⟩=lp (pt n):=cellOf Hl.out rfl;have w2a4:W2.cell? ⟨w.heap.size,4,od⟩=lp (rl tz v):=cellOf Hl.out rfl;have t1:=(Fh.out.cell (p:=⟨tb,1,od⟩) htb).trans c1;have l0:=(HL.out W2 Fh.out).1;have l1:=(HL.out W2.drew Fh.out.drew).1;have l2:=(HL.out W2.drew.drew Fh.out.drew.drew).1;have l3:=(HL.out W2.drew.drew.drew Fh.out.drew.drew.drew).1;obtain⟨W3,hW3⟩:∃W3,W2.alloc (ye #[pt ⟨#[]⟩,pt ⟨#[]⟩,pt ⟨#[]⟩,rl tz 0,rl tz 0,rl tz 0] 96)=W3:=⟨_,rfl⟩;have HZ3:Hid (W3.heap[W2.heap.size]? = lp (ye #[pt ⟨#[]⟩,pt ⟨#[]⟩,pt ⟨#[]⟩,rl tz 0,rl tz 0,rl tz 0] 96)):=(by rw [←hW3];exact tw _ _);have HB3:Hid (ug w.heap.size w W3):=(by rw [←hW3];exact Fh.out.alloc Fh.out.size _);have HA3:Hid (W3.heap[w.heap.size]? = lp (ye #[rl tz kind,pt p,pt d,pt n,rl tz v] 130)):=(by rw [←hW3];exact(q8 _ _ _ (ltOf Hl.out)).trans Hl.out);have w3a1:W3.cell? ⟨w.heap.size,1,od⟩=lp (pt p):=cellOf HA3.out rfl;have t3:=(HB3.out.cell (p:=⟨tb,1,od⟩) htb).trans c1;have c30:W3.cell? ⟨W2.heap.size,0,od⟩=lp (pt ⟨#[]⟩):=cellOf HZ3.out rfl;have f30:=Ay (j:=0) HZ3.out;have c31:W3.cell? ⟨W2.heap.size,1,od⟩=lp (pt ⟨#[]⟩):=cellOf HZ3.out rfl;have f31:=Ay (j:=1) HZ3.out;have c32:W3.cell? ⟨W2.heap.size,2,od⟩=lp (pt ⟨#[]⟩):=cellOf HZ3.out rfl;have f32:=Ay (j:=2) HZ3.out;have c33:W3.cell? ⟨W2.heap.size,3,od⟩=lp (rl tz 0):=cellOf HZ3.out rfl;have f33:=Ay (j:=3) HZ3.out;have c34:W3.cell? ⟨W2.heap.size,4,od⟩=lp (rl tz 0):=cellOf HZ3.out rfl;have f34:=Ay (j:=4) HZ3.out;have c35:W3.cell? ⟨W2.heap.size,5,od⟩=lp (rl tz 0):=cellOf HZ3.out rfl;have f35:=Ay (j:=5) HZ3.out;have z0:=(HL.out W3 HB3.out).1;have z1:=(HL.out W3.drew HB3.out.drew).1;have z2:=(HL.out W3.drew.drew HB3.out.drew.drew).1;have z3:=(HL.out W3.drew.drew.drew HB3.out.drew.drew.drew).1;obtain⟨W4,hW4⟩:∃W4,((((((W3.setCell ⟨W2.heap.size,0,od⟩ (pt yp)).setCell ⟨W2.heap.size,1,od⟩ (pt yd)).setCell ⟨W2.heap.size,2,od⟩ (pt yn)).setCell ⟨W2.heap.size,3,od⟩ (rl tz ym)).setCell ⟨W2.heap.size,4,od⟩ (rl tz yc)).setCell ⟨W2.heap.size,5,od⟩ (rl tz yv))=W4:=⟨_,rfl⟩;have T4:Hid (Bn W3 W4 W2.heap.size _ 96):=(by rw [←hW4];exact(((((((Bn.refl HZ3.out).set 0 (pt yp)).set 1 (pt yd)).set 2 (pt yn)).set 3 (rl tz ym)).set 4 (rl tz yc)).set 5 (rl tz yv)));have HB4:Hid (ug w.heap.size w W4):=HB3.out.grown T4.out.grown HB3.out.size (fun j hj=>by cases hj;exact Fh.out.size);have t4:=(HB4.out.cell (p:=⟨tb,1,od⟩) htb).trans c1;have y0:=(HL.out W4 HB4.out).2;have y1:=(HL.out W4.drew HB4.out.drew).2;have y2:=(HL.out W4.drew.drew HB4.out.drew.drew).2;have y3:=(HL.out W4.drew.drew.drew HB4.out.drew.drew.drew).2;clear B9)
 go_region_law (go_simp;refine(HQ.out _).mono ?_;rintro e w' ⟨rfl,rfl⟩)
 all_goals (clear l0 l1 l2 l3 z0 z1 z2 z3 c30 c31 c32 c33 c34 c35 f30 f31 f32 f33 f34 f35 w3a1 t3 w2a1 w2a2 w2a3 w2a4 t1 hW2 hW3 hW4;go_wp2)
 all_goals go_ret
 all_goals first
  | exact⟨⟨_,rfl,.inl rfl⟩,by first|exact HB4.out|exact HB4.out.drew|exact HB4.out.drew.drew|exact HB4.out.drew.drew.drew⟩
  | exact⟨⟨_,rfl,.inr (.inl rfl)⟩,by first|exact HB4.out|exact HB4.out.drew|exact HB4.out.drew.drew|exact HB4.out.drew.drew.drew⟩
  | exact⟨⟨_,rfl,.inr (.inr ⟨rfl,Ab⟩)⟩,by first|exact HB4.out|exact HB4.out.drew|exact HB4.out.drew.drew|exact HB4.out.drew.drew.drew⟩
end Go.Proofs.YtjoblhlkfmeckaaGreatDoor
namespace Go.Proofs.YtjoblhlkfmeckaaGreatDoor
open Go.RowKit Go.Maps
theorem Qw(w:qq)(tb:Nat)(kind:Int)(d n:ByteArray)(v:Int) :
  xi ly 124 #[om (lp ⟨tb,0,od⟩),J4 kind ⟨#[47]⟩ d n v] w fun e w'=>e=pd (rl tz 13)/\ug w.heap.size w w':=by
 go_enter func124,ntmps124
 go_wp2
 go_ret
 exact⟨rfl,Bh _ _⟩
theorem Ls(w:qq)(tb:Nat)(kind:Int)(p d n:ByteArray)(v:Int)(xp xd xn:ByteArray)(xm xc xv:Int)(code:Int)(hcode:code=0∨code=10)(hpr:p≠⟨#[47]⟩)(HC:Hid (∀W,ug w.heap.size w W->xi ly 151 #[om (lp ⟨tb,0,od⟩),pt p] W fun e w'=>(∃a k c,e=pd (cf a k c))/\ug W.heap.size W w'))(HF:Hid (∀W,ug w.heap.size w W->xi ly 147 #[om (lp ⟨tb,0,od⟩),pt p] W fun e w'=>e=pd (fh #[lx #[pt xp,pt xd,pt xn,rl tz xm,rl tz xc,rl tz xv],rl tz code])/\ug W.heap.size W w')) :
  xi ly 124 #[om (lp ⟨tb,0,od⟩),J4 kind p d n v] w fun e w'=>(∃c:Int,e=pd (rl tz c)/\(c=code∨c=14∨c=15))/\ug w.heap.size w w':=by
 refine Gf1 ?_;intro HV
 have hpl:(p.toList == [47])=vp:=by rw [Kg];exact decide_eq_false hpr
 refine Uzs ?_;intro HA
 rcases hcode with rfl|rfl
 all_goals (
  go_enter func124,ntmps124
  go_wp2_with (first
   | (go_at_call 147;refine(HF.out _ (Bh _ _)).mono ?_;rintro e w1 ⟨rfl,B9⟩;have Cs:Hid (ug w.heap.size w w1):=(Bh _ _).trans (B9.mono Ae);have HA1:Hid (w1.heap[w.heap.size]? = lp (ye #[rl tz kind,pt p,pt d,pt n,rl tz v] 130)):=(B9.block _ (ltOf HA.out)).trans HA.out;obtain⟨W2,hW2⟩:∃W2,w1.alloc (ye #[pt xp,pt xd,pt xn,rl tz xm,rl tz xc,rl tz xv] 96)=W2:=⟨_,rfl⟩;have Hl:Hid (W2.heap[w.heap.size]? = lp (ye #[rl tz kind,pt p,pt d,pt n,rl tz v] 130)):=(by rw [←hW2];exact(q8 _ _ _ (ltOf HA1.out)).trans HA1.out);have HX2:Hid (W2.heap[w1.heap.size]? = lp (ye #[pt xp,pt xd,pt xn,rl tz xm,rl tz xc,rl tz xv] 96)):=(by rw [←hW2];exact tw _ _);have Fh:Hid (ug w.heap.size w W2):=(by rw [←hW2];exact Cs.out.alloc Cs.out.size _);have a1:W2.cell? ⟨w.heap.size,1,od⟩=lp (pt p):=cellOf Hl.out rfl;have a4:W2.cell? ⟨w.heap.size,4,od⟩=lp (rl tz v):=cellOf Hl.out rfl;have b0:W2.cell? ⟨w1.heap.size,0,od⟩=lp (pt xp):=cellOf HX2.out rfl;have b1:W2.cell? ⟨w1.heap.size,1,od⟩=lp (pt xd):=cellOf HX2.out rfl;have b2:W2.cell? ⟨w1.heap.size,2,od⟩=lp (pt xn):=cellOf HX2.out rfl;have b3:W2.cell? ⟨w1.heap.size,3,od⟩=lp (rl tz xm):=cellOf HX2.out rfl;have b4:W2.cell? ⟨w1.heap.size,4,od⟩=lp (rl tz xc):=cellOf HX2.out rfl;have b5:W2.cell? ⟨w1.heap.size,5,od⟩=lp (rl tz xv):=cellOf HX2.out rfl;clear B9)
   | (go_at_call 170;refine(HV.out _).mono ?_;rintro e w3 ⟨⟨b,rfl⟩,hb3⟩;have HB3:Hid (ug w.heap.size w w3):=Fh.out.trans (hb3.mono Fh.out.size);have HA3:Hid (w3.heap[w.heap.size]? = lp (ye #[rl tz kind,pt p,pt d,pt n,rl tz v] 130)):=(hb3.block _ (ltOf Hl.out)).trans Hl.out;have a31:w3.cell? ⟨w.heap.size,1,od⟩=lp (pt p):=cellOf HA3.out rfl;clear hb3)
   | (go_at_call 151;refine(HC.out _ HB3.out).mono ?_;rintro e w4 ⟨⟨a,k,c,rfl⟩,hb4⟩;have HB4:Hid (ug w.heap.size w w4):=HB3.out.trans (hb4.mono HB3.out.size);clear hb4)))
 all_goals go_ret
 all_goals first|exact⟨⟨_,rfl,.inl rfl⟩,HB4.out⟩|exact⟨⟨_,rfl,.inr (.inr rfl)⟩,HB4.out⟩|exact⟨⟨_,rfl,.inr (.inl rfl)⟩,HB3.out⟩|exact⟨⟨_,rfl,.inl rfl⟩,Fh.out⟩
def N3(v:Int):Int:=if v=2147483647 then 0 else v+1
theorem Qm(w:qq)(v:Int)(h1:0<=v)(h2:v<=2147483647):xi ly 126 #[rl tz v] w fun e w'=>e=pd (rl tz (N3 v))/\w'=w:=by
 by_cases h:v=2147483647
 ·subst h
  go_enter func126,ntmps126
  go_wp2
  go_ret
  exact⟨rfl,rfl⟩
 ·have hv:N3 v=v+1:=aO h
  rw [hv]
  go_enter func126,ntmps126
  go_wp2
  go_ret
  exact⟨rfl,rfl⟩
end Go.Proofs.YtjoblhlkfmeckaaGreatDoor
